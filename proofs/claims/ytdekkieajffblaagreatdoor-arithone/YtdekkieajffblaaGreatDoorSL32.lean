import Derived.Test.YtdekkieajffblaaGreatDoorSL29
import Derived.Maps.OwnSet
set_option linter.unusedVariables false
set_option linter.unusedSimpArgs false
set_option maxRecDepth 100000
namespace Go.Proofs.YtdekkieajffblaaGreatDoor
open Go.RowKit
theorem wkeyed : Maps.Keyed Tryz.prog 32 := Maps.int_keyed Tryz.underlying32
theorem wkey_of {z : Int} (hz : U64 z) : keyOf Tryz.prog 32 (.int .u64 z) = some (.int .u64 z) := Maps.keyOf_int_mk Tryz.underlying32 (by unfold U64 at hz; simp [Lit.wf, IntKind.min, IntKind.max, IntKind.signed, IntKind.bits]; omega)
def MapW (w : World) (Bm : Nat) (q : List Int) : Prop :=
 ∃ D, w.ownsMap (H := Unit) Tryz.prog 32 (plainElem Tryz.prog 3) Bm q.length D /\ ∀ z, U64 z -> Maps.has D (.int .u64 z) = decide (z ∈ q) /\ (z ∈ q -> D.atKey (.int .u64 z) (.lit (.int .i64 0)) = .lit (.int .i64 ((q.idxOf z : Nat) : Int)))
section
variable {w w' : World} {Bm : Nat} {q : List Int} {z : Int}
theorem MapW.frame (h : MapW w Bm q) (hb : w'.heap[Bm]? = w.heap[Bm]?) : MapW w' Bm q := by
 obtain ⟨D, ⟨es, clock, h1, h2, h3, h4⟩, h5⟩ := h
 exact ⟨D, ⟨es, clock, hb.trans h1, h2, h3, h4⟩, h5⟩
theorem MapW.made (w : World) : MapW (w.alloc (.map #[] 0)) w.heap.size [] :=
 ⟨.map [], World.ownsMap_made w _ _ _, fun z hz => ⟨by simp [Maps.has], fun h => by cases h⟩⟩
theorem MapW.look_ok (h : MapW w Bm q) (hz : U64 z) : ∃ c : Int, (Instr.lookup 102 (.map (some Bm)) (.int .u64 z) true).run Tryz.prog w = .ok (.tuple #[.int .i64 c, .bool (decide (z ∈ q))]) w /\ (z ∈ q -> c = (q.idxOf z : Nat)) := by
 obtain ⟨D, h1, h3⟩ := h
 obtain ⟨v, ps, hrun, hv⟩ := h1.look_ok wkeyed Tryz.underlying102 (zint' w) (plainElem_int Tryz.underlying3 (a := 0) (by decide)) (wkey_of hz)
 obtain ⟨c, rfl, hc, _⟩ := plainElem_int_inv Tryz.underlying3 hv
 refine ⟨c, by rw [hrun, (h3 z hz).1], fun hl => ?_⟩
 have := (h3 z hz).2 hl
 have hc1 := congrArg Prod.fst hc
 simp only at hc1
 rw [this] at hc1
 injection hc1 with hc1
 injection hc1 with _ hc1
 exact hc1.symm
theorem MapW.store (h : MapW w Bm q) (hz : U64 z) (hm : z ∉ q) (hl : q.length <= 1000000) : ∃ w', (Instr.mapUpdate 102 (.map (some Bm)) (.int .u64 z) (.int .i64 (q.length : Nat))).run Tryz.prog w = .ok () w' /\ MapW w' Bm (q ++ [z]) /\ w.grownBy w' (some Bm) := by
 obtain ⟨D, h1, h3⟩ := h
 obtain ⟨w', hrun, ho, ht⟩ := h1.store wkeyed Tryz.underlying102 (by unfold maxLen; omega) (wkey_of hz) (plainElem_int Tryz.underlying3 (a := (q.length : Nat)) (WalkArith.wf_i64 (by omega)))
 refine ⟨w', hrun, ⟨_, by rw [List.length_append]; exact ho, fun y hy => ?_⟩, ht.grown⟩
 by_cases e : y = z
 ·subst e
  refine ⟨?_, fun _ => ?_⟩
  ·rw [Maps.has_put_same h1.isMap (wkeyed.key (wkey_of hz))]; simp
  ·rw [Maps.atKey_put_same h1.isMap (wkeyed.key (wkey_of hz)), List.idxOf_append, if_neg hm]; simp
 ·have hne : (Lit.int .u64 y) ≠ .int .u64 z := fun e' => e (by injection e')
  obtain ⟨g1, g2⟩ := h3 y hy
  refine ⟨?_, fun hmem => ?_⟩
  ·rw [Maps.has_put_other hne, g1]
   congr 1
   simp [e]
  ·have hyq : y ∈ q := by
    rcases List.mem_append.1 hmem with h | h
    ·exact h
    ·exact absurd (List.mem_singleton.1 h) e
   rw [Maps.atKey_put_other hne, g2 hyq, List.idxOf_append, if_pos hyq]
end
structure SH (b : Nat) (w0 : World) (v vn vW : Value) (W mq : List Int) (w : World) : Prop where
 bel : Below b w0 w
 box : w.heap[b + 1]? = some (.cells #[v, vn, vW, .map (some b)] 104 (0, 0))
 mp : MapW w b mq
 ow : w.ownsRow (b + 2) 32 1 vW W.length (uz W)
structure Oth (b : Nat) (vW : Value) (w w' : World) : Prop where
 size : w.heap.size <= w'.heap.size
 blk : ∀ k, k < w.heap.size -> k ≠ b -> k ≠ b + 1 -> vW.ownBlock ≠ some k -> w'.heap[k]? = w.heap[k]?
section
variable {b : Nat} {w0 w w' w1 : World} {v vn vW : Value} {W mq : List Int}
theorem SH.lt (h : SH b w0 v vn vW W mq w) : b + 2 <= w.heap.size := (Array.getElem?_eq_some_iff.1 h.box).1
theorem SH.on (h : SH b w0 v vn vW W mq w) (hb : Below w.heap.size w w') : SH b w0 v vn vW W mq w' := by
 have hl := h.lt
 exact ⟨h.bel.trans (hb.mono (by omega)), (hb.block _ (by omega)).trans h.box, h.mp.frame (hb.block _ (by omega)), uown_on h.ow hb⟩
theorem Oth.of_below {vW : Value} (hb : Below w.heap.size w w') : Oth b vW w w' := ⟨hb.size, fun k hk _ _ _ => hb.block k hk⟩
theorem Oth.trans {vW vW' : Value} (h : Oth b vW w w1) (k : Oth b vW' w1 w') (hv : ∀ j, j < w.heap.size -> vW'.ownBlock = some j -> vW.ownBlock = some j) : Oth b vW w w' :=
 ⟨Nat.le_trans h.size k.size, fun j hj h1 h2 h3 => (k.blk j (Nat.lt_of_lt_of_le hj h.size) h1 h2 (fun e => h3 (hv j hj e))).trans (h.blk j hj h1 h2 h3)⟩
theorem SH.turn {mq' : List Int} (h : SH b w0 v vn vW W mq w) (hg : w.grownBy w' (some b)) (hm : MapW w' b mq') : SH b w0 v vn vW W mq' w' /\ Oth b vW w w' := by
 have hl := h.lt
 have hk : ∀ k, k < w.heap.size -> k ≠ b -> w'.heap[k]? = w.heap[k]? := fun k hk hne => hg.block k hk (fun e => hne (Option.some.inj e))
 refine ⟨⟨h.bel.trans ⟨hg.os, hg.tape, hg.output, hg.size, fun k hk' => hk k (by omega) (by omega)⟩, (hk _ (by omega) (by omega)).trans h.box, hm, own_at h.ow (fun k e => ?_)⟩, hg.size, fun k h1 h2 _ _ => hk k h1 h2⟩
 have := h.ow.lt k e
 exact hk k this.2 (by omega)
theorem SH.push {W' : List Int} {g cap n : Nat} (h : SH b w0 v vn vW W mq w) (hn : W'.length = n) (ho : w'.ownsRow (b + 2) 32 1 (.slice (some ⟨g, 0, none⟩) n cap) n (uz W')) (hg : w.grownBy w' vW.ownBlock) (hl : vW.ownBlock = some g \/ g = w.heap.size) :
  SH b w0 v vn (.slice (some ⟨g, 0, none⟩) n cap) W' mq (w'.setCell ⟨b + 1, 2, none⟩ (.slice (some ⟨g, 0, none⟩) n cap)) /\ Oth b vW w (w'.setCell ⟨b + 1, 2, none⟩ (.slice (some ⟨g, 0, none⟩) n cap)) /\ w'.cell? ⟨b + 1, 2, none⟩ = some vW /\ w'.frozen? ⟨b + 1, 2, none⟩ = false := by
 subst hn
 have hs := h.lt
 have hw2 : ∀ k, vW.ownBlock = some k -> b + 2 <= k := fun k e => (h.ow.lt k e).1
 have hk : ∀ k, k < w.heap.size -> vW.ownBlock ≠ some k -> w'.heap[k]? = w.heap[k]? := fun k hk hne => hg.block k hk (fun e => hne e.symm)
 have hlow : ∀ k, k < b + 2 -> w'.heap[k]? = w.heap[k]? := fun k hkb => hk k (by omega) (fun e => by have := hw2 k e; omega)
 have hset : ∀ k, k ≠ b + 1 -> (w'.setCell ⟨b + 1, 2, none⟩ (.slice (some ⟨g, 0, none⟩) W'.length cap)).heap[k]? = w'.heap[k]? := fun k hne => Below.heap_setCell _ _ _ _ hne
 have hg2 : b + 2 <= g := by rcases hl with e | e; exact hw2 g e; omega
 have hbx := (hlow (b + 1) (by omega)).trans h.box
 have hsz : (w'.setCell ⟨b + 1, 2, none⟩ (.slice (some ⟨g, 0, none⟩) W'.length cap)).heap.size = w'.heap.size := by simp [World.setCell]
 refine ⟨⟨?_, ?_, h.mp.frame ((hset _ (by omega)).trans (hlow _ (by omega))), own_at ho (fun k e => ?_)⟩, ⟨by rw [hsz]; exact hg.size, fun k h1 h2 h3 h4 => (hset k h3).trans (hk k h1 h4)⟩, blk_cell hbx 2, blk_free hbx 2⟩
 ·exact (h.bel.trans ⟨hg.os, hg.tape, hg.output, hg.size, fun k hk' => hlow k (by omega)⟩).setCell (p := ⟨b + 1, 2, none⟩) (by show b <= b + 1; omega) _
 ·rw [blk_set (i := 2) hbx]; rfl
 ·have e' : g = k := Option.some.inj e
  exact hset k (by omega)
end
def meetW (W : List Int) (x : Int) : List Int := if x ∈ W then W else W ++ [x]
def metW (W l : List Int) : List Int := l.foldl meetW W
def plL (W l : List Int) : List Int := l.map (fun x => (((metW W l).idxOf x : Nat) : Int))
theorem metW_take {W l : List Int} {q : Nat} (h : q < l.length) : metW W (l.take (q + 1)) = meetW (metW W (l.take q)) (l.getD q 0) := by
 unfold metW
 rw [List.take_succ_eq_append_getElem h, List.foldl_append, List.getD_eq_getElem?_getD, List.getElem?_eq_getElem h]; rfl
theorem meet_pre (W : List Int) (x : Int) : W <+: meetW W x := by
 unfold meetW; split
 ·exact List.prefix_refl _
 ·exact List.prefix_append _ _
theorem meet_mem (W : List Int) (x : Int) : x ∈ meetW W x := by
 unfold meetW; split
 ·assumption
 ·simp
theorem met_pre (W : List Int) : ∀ l : List Int, W <+: metW W l
 | [] => List.prefix_refl _
 | x :: l => (meet_pre W x).trans (met_pre (meetW W x) l)
theorem met_mem {l : List Int} : ∀ {W : List Int} {x : Int}, x ∈ l -> x ∈ metW W l := by
 induction l with
 | nil => intro W x h; cases h
 | cons y l ih =>
  intro W x h
  show x ∈ metW (meetW W y) l
  rcases List.mem_cons.1 h with rfl | h
  ·exact (met_pre _ l).subset (meet_mem W x)
  ·exact ih h
theorem idx_pre {a c : List Int} {x : Int} (h : a <+: c) (hx : x ∈ a) : c.idxOf x = a.idxOf x := by
 obtain ⟨d, rfl⟩ := h
 rw [List.idxOf_append, if_pos hx]
theorem plL_take {W l : List Int} {q : Nat} (h : q < l.length) : plL W (l.take (q + 1)) = plL W (l.take q) ++ [(((metW W (l.take (q + 1))).idxOf (l.getD q 0) : Nat) : Int)] := by
 have e : l.take (q + 1) = l.take q ++ [l.getD q 0] := by rw [List.take_succ_eq_append_getElem h, List.getD_eq_getElem?_getD, List.getElem?_eq_getElem h]; rfl
 have hm := metW_take (W := W) h
 unfold plL
 conv => lhs; arg 2; rw [e]
 rw [List.map_append]
 congr 1
 refine List.map_congr_left (fun x hx => ?_)
 rw [hm, idx_pre (meet_pre _ _) (met_mem hx)]
theorem meet_nodup {W : List Int} {x : Int} (h : W.Nodup) : (meetW W x).Nodup := by
 unfold meetW; split
 ·exact h
 ·rename_i hx
  rw [List.nodup_append]
  refine ⟨h, by simp, fun a ha b hb => ?_⟩
  rw [List.mem_singleton.1 hb]
  exact fun e => hx (by rw [<- e]; exact ha)
theorem met_nodup : ∀ (l : List Int) {W : List Int}, W.Nodup -> (metW W l).Nodup
 | [], _, h => h
 | x :: l, W, h => met_nodup l (W := meetW W x) (meet_nodup h)
theorem meet_sub {W : List Int} {x y : Int} (h : y ∈ meetW W x) : y ∈ W \/ y = x := by
 unfold meetW at h; split at h
 ·exact .inl h
 ·rcases List.mem_append.1 h with h | h
  ·exact .inl h
  ·exact .inr (List.mem_singleton.1 h)
theorem met_sub : ∀ {l W : List Int} {y : Int}, y ∈ metW W l -> y ∈ W \/ y ∈ l
 | [], _, _, h => .inl h
 | x :: l, W, y, h => by
  rcases met_sub (l := l) (W := meetW W x) h with h | h
  ·rcases meet_sub h with h | h
   ·exact .inl h
   ·exact .inr (by rw [h]; exact List.mem_cons_self)
  ·exact .inr (List.mem_cons_of_mem _ h)
structure POw (b : Nat) (w0 : World) (v vn vW : Value) (w : World) (vo vW' : Value) (n : Nat) (o Q mq : List Int) (w1 : World) : Prop where
 lt : b + 2 <= w.heap.size
 sh : SH b w0 v vn vW' Q mq w1
 oth : Oth b vW w w1
 own : w1.ownsRow w.heap.size 3 1 vo n (iz o)
 blk : ∀ k, vW'.ownBlock = some k -> vW.ownBlock = some k \/ w.heap.size <= k
 ne : ∀ k, vo.ownBlock = some k -> vW'.ownBlock ≠ some k
section
variable {b n : Nat} {w0 w w1 w2 : World} {v vn vW vo vW' : Value} {o Q mq : List Int}
theorem POw.on (h : POw b w0 v vn vW w vo vW' n o Q mq w1) (hb : Below w1.heap.size w1 w2) : POw b w0 v vn vW w vo vW' n o Q mq w2 :=
 ⟨h.lt, h.sh.on hb, h.oth.trans (Oth.of_below (vW := vW) hb) (fun _ _ e => e), uown_on h.own hb, h.blk, h.ne⟩
theorem POw.turn {mq' : List Int} (h : POw b w0 v vn vW w vo vW' n o Q mq w1) (hg : w1.grownBy w2 (some b)) (hm : MapW w2 b mq') : POw b w0 v vn vW w vo vW' n o Q mq' w2 := by
 obtain ⟨h1, h2⟩ := h.sh.turn hg hm
 have hl := h.lt
 refine ⟨h.lt, h1, h.oth.trans h2 (fun j hj e => ?_), own_at h.own (fun k e => ?_), h.blk, h.ne⟩
 ·rcases h.blk j e with e | e
  ·exact e
  ·omega
 ·have := h.own.lt k e
  exact h2.blk k this.2 (by omega) (by omega) (h.ne k e)
theorem POw.push {Q' : List Int} {g cap m : Nat} (h : POw b w0 v vn vW w vo vW' n o Q mq w1) (hn : Q'.length = m) (ho : w2.ownsRow (b + 2) 32 1 (.slice (some ⟨g, 0, none⟩) m cap) m (uz Q')) (hg : w1.grownBy w2 vW'.ownBlock) (hl : vW'.ownBlock = some g \/ g = w1.heap.size) :
  POw b w0 v vn vW w vo (.slice (some ⟨g, 0, none⟩) m cap) n o Q' mq (w2.setCell ⟨b + 1, 2, none⟩ (.slice (some ⟨g, 0, none⟩) m cap)) /\ w2.cell? ⟨b + 1, 2, none⟩ = some vW' /\ w2.frozen? ⟨b + 1, 2, none⟩ = false := by
 obtain ⟨h1, h2, h3, h4⟩ := h.sh.push hn ho hg hl
 have hlt := h.lt
 have hsz := h.oth.size
 refine ⟨⟨h.lt, h1, h.oth.trans h2 (fun j hj e => ?_), own_at h.own (fun k e => ?_), fun k e => ?_, fun k e e' => ?_⟩, h3, h4⟩
 ·rcases h.blk j e with e | e
  ·exact e
  ·omega
 ·have := h.own.lt k e
  exact h2.blk k this.2 (by omega) (by omega) (h.ne k e)
 ·have e' : g = k := Option.some.inj e
  subst e'
  rcases hl with e2 | e2
  ·exact h.blk g e2
  ·exact .inr (by omega)
 ·have e2 : g = k := Option.some.inj e'
  subst e2
  rcases hl with e2 | e2
  ·exact h.ne g e e2
  ·have := (h.own.lt g e).2; omega
theorem POw.grow {o' : List Int} {g cap m : Nat} (h : POw b w0 v vn vW w vo vW' n o Q mq w1) (ho : w2.ownsRow w.heap.size 3 1 (.slice (some ⟨g, 0, none⟩) m cap) m (iz o')) (hg : w1.grownBy w2 vo.ownBlock) (hl : vo.ownBlock = some g \/ g = w1.heap.size) :
  POw b w0 v vn vW w (.slice (some ⟨g, 0, none⟩) m cap) vW' m o' Q mq w2 := by
 have hlt := h.lt
 have hsz := h.oth.size
 have hs2 := h.sh.lt
 have hge : ∀ k, vo.ownBlock = some k -> w.heap.size <= k := fun k e => (h.own.lt k e).1
 have hk : ∀ k, k < w1.heap.size -> vo.ownBlock ≠ some k -> w2.heap[k]? = w1.heap[k]? := fun k hk hne => hg.block k hk (fun e => hne e.symm)
 have hlow : ∀ k, k < w.heap.size -> w2.heap[k]? = w1.heap[k]? := fun k hkb => hk k (by omega) (fun e => by have := hge k e; omega)
 refine ⟨h.lt, ⟨h.sh.bel.trans ⟨hg.os, hg.tape, hg.output, hg.size, fun k hk' => hlow k (by omega)⟩, (hlow _ (by omega)).trans h.sh.box, h.sh.mp.frame (hlow _ (by omega)), own_at h.sh.ow (fun k e => ?_)⟩, ⟨Nat.le_trans hsz hg.size, fun k h1 h2 h3 h4 => (hlow k h1).trans (h.oth.blk k h1 h2 h3 h4)⟩, ho, h.blk, fun k e e' => ?_⟩
 ·exact hk k (h.sh.ow.lt k e).2 (fun e' => h.ne k e' e)
 ·have e2 : g = k := Option.some.inj e
  subst e2
  rcases hl with e2 | e2
  ·exact h.ne g e2 e'
  ·have := (h.sh.ow.lt g e').2; omega
end
def PLPost (b : Nat) (w0 : World) (v vn vW : Value) (W l : List Int) (nl : Nat) (w : World) (e : Ending) (w' : World) : Prop :=
 ∃ vo vW', e = .returned vo /\ POw b w0 v vn vW w vo vW' nl (plL W l) (metW W l) (metW W l) w'
theorem met_len : ∀ (l W : List Int), (metW W l).length <= W.length + l.length
 | [], W => by simp [metW]
 | x :: l, W => by
  have h1 := met_len l (meetW W x)
  have h2 : (meetW W x).length <= W.length + 1 := by unfold meetW; split <;> simp
  have e : metW W (x :: l) = metW (meetW W x) l := rfl
  rw [e]; simp; omega
section
variable {b : Nat} {w0 : World} {v vn vW : Value} {W : List Int}
set_option maxHeartbeats 8000000 in
theorem places_any (al : Option Addr) (nl cl : Nat) (l : List Int) (w : World) (h : SH b w0 v vn vW W W w) (K : ∀ wx, Oth b vW w wx -> URow wx al nl cl l) (hlen : W.length + nl <= 100000) :
  Calls Tryz.prog 68 #[.pointer (some ⟨b + 1, 0, none⟩), .slice al nl cl] w (PLPost b w0 v vn vW W l nl w) := by
 have hR := K w ⟨Nat.le_refl _, fun k _ _ _ _ => rfl⟩
 have hf := hR.fits
 have hm := hR.most
 unfold maxLen at hm
 have HL := hid hR.len
 have HU := hid hR.bd
 have HK := hid K
 have HP0 : Hid (POw b w0 v vn vW w (.slice none 0 0) vW 0 (plL W (l.take 0)) (metW W (l.take 0)) (metW W (l.take 0)) w) := by
  refine ⟨h.lt, ?_, ⟨Nat.le_refl _, fun k _ _ _ _ => rfl⟩, ?_, fun k e => .inl e, fun k e => by cases e⟩
  ·simpa [metW] using h
  ·simpa [plL, iz] using World.ownsRow_nil w w.heap.size 3 1
 have hlw := hid hlen
 clear hR K h hlen
 go_enter Tryz.func68, Tryz.ntmps68
 go_wp2_with fail
 go_loopw [5, 7, 8, 9, 12] (fun vo _ _ _ i wr => ∃ q : Nat, q <= nl /\ i = .int .i64 q /\ Hid (∃ vW', POw b w0 v vn vW w vo vW' q (plL W (l.take q)) (metW W (l.take q)) (metW W (l.take q)) wr)) (fun _ _ _ _ i _ => nl - (intOf i).toNat)
 case atStart => exact ⟨0, Nat.zero_le _, rfl, vW, HP0.out⟩
 case round =>
  obtain ⟨q, hq, rfl, HI0⟩ := hrel
  obtain ⟨vW', hI⟩ := HI0.out
  have HI := hid hI
  clear HI0
  by_cases hlt : q < nl
  ·have hql : q < l.length := by rw [HL.out]; exact hlt
   have hR := HK.out wr hI.oth
   obtain ⟨bl, ol, ela, hlb, hc⟩ := hR.some (by omega)
   have hcx := hc q hlt
   subst ela
   have hxu : U64 (l.getD q 0) := HU.out _ (getD_in_f hql)
   have HM1 := hid (metW_take (W := W) hql)
   have HM2 := hid (plL_take (W := W) hql)
   have hml := met_len (l.take q) W
   rw [List.length_take, Nat.min_eq_left (by omega)] at hml
   have hml2 : (metW W (l.take q)).length <= 100000 := by have := hlw.out; omega
   obtain ⟨x, hx⟩ : ∃ x, x = l.getD q 0 := ⟨_, rfl⟩
   rw [<- hx] at hcx hxu HM1 HM2
   obtain ⟨Q, hQ⟩ : ∃ x, x = metW W (l.take q) := ⟨_, rfl⟩
   rw [<- hQ] at HI HM1 hI hml2
   obtain ⟨o, ho⟩ : ∃ x, x = plL W (l.take q) := ⟨_, rfl⟩
   rw [<- ho] at HI HM2 hI
   have c3 : wr.cell? ⟨b + 1, 3, none⟩ = some (.map (some b)) := blk_cell hI.sh.box 3
   obtain ⟨c, hrun, hci⟩ := hI.sh.mp.look_ok hxu
   have HXU := hid hxu
   obtain ⟨av, cv, rfl, hvc, hvm⟩ := slice_form hI.own
   by_cases hmem : x ∈ Q
   ·obtain rfl := hci hmem
    rw [decide_eq_true hmem] at hrun
    have HQE : Hid (meetW Q x = Q) := by unfold Hid meetW; rw [if_pos hmem]
    rw [HQE.out] at HM1
    obtain ⟨ix, hix⟩ : ∃ i : Nat, i = Q.idxOf x := ⟨_, rfl⟩
    rw [HM1.out, <- hix] at HM2
    rw [<- hix] at hrun
    have HA := hid (HI.out.on (Ba wr (.cells #[.int .i64 (ix : Nat)] 3)))
    have HC : Hid ((wr.alloc (.cells #[.int .i64 (ix : Nat)] 3)).cell? ⟨wr.heap.size, 0, none⟩ = some (.int .i64 (ix : Nat))) := blk_cell (blk_new wr #[.int .i64 (ix : Nat)] 3) 0
    have HZ := hid HA.out.oth.size
    have hq1 : q <= 10000000 := by have := hlw.out; omega
    clear hR hlb hc hx hQ ho hxu hI hci hmem hix hvc hvm hml hml2 hql
    go_wp2_with (at_builtin; refine appi rfl _ _ 73 rfl w.heap.size 3 Tryz.underlying73 info_iz _ q o rfl HA.out.own ⟨wr.heap.size, 0, none⟩ 1 (ix : Nat) rfl HC.out hq1 HZ.out ?_; intro g cap w4 ho4 hg4 hl4 hlt4; have HP4 := hid (HA.out.grow ho4 hg4 hl4); clear ho4 hg4 hl4 hlt4)
    refine ⟨⟨q + 1, by omega, by go_num, vW', ?_⟩, by simp [intOf] <;> omega⟩
    rw [HM1.out, HM2.out]
    exact HP4.out
   ·rw [decide_eq_false hmem] at hrun
    have HQE : Hid (meetW Q x = Q ++ [x]) := by unfold Hid meetW; rw [if_neg hmem]
    rw [HQE.out] at HM1
    have hidx : (Q ++ [x]).idxOf x = Q.length := by rw [List.idxOf_append, if_neg hmem]; simp
    rw [HM1.out, hidx] at HM2
    obtain ⟨W2, hst, hm2, hg2⟩ := hI.sh.mp.store hxu hmem (by omega)
    have h2 := hI.turn hg2 hm2
    obtain ⟨aW, cW, rfl, hwc, hwm⟩ := slice_form hI.sh.ow
    have c2 : wr.cell? ⟨b + 1, 2, none⟩ = some (.slice aW Q.length cW) := blk_cell hI.sh.box 2
    have d2 : W2.cell? ⟨b + 1, 2, none⟩ = some (.slice aW Q.length cW) := blk_cell h2.sh.box 2
    have h3 := h2.on (Ba W2 (.cells #[.int .u64 x] 32))
    have HQ3 := hid h3
    have HW3 := hid h3.sh.ow
    have HZ3 : Hid (b + 2 <= (W2.alloc (.cells #[.int .u64 x] 32)).heap.size) := Nat.le_trans h3.lt h3.oth.size
    have HC3 : Hid ((W2.alloc (.cells #[.int .u64 x] 32)).cell? ⟨W2.heap.size, 0, none⟩ = some (.int .u64 x)) := blk_cell (blk_new W2 #[.int .u64 x] 32) 0
    have HLQ : Hid ((Q ++ [x]).length = Q.length + 1) := List.length_append
    obtain ⟨nQ, hnQ⟩ : ∃ i : Nat, i = Q.length := ⟨_, rfl⟩
    rw [<- hnQ] at c2 d2 hst HM2 HW3 hwc hml2 HLQ HQ3
    have hq1 : q <= 10000000 := by have := hlw.out; omega
    have hn1 : nQ <= 10000000 := by omega
    have arm : Hid (∀ W6 vW6, POw b w0 v vn vW w (.slice av q cv) vW6 q o (Q ++ [x]) (Q ++ [x]) W6 -> POw b w0 v vn vW w (.slice av q cv) vW6 q o (Q ++ [x]) (Q ++ [x]) (W6.alloc (.cells #[.int .i64 (nQ : Nat)] 3)) /\ (W6.alloc (.cells #[.int .i64 (nQ : Nat)] 3)).cell? ⟨W6.heap.size, 0, none⟩ = some (.int .i64 (nQ : Nat)) /\ w.heap.size <= (W6.alloc (.cells #[.int .i64 (nQ : Nat)] 3)).heap.size) := fun W6 vW6 h6 =>
     ⟨h6.on (Ba W6 _), blk_cell (blk_new W6 #[.int .i64 (nQ : Nat)] 3) 0, (h6.on (Ba W6 (.cells #[.int .i64 (nQ : Nat)] 3))).oth.size⟩
    clear hR hlb hc hx hQ ho hxu hI hci hmem hvc hvm hml hml2 hql hidx hm2 hg2 h2 h3 hnQ hwc hwm
    go_wp2_with (first
     | (at_builtin; refine appW rfl _ _ 51 rfl (b + 2) 32 Tryz.underlying51 info_word _ nQ Q rfl HW3.out ⟨W2.heap.size, 0, none⟩ 1 x rfl HC3.out hn1 HZ3.out ?_; intro g5 cap5 w5 ho5 hg5 hl5 hlt5; obtain ⟨p5, e5, f5⟩ := HQ3.out.push HLQ.out ho5 hg5 hl5; obtain ⟨p6, e6, z6⟩ := arm.out _ _ p5; have hsz5 : (w5.setCell ⟨b + 1, 2, none⟩ (.slice (some ⟨g5, 0, none⟩) (nQ + 1) cap5)).heap.size = w5.heap.size := (by simp [World.setCell]); rw [hsz5] at e6; have HP6 := hid p6; have HC6 := hid e6; have HZ6 := hid z6; clear ho5 hg5 hl5 hlt5 p5 p6 e6 z6 hsz5)
     | (at_builtin; refine appi rfl _ _ 73 rfl w.heap.size 3 Tryz.underlying73 info_iz _ q o rfl HP6.out.own ⟨w5.heap.size, 0, none⟩ 1 (nQ : Nat) rfl HC6.out hq1 HZ6.out ?_; intro g7 cap7 w7 ho7 hg7 hl7 hlt7; have HP7 := hid (HP6.out.grow ho7 hg7 hl7); clear ho7 hg7 hl7 hlt7))
    refine ⟨⟨q + 1, by omega, by go_num, .slice (some ⟨g5, 0, none⟩) (nQ + 1) cap5, ?_⟩, by simp [intOf] <;> omega⟩
    rw [HM1.out, HM2.out]
    exact HP7.out
  ·obtain rfl : nl = q := by omega
   have h2 := hI
   rw [List.take_of_length_le (by rw [HL.out]; exact Nat.le_refl _)] at h2
   have HF : Hid (PLPost b w0 v vn vW W l nl w (.returned u5) wr) := ⟨u5, vW', rfl, h2⟩
   clear h2 hI HI
   go_wp2_with fail
   go_ret
   exact HF.out
end
end Go.Proofs.YtdekkieajffblaaGreatDoor
