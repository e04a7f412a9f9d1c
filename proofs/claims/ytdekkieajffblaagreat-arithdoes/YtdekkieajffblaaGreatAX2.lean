/-
  ArithDoes: asks.
-/
import Derived.Test.YtdekkieajffblaaGreatAD3
import Derived.Test.YtdekkieajffblaaGreatAArg
import Derived.Test.YtdekkieajffblaaGreatAB3
import Derived.Test.YtdekkieajffblaaGreatAW3
set_option linter.unusedVariables false
set_option linter.unusedSimpArgs false
set_option maxRecDepth 100000
namespace Go.Proofs.YtdekkieajffblaaGreat
open Go.RowKit

/-- The program's heap, the document's, and a row of words. -/
structure AX (B : Nat) (W1 : World) (gh g : Nat) (N : Int) (osP osR : List Ob) (vW : Value) (ws : List Int) (K : Nat → Prop) (wr : World) : Prop where
  ex : ∃ F vL ls, Mx B (.pointer (some ⟨gh, 0, none⟩)) g N osP osR F vL ls wr ∧ ∀ b, (vW.ownBlock = some b ∨ K b) → ¬ F b ∧ ¬ RF g vL ls b
  row : wr.ownsRow B 35 1 vW ws.length (uz ws)
  uw : ∀ z ∈ ws, U64 z
  bel : Below B W1 wr
  kl : ∀ b, K b → b < wr.heap.size
section
variable {B gh g : Nat} {W1 : World} {N : Int} {osP osR : List Ob} {vW : Value} {ws : List Int} {K : Nat → Prop} {w w' : World}
theorem AX.on (h : AX B W1 gh g N osP osR vW ws K w) (hb : Below w.heap.size w w') : AX B W1 gh g N osP osR vW ws K w' := by
  obtain ⟨F, vL, ls, hM, hd⟩ := h.ex
  exact ⟨⟨F, vL, ls, hM.on hb, hd⟩, uown_on h.row hb, h.uw, h.bel.trans (hb.mono hM.bw), fun b e => Nat.lt_of_lt_of_le (h.kl b e) hb.size⟩
theorem AX.lay (h : AX B W1 gh g N osP osR vW ws K w) (x : Value) (z : Int) (hx : IsInt w x z) :
    Calls Tryz.prog 8 #[.pointer (some ⟨gh, 0, none⟩), x] w fun e w' => e = .returned (.tuple #[.int .u64 (layM osP N z).1, .int .i64 (layM osP N z).2]) ∧ AX B W1 gh g N (layO osP N z) osR vW ws K w' ∧ ∀ b, K b → w'.heap[b]? = w.heap[b]? := by
  obtain ⟨F, vL, ls, hM, hd⟩ := h.ex
  refine (alay_any hM.okP x z w hM.ph hx hM.bw).mono ?_
  rintro e w' ⟨rfl, hp⟩
  obtain ⟨F', hM', hk, hb⟩ := hM.p (layO_ok hM.okP N z) hp
  have hlt : ∀ b, (vW.ownBlock = some b ∨ K b) → b < w.heap.size := fun b e => by rcases e with e | e; exact (h.row.lt b e).2; exact h.kl b e
  exact ⟨rfl, ⟨⟨F', vL, ls, hM', fun b e => ⟨(hk b (hlt b e) (hd b e).1).1, (hd b e).2⟩⟩, own_at h.row (fun b e => (hk b (hlt b (.inl e)) (hd b (.inl e)).1).2), h.uw, h.bel.trans hb, fun b e => Nat.lt_of_lt_of_le (h.kl b e) hb.size⟩, fun b e => (hk b (hlt b (.inr e)) (hd b (.inr e)).1).2⟩
theorem AX.do_ (h : AX B W1 gh g N osP osR vW ws K w) (ha : AllBig osP) (op p q : Int) (hp : U64 p) (hq : U64 q) :
    Calls Tryz.prog 18 #[.pointer (some ⟨gh, 0, none⟩), .int .i64 op, .int .u64 p, .int .u64 q] w fun e w' => e = .returned (.tuple #[.int .u64 (doM osP N op p q).1, .int .i64 (doM osP N op p q).2]) ∧ AX B W1 gh g N (doO osP N op p q) osR vW ws K w' ∧ ∀ b, K b → w'.heap[b]? = w.heap[b]? := by
  obtain ⟨F, vL, ls, hM, hd⟩ := h.ex
  refine (ado_any hM.okP ha op p q hp hq w hM.ph hM.bw).mono ?_
  rintro e w' ⟨rfl, hp⟩
  obtain ⟨F', hM', hk, hb⟩ := hM.p (doO_ok hM.okP N op p q) hp
  have hlt : ∀ b, (vW.ownBlock = some b ∨ K b) → b < w.heap.size := fun b e => by rcases e with e | e; exact (h.row.lt b e).2; exact h.kl b e
  exact ⟨rfl, ⟨⟨F', vL, ls, hM', fun b e => ⟨(hk b (hlt b e) (hd b e).1).1, (hd b e).2⟩⟩, own_at h.row (fun b e => (hk b (hlt b (.inl e)) (hd b (.inl e)).1).2), h.uw, h.bel.trans hb, fun b e => Nat.lt_of_lt_of_le (h.kl b e) hb.size⟩, fun b e => (hk b (hlt b (.inr e)) (hd b (.inr e)).1).2⟩
theorem AX.rlay (h : AX B W1 gh g N osP osR vW ws K w) (x : Value) (z : Int) (hx : IsInt w x z) :
    Calls Tryz.prog 9 #[.pointer (some ⟨g, 0, none⟩), x] w fun e w' => e = .returned (.tuple #[.int .u64 (layM osR N z).1, .int .i64 (layM osR N z).2]) ∧ AX B W1 gh g N osP (layO osR N z) vW ws K w' ∧ ∀ b, K b → w'.heap[b]? = w.heap[b]? := by
  obtain ⟨F, vL, ls, hM, hd⟩ := h.ex
  have hC := dlay_any x z w hM.rh hx hM.bw
  rw [hM.mp] at hC
  refine hC.mono ?_
  rintro e w' ⟨rfl, hp⟩
  obtain ⟨vL', ls', hM', hk, hb⟩ := hM.r (layO_ok hM.okR N z) hp
  have hlt : ∀ b, (vW.ownBlock = some b ∨ K b) → b < w.heap.size := fun b e => by rcases e with e | e; exact (h.row.lt b e).2; exact h.kl b e
  exact ⟨rfl, ⟨⟨F, vL', ls', hM', fun b e => ⟨(hd b e).1, (hk b (hlt b e) (hd b e).2).1⟩⟩, own_at h.row (fun b e => (hk b (hlt b (.inl e)) (hd b (.inl e)).2).2), h.uw, h.bel.trans hb, fun b e => Nat.lt_of_lt_of_le (h.kl b e) hb.size⟩, fun b e => (hk b (hlt b (.inr e)) (hd b (.inr e)).2).2⟩
theorem AX.rdo (h : AX B W1 gh g N osP osR vW ws K w) (ha : AllBig osR) (op p q : Int) (hp : U64 p) (hq : U64 q) :
    Calls Tryz.prog 19 #[.pointer (some ⟨g, 0, none⟩), .int .i64 op, .int .u64 p, .int .u64 q] w fun e w' => e = .returned (.tuple #[.int .u64 (doM osR N op p q).1, .int .i64 (doM osR N op p q).2]) ∧ AX B W1 gh g N osP (doO osR N op p q) vW ws K w' ∧ ∀ b, K b → w'.heap[b]? = w.heap[b]? := by
  obtain ⟨F, vL, ls, hM, hd⟩ := h.ex
  have hC := ddo_any op p q hp hq w hM.rh (by rw [hM.mp]; exact ha) hM.bw
  rw [hM.mp] at hC
  refine hC.mono ?_
  rintro e w' ⟨rfl, hp⟩
  obtain ⟨vL', ls', hM', hk, hb⟩ := hM.r (doO_ok hM.okR N op p q) hp
  have hlt : ∀ b, (vW.ownBlock = some b ∨ K b) → b < w.heap.size := fun b e => by rcases e with e | e; exact (h.row.lt b e).2; exact h.kl b e
  exact ⟨rfl, ⟨⟨F, vL', ls', hM', fun b e => ⟨(hd b e).1, (hk b (hlt b e) (hd b e).2).1⟩⟩, own_at h.row (fun b e => (hk b (hlt b (.inl e)) (hd b (.inl e)).2).2), h.uw, h.bel.trans hb, fun b e => Nat.lt_of_lt_of_le (h.kl b e) hb.size⟩, fun b e => (hk b (hlt b (.inr e)) (hd b (.inr e)).2).2⟩
theorem AX.room (h : AX B W1 gh g N osP osR vW ws K w) (ha : AllBig osP) (op p q : Int) (hp : U64 p) (hq : U64 q) :
    Calls Tryz.prog 11 #[.pointer (some ⟨gh, 0, none⟩), .int .i64 op, .int .u64 p, .int .u64 q] w fun e w' => e = .returned (.int .i64 (needZ (resZ osP op p q).1)) ∧ Below w.heap.size w w' := by
  obtain ⟨F, vL, ls, hM, hd⟩ := h.ex
  exact aroom_any hM.okP ha op p q hp hq w hM.ph
theorem AX.rroom (h : AX B W1 gh g N osP osR vW ws K w) (ha : AllBig osR) (op p q : Int) (hp : U64 p) (hq : U64 q) :
    Calls Tryz.prog 16 #[.pointer (some ⟨g, 0, none⟩), .int .i64 op, .int .u64 p, .int .u64 q] w fun e w' => e = .returned (.int .i64 (needZ (resZ osR op p q).1)) ∧ Below w.heap.size w w' := by
  obtain ⟨F, vL, ls, hM, hd⟩ := h.ex
  have hC := droom_any op p q hp hq w hM.rh (by rw [hM.mp]; exact ha)
  rw [hM.mp] at hC
  exact hC
theorem AX.number (h : AX B W1 gh g N osP osR vW ws K w) (ha : AllBig osP) (p : Int) (hp : U64 p) :
    Calls Tryz.prog 12 #[.pointer (some ⟨gh, 0, none⟩), .int .u64 p] w fun e w' => ∃ s ao n cap, e = .returned (.tuple #[.agg #[.bool s, .slice ao n cap], .bool (numM osP p).isSome]) ∧ IsInt w' (.agg #[.bool s, .slice ao n cap]) ((numM osP p).getD 0) ∧ Below w.heap.size w w' := by
  obtain ⟨F, vL, ls, hM, hd⟩ := h.ex
  exact anumber_any hM.okP ha p hp w hM.ph
theorem AX.rnumber (h : AX B W1 gh g N osP osR vW ws K w) (ha : AllBig osR) (p : Int) (hp : U64 p) :
    Calls Tryz.prog 13 #[.pointer (some ⟨g, 0, none⟩), .int .u64 p] w fun e w' => ∃ s ao n cap, e = .returned (.tuple #[.agg #[.bool s, .slice ao n cap], .bool (numM osR p).isSome]) ∧ IsInt w' (.agg #[.bool s, .slice ao n cap]) ((numM osR p).getD 0) ∧ Below w.heap.size w w' := by
  obtain ⟨F, vL, ls, hM, hd⟩ := h.ex
  have hC := dnumber_any p hp w hM.rh (by rw [hM.mp]; exact ha)
  rw [hM.mp] at hC
  exact hC
theorem AX.cmp (h : AX B W1 gh g N osP osR vW ws K w) (ha : AllBig osP) (p q : Int) (hp : U64 p) (hq : U64 q) :
    Calls Tryz.prog 14 #[.pointer (some ⟨gh, 0, none⟩), .int .u64 p, .int .u64 q] w fun e w' => e = .returned (.tuple #[.int .i64 (cmpM osP p q), .int .i64 (bothZ osP p q).2.2]) ∧ Below w.heap.size w w' := by
  obtain ⟨F, vL, ls, hM, hd⟩ := h.ex
  exact acmp_any hM.okP ha p q hp hq w hM.ph
theorem AX.used (h : AX B W1 gh g N osP osR vW ws K w) : Calls Tryz.prog 20 #[.pointer (some ⟨gh, 0, none⟩)] w fun e w' => e = .returned (.int .i64 (usedL osP : Nat)) ∧ Below w.heap.size w w' := by
  obtain ⟨F, vL, ls, hM, hd⟩ := h.ex
  have := pused_any w hM.ph
  rw [wordsL_length] at this
  exact this
theorem AX.rused (h : AX B W1 gh g N osP osR vW ws K w) : Calls Tryz.prog 21 #[.pointer (some ⟨g, 0, none⟩)] w fun e w' => e = .returned (.int .i64 (usedL osR : Nat)) ∧ Below w.heap.size w w' := by
  obtain ⟨F, vL, ls, hM, hd⟩ := h.ex
  have := rused_any w hM.rh
  rw [hM.mp] at this
  exact this
theorem AX.words (h : AX B W1 gh g N osP osR vW ws K w) : Calls Tryz.prog 22 #[.pointer (some ⟨g, 0, none⟩)] w fun e w' => ∃ ao cap, e = .returned (.slice ao (usedL osR) cap) ∧ URow w' ao (usedL osR) cap (wordsL osR) ∧ Below w.heap.size w w' := by
  obtain ⟨F, vL, ls, hM, hd⟩ := h.ex
  have := rwords_any w hM.rh
  rw [hM.mp] at this
  refine this.mono ?_
  rintro e w' ⟨ao, cap, h1, h2, _, h4⟩
  exact ⟨ao, cap, h1, h2, h4⟩
theorem AX.word (h : AX B W1 gh g N osP osR vW ws K w) {k : Nat} (hk : k < usedL osP) : Calls Tryz.prog 23 #[.pointer (some ⟨gh, 0, none⟩), .int .i64 k] w fun e w' => e = .returned (.int .u64 ((wordsL osP).getD k 0)) ∧ Below w.heap.size w w' := by
  obtain ⟨F, vL, ls, hM, hd⟩ := h.ex
  refine (q_word (by rw [wordsL_length]; exact hk) w hM.ph).mono ?_
  rintro e w' ⟨rfl, rfl⟩
  exact ⟨rfl, Below.refl _ _⟩
theorem AX.le (h : AX B W1 gh g N osP osR vW ws K w) : ((usedL osP : Nat) : Int) ≤ N ∧ N ≤ 4194304 := by
  obtain ⟨F, vL, ls, hM, hd⟩ := h.ex
  have := hM.ph.bd
  rw [wordsL_length] at this
  exact this
theorem AX.urow (h : AX B W1 gh g N osP osR vW ws K w) : ∃ ao cap, vW = .slice ao ws.length cap ∧ URow w ao ws.length cap ws := urow_own h.row h.uw
theorem AX.bw (h : AX B W1 gh g N osP osR vW ws K w) : B ≤ w.heap.size := by
  obtain ⟨F, vL, ls, hM, hd⟩ := h.ex
  exact hM.bw
theorem AX.push (h : AX B W1 gh g N osP osR vW ws K w) {p : Int} {g2 cap n : Nat} (hu : U64 p) (hn : ws.length = n) (ho : w'.ownsRow B 35 1 (.slice (some ⟨g2, 0, none⟩) (n + 1) cap) (n + 1) (bkz .u64 (ws ++ [p]))) (hg : w.grownBy w' vW.ownBlock) (hl : vW.ownBlock = some g2 ∨ g2 = w.heap.size) :
    AX B W1 gh g N osP osR (.slice (some ⟨g2, 0, none⟩) (n + 1) cap) (ws ++ [p]) K w' := by
  obtain ⟨F, vL, ls, hM, hd⟩ := h.ex
  have hF := hM.ph.ge
  have hR := hM.rh.foot_ge
  have hg2 : ¬ F g2 ∧ ¬ RF g vL ls g2 := by
    rcases hl with e | e
    · exact hd g2 (.inl e)
    · exact ⟨fun hf => by have := (hF g2 hf).2; omega, fun hf => by have := (hR g2 hf).2; omega⟩
  have hbel : Below B W1 w' := h.bel.grown hg hM.bw (fun b hb => (h.row.lt b hb).1)
  have hsz : w.heap.size ≤ w'.heap.size := by
    have h2 : Below B w w' := (Below.refl B w).grown hg hM.bw (fun b hb => (h.row.lt b hb).1)
    exact h2.size
  have hl2 : (ws ++ [p]).length = n + 1 := by simp [hn]
  refine ⟨⟨F, vL, ls, hM.keep hsz (fun b e => hg.block b (hF b e).2 (fun e2 => (hd b (.inl e2.symm)).1 e)) (fun b e => hg.block b (hR b e).2 (fun e2 => (hd b (.inl e2.symm)).2 e)), fun b e => ?_⟩, by rw [hl2]; exact ho, fun z hz => ?_, hbel, fun b e => Nat.lt_of_lt_of_le (h.kl b e) hsz⟩
  · rcases e with e | e
    · have e2 : g2 = b := Option.some.inj e
      rw [← e2]; exact hg2
    · exact hd b (.inr e)
  · rcases List.mem_append.1 hz with hz | hz
    · exact h.uw z hz
    · rw [List.mem_singleton] at hz
      rw [hz]; exact hu
/-- A block of its own is kept, too. -/
theorem AX.box (h : AX B W1 gh g N osP osR vW ws (fun _ => False) w) (o : Obj) : AX B W1 gh g N osP osR vW ws (fun b => b = w.heap.size) (w.alloc o) := by
  have h2 := h.on (Ba w o)
  obtain ⟨F, vL, ls, hM, hd⟩ := h.ex
  refine ⟨⟨F, vL, ls, hM.on (Ba w o), fun b e => ?_⟩, h2.row, h2.uw, h2.bel, fun b e => by rw [size_alloc, e]; omega⟩
  rcases e with e | e
  · exact hd b (.inl e)
  · exact ⟨fun hf => by have := (hM.ph.ge b hf).2; omega, fun hf => by have := (hM.rh.foot_ge b hf).2; omega⟩
theorem AX.drop (h : AX B W1 gh g N osP osR vW ws K w) : AX B W1 gh g N osP osR vW ws (fun _ => False) w := by
  obtain ⟨F, vL, ls, hM, hd⟩ := h.ex
  refine ⟨⟨F, vL, ls, hM, fun b e => ?_⟩, h.row, h.uw, h.bel, fun b e => e.elim⟩
  rcases e with e | e
  · exact hd b (.inl e)
  · exact e.elim
end
end Go.Proofs.YtdekkieajffblaaGreat

set_option linter.unusedVariables false
set_option linter.unusedSimpArgs false
set_option maxRecDepth 100000
namespace Go.Proofs.YtdekkieajffblaaGreat
open Go.ChangeShapes Go.WideShapes Go.ChangeAt Go.RowKit Go.Joins Go.Deep

/-- The word that an ask names. -/
def wordM (x : Ak) (ws : List Int) (k : Int) : Int := if (x.raw || decide (ws.length = 0)) = true then x.w else ws.getD ((k.tmod (ws.length : Nat) + (ws.length : Nat)).tmod (ws.length : Nat)).toNat 0
theorem wordM_u {x : Ak} (hx : AkOk x) {ws : List Int} (hw : ∀ z ∈ ws, U64 z) (k : Int) : U64 (wordM x ws k) := by
  unfold wordM
  split
  · exact hx.w
  · rename_i h
    rw [List.getD_eq_getElem?_getD]
    cases e : ws[((k.tmod (ws.length : Nat) + (ws.length : Nat)).tmod (ws.length : Nat)).toNat]? with
    | none => show U64 0; unfold U64; omega
    | some z => exact hw z (List.mem_of_getElem? e)
theorem round_rng (k : Int) {n : Nat} (hn : 0 < n) : 0 ≤ (k.tmod (n : Nat) + (n : Nat)).tmod (n : Nat) ∧ (k.tmod (n : Nat) + (n : Nat)).tmod (n : Nat) < n ∧ -(n : Int) < k.tmod (n : Nat) ∧ k.tmod (n : Nat) < n := by
  have h1 := tmod_abs (a := k) (b := (n : Nat)) (by omega)
  have h0 : 0 ≤ k.tmod (n : Nat) + (n : Nat) := by omega
  have h2 := Int.tmod_nonneg (n : Int) h0
  have h3 := tmod_abs (a := k.tmod (n : Nat) + (n : Nat)) (b := (n : Nat)) (by omega)
  omega
set_option maxHeartbeats 4000000 in
theorem askword_any (x : Ak) (ao : Option Addr) (n cap : Nat) (ws : List Int) (k : Int) (hk : Z64 k) (w : World) (U : URow w ao n cap ws) (hn : n ≤ 1000000) :
    Calls Tryz.prog 10 #[.agg (AkC x).toArray, .slice ao n cap, .int .i64 k] w fun e w' => e = .returned (.int .u64 (wordM x ws k)) ∧ Below w.heap.size w w' := by
  obtain ⟨op, a, b, raw, ww⟩ := x
  show Calls Tryz.prog 10 #[.agg #[.int .i64 op, .int .i64 a, .int .i64 b, .bool raw, .int .u64 ww], .slice ao n cap, .int .i64 k] w _
  have hblk := blk_new w #[.int .i64 op, .int .i64 a, .int .i64 b, .bool raw, .int .u64 ww] 43
  have b0 := Ba w (.cells #[.int .i64 op, .int .i64 a, .int .i64 b, .bool raw, .int .u64 ww] 43)
  have d3 := blk_cell hblk 3
  have d4 := blk_cell hblk 4
  have hl := U.len
  have hf := U.fits
  have hm := U.most
  unfold maxLen at hm
  have hwm : wordM ⟨op, a, b, raw, ww⟩ ws k = if (raw || decide (ws.length = 0)) = true then ww else ws.getD ((k.tmod (ws.length : Nat) + (ws.length : Nat)).tmod (ws.length : Nat)).toNat 0 := rfl
  rw [hl] at hwm
  have HWM := hid hwm
  have HB0 := hid b0
  have HU := hid (U.on b0)
  clear hblk b0 hwm U
  unfold Z64 at hk
  cases raw
  · by_cases h0 : n = 0
    · subst h0
      go_enter Tryz.func10, Tryz.ntmps10
      go_wp2_with fail
      go_ret
      exact ⟨by rw [HWM.out]; rfl, HB0.out⟩
    · have e0 : ((n : Int) == 0) = false := by simp; omega
      obtain ⟨r1, r2, r3, r4⟩ := round_rng k (n := n) (by omega)
      obtain ⟨t, ht⟩ : ∃ t, t = k.tmod (n : Nat) := ⟨_, rfl⟩
      rw [← ht] at r1 r2 r3 r4
      obtain ⟨j, hj⟩ : ∃ j : Nat, (t + (n : Nat)).tmod (n : Nat) = (j : Int) := ⟨((t + (n : Nat)).tmod (n : Nat)).toNat, by omega⟩
      have HJ : Hid (wordM ⟨op, a, b, false, ww⟩ ws k = ws.getD j 0) := by
        unfold Hid
        rw [HWM.out, if_neg (by simp; omega), ← ht, hj, Int.toNat_natCast]
      have hjn : j < n := by omega
      obtain ⟨bb, o, rfl, hlb, hc⟩ := HU.out.some (by omega)
      have ck := hc j hjn
      obtain ⟨y, hy⟩ : ∃ y, y = ws.getD j 0 := ⟨_, rfl⟩
      rw [← hy] at ck HJ
      clear hy
      have hw1 : IntKind.i64.wrap (k.tmod (n : Nat)) = t := by rw [← ht, IntKind.wrap_i64]; omega
      have hw2 : IntKind.i64.wrap (t + (n : Nat)) = t + (n : Nat) := by rw [IntKind.wrap_i64]; omega
      have hw3 : IntKind.i64.wrap ((t + (n : Nat)).tmod (n : Nat)) = (j : Int) := by rw [hj, IntKind.wrap_i64]; omega
      have ht' : k.tmod (n : Nat) = t := ht.symm
      clear hc ht r1 r2
      go_enter Tryz.func10, Tryz.ntmps10
      go_wp2_with fail
      go_ret
      exact ⟨by rw [HJ.out]; rfl, HB0.out⟩
  · go_enter Tryz.func10, Tryz.ntmps10
    go_wp2_with fail
    go_ret
    exact ⟨by rw [HWM.out]; rfl, HB0.out⟩
/-- An ask's cells lie there. -/
def AkAt (w : World) (b o : Nat) (d : Ak) : Prop := w.cell? ⟨b, o, none⟩ = some (.int .i64 d.op) ∧ w.cell? ⟨b, o + 1, none⟩ = some (.int .i64 d.a) ∧ w.cell? ⟨b, o + 2, none⟩ = some (.int .i64 d.b) ∧ w.cell? ⟨b, o + 3, none⟩ = some (.bool d.raw) ∧ w.cell? ⟨b, o + 4, none⟩ = some (.int .u64 d.w)
/-- A slice of asks. -/
structure ARow (w : World) (ao : Option Addr) (n cap : Nat) (l : List Ak) : Prop where
  len : l.length = n
  fits : n ≤ cap
  most : cap ≤ maxLen
  ok : ∀ d ∈ l, AkOk d
  rd : l = [] ∨ ∃ b o, ao = some ⟨b, o, none⟩ ∧ b < w.heap.size ∧ ∀ i, i < l.length → AkAt w b (o + i * 5) (l.getD i default)
section
variable {H : Type} {enc : TypeId × Value → H} {W : World} {base : Nat} {spare : Nat → Bool} {held : Bool}
theorem akat_arg {n : Nat} {cs : List Value} {y : DataW H × List MemPlace} {b k : Nat} (hc : W.cells? base ⟨b, k, none⟩ 5 = some cs) (h : DataW.trod enc Tryz.prog W base spare held n 43 cs = some y) : ∃ d, AkAt W b k d ∧ AkOk d := by
  obtain ⟨_, hlen, hcell⟩ := World.cells?_some hc
  obtain ⟨d, rfl, hd⟩ := ask_cells hlen h
  have e0 := hcell 0 (by omega)
  have e1 := hcell 1 (by omega)
  have e2 := hcell 2 (by omega)
  have e3 := hcell 3 (by omega)
  have e4 := hcell 4 (by omega)
  rw [aaddp] at e0 e1 e2 e3 e4
  exact ⟨d, ⟨by simpa [AkC] using e0, by simpa [AkC] using e1, by simpa [AkC] using e2, by simpa [AkC] using e3, by simpa [AkC] using e4⟩, hd⟩
theorem asks_arg {fuel : Nat} {cs : List Value} {y : DataW H × List MemPlace} (h : DataW.trod enc Tryz.prog W base spare held fuel 23 cs = some y) : ∃ ao n cap l, cs = [.slice ao n cap] ∧ ARow W ao n cap l := by
  rcases open_slice Tryz.underlying23 h with ⟨rfl, _⟩ | ⟨a, len, cap, m, n, D, Pl, rfl, _, hl, hm, hmm, _, hx⟩
  · exact ⟨none, 0, 0, [], rfl, rfl, Nat.le_refl _, by unfold maxLen; omega, fun _ e => (by cases e), .inl rfl⟩
  · have hlm : len ≤ m := by rw [hmm]; split <;> omega
    by_cases h0 : len = 0
    · subst h0
      exact ⟨some a, 0, cap, [], rfl, rfl, hl, hm, fun _ e => (by cases e), .inl rfl⟩
    · have hp : ∃ b o, a = ⟨b, o, none⟩ ∧ b < W.heap.size := by
        obtain ⟨cs', h1, _⟩ := hx 0 (by omega)
        rw [cellsAsk, Nat.zero_mul, aadd0] at h1
        obtain ⟨_, hlen, hcell⟩ := World.cells?_some h1
        have := hcell 0 (by omega)
        rw [aadd0, List.getElem?_eq_getElem (by omega)] at this
        exact aplain this
      obtain ⟨b, o, rfl, hb⟩ := hp
      have each : ∀ i, i < len → ∃ d : Ak, AkAt W b (o + i * 5) d ∧ AkOk d := fun i hi => by
        obtain ⟨cs', h1, h2⟩ := hx i (by omega)
        rw [cellsAsk, aaddp] at h1
        exact akat_arg h1 h2
      obtain ⟨q, hq⟩ := choose_lt each
      have hget : ∀ i, i < len → ((List.range len).map q).getD i default = q i := fun i hi => by
        rw [List.getD_eq_getElem?_getD, List.getElem?_map, List.getElem?_range hi]; rfl
      refine ⟨some ⟨b, o, none⟩, len, cap, (List.range len).map q, rfl, by simp, hl, hm, ?_, .inr ⟨b, o, rfl, hb, fun i hi => ?_⟩⟩
      · intro d hd
        obtain ⟨i, hi, rfl⟩ := List.mem_map.1 hd
        exact (hq i (List.mem_range.1 hi)).2
      · have hi' : i < len := by simpa using hi
        rw [hget i hi']; exact (hq i hi').1
end
theorem asks_in {H : Type} {enc : TypeId × Value → H} {W : World} {r : Reach} {b0 : Nat} {v : Value} {d : DataW H} {p : List MemPlace} {base : Nat} {spare : TypeId → Bool} {held : Bool}
    (hv : Value.okWide Tryz.prog W r b0 23 v) (h : DataW.Trod enc Tryz.prog W base spare held 23 v d p) : ∃ ao n cap l, v = .slice ao n cap ∧ ARow W ao n cap l := by
  obtain ⟨a, len, cp, rfl⟩ := okWide_slice Tryz.underlying23 hv
  obtain ⟨fuel, hf⟩ := h
  obtain ⟨ao, n, cap, l, e, hR⟩ := asks_arg hf
  refine ⟨ao, n, cap, l, ?_, hR⟩
  simpa [Value.cells] using e
end Go.Proofs.YtdekkieajffblaaGreat
