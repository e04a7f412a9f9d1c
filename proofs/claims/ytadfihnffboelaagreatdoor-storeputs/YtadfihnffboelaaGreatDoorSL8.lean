import Derived.Test.YtadfihnffboelaaGreatDoorV9a
import Derived.Test.YtadfihnffboelaaGreatDoorShelfS
import Derived.Maps.OwnSet
import Derived.WalkSpells
import Derived.Test.YtadfihnffboelaaGreatDoorSG4
import Derived.Test.YtadfihnffboelaaGreatDoorW40
import Derived.Deep.LoopGhost
import Derived.Deep.RegionWith
import Derived.Lib.SmallJoins
import Derived.Test.YtadfihnffboelaaGreatDoorSL7
set_option linter.unusedVariables false
set_option linter.unusedSimpArgs false
set_option maxRecDepth 100000
namespace Go.Proofs.YtadfihnffboelaaGreatDoor
open Go.RowKit
theorem slaw : Maps.Keyed Tryz.prog 9 := Maps.string_keyed Tryz.underlying9
theorem skey {s : ByteArray} (hs : s.size <= 9223372036854775807) : keyOf Tryz.prog 9 (.string s) = some (.string s.data.toList) := WideMaps.keyOf_string_mk Tryz.underlying9 hs
theorem zdh1 (w : World) : (zeroValue 3).run Tryz.prog w = .ok (.int .i64 0) w := by kernel_rfl
theorem zui : ∀ (nm : List ByteArray) (s y : ByteArray), idM (nm ++ [s]) y = if idM nm y < nm.length then idM nm y else if s = y then nm.length else nm.length + 1
 | [], s, y => by simp [idM]
 | x :: l, s, y => by
  have ih := zui l s y
  rw [List.cons_append]
  unfold idM
  by_cases e : x = y
  ·rw [if_pos e, if_pos e, if_pos (by simp)]
  ·rw [if_neg e, if_neg e, ih]
   have hl : (x :: l).length = l.length + 1 := rfl
   rw [hl]
   by_cases h : idM l y < l.length
   ·rw [if_pos h, if_pos (show idM l y + 1 < l.length + 1 by omega)]
   ·rw [if_neg h, if_neg (show ¬ idM l y + 1 < l.length + 1 by omega)]
    by_cases h2 : s = y
    ·rw [if_pos h2, if_pos h2]
    ·rw [if_neg h2, if_neg h2]
def MapS (w : World) (Bm : Nat) (nm : List ByteArray) : Prop :=
 ∃ D, w.ownsMap (H := Unit) Tryz.prog 9 (plainElem Tryz.prog 3) Bm nm.length D /\ ∀ s : ByteArray, s.size <= 9223372036854775807 -> Maps.has D (.string s.data.toList) = decide (idM nm s < nm.length) /\ (idM nm s < nm.length -> D.atKey (.string s.data.toList) (.lit (.int .i64 0)) = .lit (.int .i64 ((idM nm s : Nat) : Int)))
section
variable {w w' : World} {Bm : Nat} {nm : List ByteArray} {s : ByteArray}
theorem MapS.lt (h : MapS w Bm nm) : Bm < w.heap.size := by obtain ⟨D, h1, _⟩ := h; exact h1.lt
theorem MapS.frame (h : MapS w Bm nm) (hb : w'.heap[Bm]? = w.heap[Bm]?) : MapS w' Bm nm := by
 obtain ⟨D, ⟨es, clock, h1, h2, h3, h4⟩, h5⟩ := h
 exact ⟨D, ⟨es, clock, hb.trans h1, h2, h3, h4⟩, h5⟩
theorem MapS.made (w : World) : MapS (w.alloc (.map #[] 0)) w.heap.size [] :=
 ⟨.map [], World.ownsMap_made w _ _ _, fun s hs => ⟨by simp [Maps.has], fun h => by simp at h⟩⟩
theorem MapS.look_ok (h : MapS w Bm nm) (hs : s.size <= 9223372036854775807) : ∃ c : Int, (Instr.lookup 78 (.map (some Bm)) (.string s) true).run Tryz.prog w = .ok (.tuple #[.int .i64 c, .bool (decide (idM nm s < nm.length))]) w /\ (idM nm s < nm.length -> c = (idM nm s : Nat)) := by
 obtain ⟨D, h1, h3⟩ := h
 obtain ⟨v, ps, hrun, hv⟩ := h1.look_ok slaw Tryz.underlying78 (zdh1 w) (plainElem_int Tryz.underlying3 (a := 0) (by decide)) (skey hs)
 obtain ⟨c, rfl, hc, _⟩ := plainElem_int_inv Tryz.underlying3 hv
 refine ⟨c, by rw [hrun, (h3 s hs).1], fun hl => ?_⟩
 have := (h3 s hs).2 hl
 have hc1 := congrArg Prod.fst hc
 simp only at hc1
 rw [this] at hc1
 injection hc1 with hc1
 injection hc1 with _ hc1
 exact hc1.symm
theorem MapS.store (h : MapS w Bm nm) (hs : s.size <= 9223372036854775807) (hm : ¬ idM nm s < nm.length) (hl : nm.length <= 1000000000) : ∃ w', (Instr.mapUpdate 78 (.map (some Bm)) (.string s) (.int .i64 (nm.length : Nat))).run Tryz.prog w = .ok () w' /\ MapS w' Bm (nm ++ [s]) /\ w.grownBy w' (some Bm) := by
 obtain ⟨D, h1, h3⟩ := h
 obtain ⟨w', hrun, ho, ht⟩ := h1.store slaw Tryz.underlying78 (by unfold maxLen; omega) (skey hs) (plainElem_int Tryz.underlying3 (a := (nm.length : Nat)) (WalkArith.wf_i64 (by omega)))
 refine ⟨w', hrun, ⟨_, by rw [List.length_append]; exact ho, fun y hy => ?_⟩, ht.grown⟩
 rw [zui, List.length_append, List.length_singleton]
 by_cases e : s = y
 ·subst e
  rw [if_neg hm, if_pos rfl]
  refine ⟨?_, fun _ => ?_⟩
  ·rw [Maps.has_put_same h1.isMap (slaw.key (skey hs))]; simp
  ·rw [Maps.atKey_put_same h1.isMap (slaw.key (skey hs))]
 ·have hne : (Lit.string y.data.toList) ≠ .string s.data.toList := fun e' => e (by
   injection e' with e'
   have : y.data = s.data := by rw [<- Array.toList_inj]; exact e'
   exact (ByteArray.ext this).symm)
  obtain ⟨g1, g2⟩ := h3 y hy
  rw [if_neg e]
  refine ⟨?_, fun hmem => ?_⟩
  ·rw [Maps.has_put_other hne, g1]
   by_cases h : idM nm y < nm.length
   ·rw [if_pos h, decide_eq_true h, decide_eq_true (by omega)]
   ·rw [if_neg h, decide_eq_false h, decide_eq_false (by omega)]
  ·by_cases h : idM nm y < nm.length
   ·rw [if_pos h, Maps.atKey_put_other hne, g2 h]
   ·rw [if_neg h] at hmem; omega
end
structure NPo (B gp gm : Nat) (vT : Value) (nm mq : List ByteArray) (w : World) : Prop where
 box : w.heap[gp]? = some (.cells #[.map (some gm), vT] 80 (0, 0))
 map : MapS w gm mq
 own : w.ownsRow B 9 1 vT nm.length (sz nm)
 ne : gp ≠ gm
 np : vT.ownBlock ≠ some gp
 nq : vT.ownBlock ≠ some gm
 bp : B <= gp
 bm : B <= gm
def NPf (gp gm : Nat) (vT : Value) : Nat -> Prop := fun b => b = gp \/ b = gm \/ vT.ownBlock = some b
def NP (B : Nat) (vn : Value) (nm : List ByteArray) (F : Nat -> Prop) (w : World) : Prop := ∃ gp gm vT, vn = .pointer (some ⟨gp, 0, none⟩) /\ NPo B gp gm vT nm nm w /\ ∀ b, F b ↔ NPf gp gm vT b
theorem NPo.ge {B gp gm : Nat} {vT : Value} {nm mq : List ByteArray} {w : World} (h : NPo B gp gm vT nm mq w) : ∀ b, NPf gp gm vT b -> B <= b /\ b < w.heap.size := by
 rintro b (rfl | rfl | e)
 ·exact ⟨h.bp, (Array.getElem?_eq_some_iff.1 h.box).1⟩
 ·exact ⟨h.bm, h.map.lt⟩
 ·exact h.own.lt b e
theorem NPo.keep {B gp gm : Nat} {vT : Value} {nm mq : List ByteArray} {w w' : World} (h : NPo B gp gm vT nm mq w) (hb : ∀ b, NPf gp gm vT b -> w'.heap[b]? = w.heap[b]?) : NPo B gp gm vT nm mq w' :=
 ⟨(hb gp (.inl rfl)).trans h.box, h.map.frame (hb gm (.inr (.inl rfl))), ja h.own (fun b e => hb b (.inr (.inr e))), h.ne, h.np, h.nq, h.bp, h.bm⟩
theorem NPo.on {B gp gm : Nat} {vT : Value} {nm mq : List ByteArray} {w w' : World} (h : NPo B gp gm vT nm mq w) (hb : Below w.heap.size w w') : NPo B gp gm vT nm mq w' := h.keep (fun b e => hb.block b (h.ge b e).2)
theorem NPo.turn {B gp gm : Nat} {vT : Value} {nm mq mq' : List ByteArray} {w w' : World} (h : NPo B gp gm vT nm mq w) (hg : w.grownBy w' (some gm)) (hm : MapS w' gm mq') : NPo B gp gm vT nm mq' w' := by
 have hk : ∀ b, b < w.heap.size -> b ≠ gm -> w'.heap[b]? = w.heap[b]? := fun b hb hne => hg.block b hb (fun e => hne (Option.some.inj e))
 exact ⟨(hk gp (h.ge gp (.inl rfl)).2 h.ne).trans h.box, hm, ja h.own (fun b e => hk b (h.ge b (.inr (.inr e))).2 (fun e' => h.nq (by rw [e, e']))), h.ne, h.np, h.nq, h.bp, h.bm⟩
theorem NPo.push {B gp gm : Nat} {vT : Value} {nm nm' mq : List ByteArray} {w w' : World} {g cap n : Nat} (h : NPo B gp gm vT nm mq w) (hn : nm'.length = n) (ho : w'.ownsRow B 9 1 (.slice (some ⟨g, 0, none⟩) n cap) n (sz nm')) (hg : w.grownBy w' vT.ownBlock) (hl : vT.ownBlock = some g \/ g = w.heap.size) :
  NPo B gp gm (.slice (some ⟨g, 0, none⟩) n cap) nm' mq (w'.setCell ⟨gp, 1, none⟩ (.slice (some ⟨g, 0, none⟩) n cap)) /\ w'.cell? ⟨gp, 1, none⟩ = some vT /\ w'.frozen? ⟨gp, 1, none⟩ = false := by
 subst hn
 have hk : ∀ b, b < w.heap.size -> vT.ownBlock ≠ some b -> w'.heap[b]? = w.heap[b]? := fun b hb hne => hg.block b hb (fun e => hne e.symm)
 have hp := h.ge gp (.inl rfl)
 have hm := h.ge gm (.inr (.inl rfl))
 have hbx := (hk gp hp.2 h.np).trans h.box
 have hgp : g ≠ gp := by
  rcases hl with e | e
  ·exact fun e' => h.np (by rw [e, e'])
  ·omega
 have hgm : g ≠ gm := by
  rcases hl with e | e
  ·exact fun e' => h.nq (by rw [e, e'])
  ·omega
 have hset : ∀ b, b ≠ gp -> (w'.setCell ⟨gp, 1, none⟩ (.slice (some ⟨g, 0, none⟩) nm'.length cap)).heap[b]? = w'.heap[b]? := fun b hne => Below.heap_setCell _ _ _ _ hne
 refine ⟨⟨?_, h.map.frame ((hset gm (fun e => h.ne e.symm)).trans (hk gm hm.2 h.nq)), ja ho (fun b e => hset b (fun e' => hgp ((Option.some.inj e).trans e'))), h.ne, fun e => hgp (Option.some.inj e), fun e => hgm (Option.some.inj e), h.bp, h.bm⟩, za hbx 1, zf hbx 1⟩
 rw [zy (i := 1) hbx]; rfl
theorem NP.ge {B : Nat} {vn : Value} {nm : List ByteArray} {F : Nat -> Prop} {w : World} (h : NP B vn nm F w) : ∀ b, F b -> B <= b /\ b < w.heap.size := by
 obtain ⟨gp, gm, vT, _, h1, h2⟩ := h
 exact fun b e => h1.ge b ((h2 b).1 e)
theorem NP.keep {B : Nat} {vn : Value} {nm : List ByteArray} {F : Nat -> Prop} {w w' : World} (h : NP B vn nm F w) (hb : ∀ b, F b -> w'.heap[b]? = w.heap[b]?) : NP B vn nm F w' := by
 obtain ⟨gp, gm, vT, h0, h1, h2⟩ := h
 exact ⟨gp, gm, vT, h0, h1.keep (fun b e => hb b ((h2 b).2 e)), h2⟩
theorem NP.ptr {B : Nat} {vn : Value} {nm : List ByteArray} {F : Nat -> Prop} {w : World} (h : NP B vn nm F w) : ∃ gn, vn = .pointer (some ⟨gn, 0, none⟩) := by
 obtain ⟨gp, gm, vT, h0, _⟩ := h
 exact ⟨gp, h0⟩
theorem NP.weak {B B' : Nat} {vn : Value} {nm : List ByteArray} {F : Nat -> Prop} {w : World} (h : NP B vn nm F w) (hb : B' <= B) : NP B' vn nm F w := by
 obtain ⟨gp, gm, vT, h0, h1, h2⟩ := h
 refine ⟨gp, gm, vT, h0, ⟨h1.box, h1.map, ⟨h1.own.1, ?_⟩, h1.ne, h1.np, h1.nq, Nat.le_trans hb h1.bp, Nat.le_trans hb h1.bm⟩, h2⟩
 rcases h1.own.2 with e | ⟨g, cap, cur, e1, e2, e3⟩
 ·exact .inl e
 ·exact .inr ⟨g, cap, cur, e1, Nat.le_trans hb e2, e3⟩
def zuj (B : Nat) (vn : Value) (F : Nat -> Prop) (w : World) (nm' : List ByteArray) (w' : World) : Prop := ∃ F', NP B vn nm' F' w' /\ (∀ b, F' b -> F b \/ w.heap.size <= b) /\ Mod F w w'
theorem zgt (w : World) : Calls Tryz.prog 12 #[] w fun e w' => ∃ vn F, e = .returned vn /\ NP w.heap.size vn [] F w' /\ Below w.heap.size w w' := by
 have hm := MapS.made w
 have b1 := Ba w (.map #[] 0)
 have b2 := Ba (w.alloc (.map #[] 0)) (.cells #[.map (some w.heap.size), .slice none 0 0] 80)
 have hx := zd (w.alloc (.map #[] 0)) #[.map (some w.heap.size), .slice none 0 0] 80
 rw [zb] at hx
 have HM := hid (hm.frame (b2.block w.heap.size (by rw [zb]; omega)))
 have HB := hid (Bt b1 b2)
 have HX := hid hx
 clear hm b1 b2 hx
 have hmm := @run_makeMap Tryz.prog
 go_enter Tryz.func12, Tryz.ntmps12
 go_wp2
 go_ret
 refine ⟨_, NPf (w.heap.size + 1) w.heap.size (.slice none 0 0), rfl, ⟨w.heap.size + 1, w.heap.size, .slice none 0 0, rfl, ⟨HX.out, HM.out, World.ownsRow_nil _ _ _ _, by omega, by simp [Value.ownBlock], by simp [Value.ownBlock], by omega, by omega⟩, fun b => Iff.rfl⟩, HB.out⟩
theorem zuk (s : ByteArray) (w : World) (hs : s.size <= 1000000000) : Calls Tryz.prog 51 #[.string s] w fun e w' => e = .returned (.string s) /\ Below w.heap.size w w' := by
 have C := hid (Any.stringslite_Clone (P := Tryz.prog) Tryz.laysM316 s w (by omega))
 go_enter Tryz.func51, Tryz.ntmps51
 go_wp2_with (go_at_call 91; (refine C.out.mono ?_); rintro e W1 ⟨rfl, b1⟩)
 go_ret
 exact ⟨rfl, b1⟩
section
variable {B : Nat} {vn : Value} {nm : List ByteArray} {F : Nat -> Prop}
set_option maxHeartbeats 4000000 in
theorem zax1 (s : ByteArray) (w : World) (h : NP B vn nm F w) (hB : B <= w.heap.size) (hl : nm.length <= 1000000) (hs : s.size <= 1000000) : Calls Tryz.prog 24 #[vn, .string s] w fun e w' => e = .returned (.int .i64 (idM nm s : Nat)) /\ zuj B vn F w (idL nm s) w' := by
 obtain ⟨gp, gm, vT, rfl, hp, hF⟩ := h
 have HP := hid hp
 have HFF := hid hF
 have c0 : w.cell? ⟨gp, 0, none⟩ = some (.map (some gm)) := za hp.box 0
 obtain ⟨c, hrun, hc⟩ := hp.map.look_ok (s := s) (by omega)
 by_cases hm : idM nm s < nm.length
 ·obtain rfl := hc hm
  rw [decide_eq_true hm] at hrun
  have HI : Hid (idL nm s = nm) := by unfold Hid idL; rw [if_pos hm]
  have fin : Hid (zuj B (.pointer (some ⟨gp, 0, none⟩)) F w (idL nm s) w) := by
   unfold Hid
   rw [HI.out]
   exact ⟨F, ⟨gp, gm, vT, rfl, HP.out, HFF.out⟩, fun b e => .inl e, Mod.refl _ _⟩
  obtain ⟨k, hk⟩ : ∃ k, k = idM nm s := ⟨_, rfl⟩
  rw [<- hk] at hrun ⊢
  clear hp hF hc hm HI hk hB hl
  have hqm : ∀ (wx : World) (r : Option Nat), (binOp .eql 78 (.map r) (.map none)).run Tryz.prog wx = .ok (.bool r.isNone) wx := fun wx r => run_eql_map_nil wx _ _ _ r Tryz.underlying78
  go_enter Tryz.func24, Tryz.ntmps24
  go_wp2
  go_ret
  exact ⟨rfl, fin.out⟩
 ·rw [decide_eq_false hm] at hrun
  have HI : Hid (idL nm s = nm ++ [s] /\ idM nm s = nm.length) := by
   refine ⟨by unfold idL; rw [if_neg hm], ?_⟩
   have := znm nm s
   omega
  obtain ⟨aT, cT, hvT, hTf, hTm⟩ := jm hp.own
  subst hvT
  have c1 : w.cell? ⟨gp, 1, none⟩ = some (.slice aT nm.length cT) := za hp.box 1
  have HM := hid hm
  have HC : Hid (∀ W, Below w.heap.size w W -> Calls Tryz.prog 51 #[.string s] W fun e w' => e = .returned (.string s) /\ Below W.heap.size W w') := fun W _ => zuk s W (by omega)
  have HS := hid hs
  have HBB := hid hB
  rw [HI.out.1, HI.out.2]
  obtain ⟨n, hn⟩ : ∃ n, n = nm.length := ⟨_, rfl⟩
  have HN := hid hn
  rw [<- hn] at c1 hTf hl HP HFF ⊢
  clear hp hF hc hm hs hB hn HI
  have hqm : ∀ (wx : World) (r : Option Nat), (binOp .eql 78 (.map r) (.map none)).run Tryz.prog wx = .ok (.bool r.isNone) wx := fun wx r => run_eql_map_nil wx _ _ _ r Tryz.underlying78
  go_enter Tryz.func24, Tryz.ntmps24
  go_wp2_with (first
   | (go_at_call 51; (refine (HC.out w (Below.refl _ _)).mono ?_); rintro e W1 ⟨rfl, b1⟩; have HB1 := hid b1; have HP1 := hid (HP.out.on b1); have d0 : W1.cell? ⟨gp, 0, none⟩ = some (.map (some gm)) := za HP1.out.box 0; obtain ⟨W2, hst, hm2, hg2⟩ := HP1.out.map.store (s := s) (by have := HS.out; omega) HM.out (by rw [<- HN.out]; omega); rw [<- HN.out] at hst; have HP2 := hid (HP1.out.turn hg2 hm2); have HG2 := hid hg2; have d1 : W2.cell? ⟨gp, 1, none⟩ = some (.slice aT n cT) := za HP2.out.box 1; have HP3 := hid (HP2.out.on (Ba W2 (.cells #[.string s] 9))); have ho3 := HP3.out.own; rw [<- HN.out] at ho3; have HO3 := hid ho3; have HC3 : Hid ((W2.alloc (.cells #[.string s] 9)).cell? ⟨W2.heap.size, 0, none⟩ = some (.string s)) := za (zd W2 #[.string s] 9) 0; have HZ3 : Hid (B <= (W2.alloc (.cells #[.string s] 9)).heap.size) := Nat.le_trans HBB.out (Nat.le_trans b1.size (Nat.le_trans hg2.size (Ba W2 _).size)); clear b1 hm2 hg2 ho3)
   | (at_builtin; refine appS rfl _ _ 34 rfl B 9 Tryz.underlying34 znk _ n nm rfl HO3.out W2.heap.size 1 s rfl HC3.out (by omega) HZ3.out ?_; intro g1 cap1 w4 ho4 hg4 hl4 hlt4; obtain ⟨h5, e1, f1⟩ := HP3.out.push (n := n + 1) (nm' := nm ++ [s]) (by rw [List.length_append, <- HN.out]; rfl) ho4 hg4 hl4; have HP5 := hid h5; have HG4 := hid hg4; have HL4 := hid hl4; clear ho4 hg4 hl4 h5))
  go_ret
  have k1 := HB1.out.size
  have k2 := HG2.out.size
  have hfin : zuj B (.pointer (some ⟨gp, 0, none⟩)) F w (nm ++ [s]) (w4.setCell ⟨gp, 1, none⟩ (.slice (some ⟨g1, 0, none⟩) (n + 1) cap1)) := by
   refine ⟨NPf gp gm (.slice (some ⟨g1, 0, none⟩) (n + 1) cap1), ⟨gp, gm, _, rfl, HP5.out, fun b => Iff.rfl⟩, fun b hb => ?_, ?_⟩
   ·rcases hb with e | e | e
    ·exact .inl ((HFF.out b).2 (.inl e))
    ·exact .inl ((HFF.out b).2 (.inr (.inl e)))
    ·have e' : g1 = b := Option.some.inj e
     rcases HL4.out with e2 | e2
     ·exact .inl ((HFF.out b).2 (.inr (.inr (by rw [<- e']; exact e2))))
     ·rw [zb] at e2; exact .inr (by omega)
   ·have m1 := Mod.of_below F HB1.out
    have m2 := m1.grown HG2.out (fun k e => .inl ((HFF.out k).2 (by have e' : gm = k := Option.some.inj e; rw [<- e']; exact .inr (.inl rfl))))
    have m3 : Mod F w (W2.alloc (.cells #[.string s] 9)) := m2.trans (Mod.of_below F (Ba W2 (.cells #[.string s] 9))) (fun _ _ e => e)
    have m4 := m3.grown HG4.out (fun k e => .inl ((HFF.out k).2 (.inr (.inr e))))
    exact m4.setCell (p := ⟨gp, 1, none⟩) (.inl ((HFF.out gp).2 (.inl rfl))) _
  exact ⟨rfl, hfin⟩
theorem NPo.get {gp gm : Nat} {vT : Value} {nm mq : List ByteArray} {w : World} (h : NPo B gp gm vT nm mq w) {i : Nat} (hi : i < nm.length) : ∃ gl cap, vT = .slice (some ⟨gl, 0, none⟩) nm.length cap /\ nm.length <= cap /\ cap <= 9223372036854775807 /\ w.cell? ⟨gl, i, none⟩ = some (.string (nm.getD i ByteArray.empty)) := by
 rcases h.own.2 with ⟨_, h1⟩ | ⟨gl, cap, cur, h1, h2, h3, h4, h5, h6, h7⟩
 ·omega
 ·unfold maxLen at h5
  refine ⟨gl, cap, h1, h4, h5, ?_⟩
  have e : (sz nm)[i]? = some (.string (nm.getD i ByteArray.empty)) := by
   unfold sz
   rw [List.getElem?_map, List.getD_eq_getElem?_getD, List.getElem?_eq_getElem hi]; rfl
  rw [za h3, <- e, <- h7, List.getElem?_take, if_pos (by omega)]
  simp
theorem zul (n : Int) (hn : Z64 n) (w : World) (h : NP B vn nm F w) (hl : nm.length <= 1000000) : Calls Tryz.prog 25 #[vn, .int .i64 n] w fun e w' => e = .returned (.tuple #[.string (if 0 <= n /\ n < nm.length then nm.getD n.toNat ByteArray.empty else ByteArray.empty), .bool (decide (0 <= n) && decide (n < nm.length))]) /\ Below w.heap.size w w' := by
 obtain ⟨gp, gm, vT, rfl, hp, hF⟩ := h
 by_cases h0 : n < 0
 ·rw [if_neg (by omega), decide_eq_false (by omega : ¬ 0 <= n)]
  have d0 : decide (n < 0) = true := decide_eq_true h0
  clear hp hF hl hn
  go_enter Tryz.func25, Tryz.ntmps25
  go_wp2
  go_ret2
  exact ⟨rfl, Below.refl _ _⟩
 have d0 : decide (n < 0) = false := decide_eq_false h0
 obtain ⟨k, rfl⟩ : ∃ k : Nat, n = (k : Int) := ⟨n.toNat, by omega⟩
 by_cases h1 : k < nm.length
 ·obtain ⟨gl, cap, rfl, hf, hm, hc⟩ := hp.get h1
  have c1 : w.cell? ⟨gp, 1, none⟩ = some (.slice (some ⟨gl, 0, none⟩) nm.length cap) := za hp.box 1
  rw [if_pos (by omega), decide_eq_true (by omega : (0 : Int) <= (k : Int)), decide_eq_true (by omega : (k : Int) < nm.length), Int.toNat_natCast]
  obtain ⟨m, hmm⟩ : ∃ m, m = nm.length := ⟨_, rfl⟩
  rw [<- hmm] at c1 h1 hf hl
  obtain ⟨t, ht⟩ : ∃ t, t = nm.getD k ByteArray.empty := ⟨_, rfl⟩
  rw [<- ht] at hc ⊢
  clear hp hF hmm ht h0 hn
  go_enter Tryz.func25, Tryz.ntmps25
  go_wp2
  go_ret2
  exact ⟨rfl, Below.refl _ _⟩
 ·obtain ⟨aT, cT, hvT, hTf, hTm⟩ := jm hp.own
  subst hvT
  have c1 : w.cell? ⟨gp, 1, none⟩ = some (.slice aT nm.length cT) := za hp.box 1
  rw [if_neg (by omega), decide_eq_true (by omega : (0 : Int) <= (k : Int)), decide_eq_false (by omega : ¬ (k : Int) < nm.length)]
  obtain ⟨m, hmm⟩ : ∃ m, m = nm.length := ⟨_, rfl⟩
  rw [<- hmm] at c1 h1 hTf hl
  have h2 : m <= k := by omega
  clear hp hF hmm h0 hn
  go_enter Tryz.func25, Tryz.ntmps25
  go_wp2
  go_ret2
  exact ⟨rfl, Below.refl _ _⟩
end
section
variable {B : Nat} {v : Value} {N : Int} {F : Nat -> Prop} {os : List Ob}
theorem zum {w : World} (h : PH B v N (zo os) F w) : zg os <= 4194304 := by
 have hbd := h.bd
 rw [zh] at hbd
 omega
end
theorem qv (w : World) : Below w.heap.size w w.drew := ⟨rfl, rfl, rfl, Nat.le_refl _, fun _ _ => rfl⟩
section
variable {B : Nat} {v : Value} {N : Int} {F : Nat -> Prop} {os : List Ob}
theorem zay1 {la lb : List Int} (hl : la.length = lb.length) (h : ∀ k, k < la.length -> la.getD k 0 = lb.getD k 0) : la = lb := by
 apply List.ext_getElem hl
 intro i h1 h2
 have := h i h1
 rw [List.getD_eq_getElem?_getD, List.getD_eq_getElem?_getD, List.getElem?_eq_getElem h1, List.getElem?_eq_getElem h2] at this
 simpa using this
end
def vh (w : World) : Prop := Tabs w /\ Lib.TabIs Tryz.prog w "internal/strconv.uint64pow10" .u64 Lib.pow10Tab
theorem vh.below {w w' : World} (h : vh w) (hb : Below w.heap.size w w') : vh w' := by
 refine ⟨Tabs.below h.1 hb, ?_⟩
 cases hg : Tryz.prog.globalNamed "internal/strconv.uint64pow10" with
 | none =>
  have := h.2
  unfold Lib.TabIs World.var? at this
  rw [hg] at this
  cases this
 | some g => exact Joins.tab_stays hg h.2 hb (Nat.le_refl _)
structure PN (B : Nat) (v vn : Value) (N : Int) (os : List Ob) (nm : List ByteArray) (F : Nat -> Prop) (w : World) : Prop where
 ok : ∃ F1 F2, PH B v N (zo os) F1 w /\ NP B vn nm F2 w /\ (∀ b, F1 b -> ¬ F2 b) /\ (∀ b, F b ↔ F1 b \/ F2 b)
 fine : OsOk os
def jz (B : Nat) (v vn : Value) (N : Int) (F : Nat -> Prop) (w : World) (os' : List Ob) (nm' : List ByteArray) (w' : World) : Prop := ∃ F', PN B v vn N os' nm' F' w' /\ (∀ b, F' b -> F b \/ w.heap.size <= b) /\ Mod F w w'
section
variable {B : Nat} {v vn : Value} {N : Int} {os : List Ob} {nm : List ByteArray} {F : Nat -> Prop} {w w' : World}
theorem PN.ge (h : PN B v vn N os nm F w) : ∀ b, F b -> B <= b /\ b < w.heap.size := by
 obtain ⟨F1, F2, h1, h2, h3, h4⟩ := h.ok
 exact fun b hb => ((h4 b).1 hb).elim (h1.ge b) (h2.ge b)
theorem PN.keep (h : PN B v vn N os nm F w) (hb : ∀ b, F b -> w'.heap[b]? = w.heap[b]?) : PN B v vn N os nm F w' := by
 obtain ⟨F1, F2, h1, h2, h3, h4⟩ := h.ok
 exact ⟨⟨F1, F2, h1.keep (fun b e => hb b ((h4 b).2 (.inl e))), h2.keep (fun b e => hb b ((h4 b).2 (.inr e))), h3, h4⟩, h.fine⟩
theorem PN.on (h : PN B v vn N os nm F w) (hb : Below w.heap.size w w') : PN B v vn N os nm F w' := h.keep (fun b e => hb.block b (h.ge b e).2)
theorem PN.ptrs (h : PN B v vn N os nm F w) : ∃ gh gp, v = .pointer (some ⟨gh, 0, none⟩) /\ vn = .pointer (some ⟨gp, 0, none⟩) := by
 obtain ⟨F1, F2, h1, h2, h3, h4⟩ := h.ok
 obtain ⟨gh, e1⟩ := h1.ptr
 obtain ⟨gp, e2⟩ := h2.ptr
 exact ⟨gh, gp, e1, e2⟩
theorem PN.used (h : PN B v vn N os nm F w) : Calls Tryz.prog 21 #[v] w fun e w' => e = .returned (.int .i64 (zg os : Nat)) /\ Below w.heap.size w w' := by
 obtain ⟨F1, F2, h1, h2, h3, h4⟩ := h.ok
 have := zkw w h1
 rw [zh] at this
 exact this
theorem PN.bd (h : PN B v vn N os nm F w) : zg os <= 4194304 /\ N <= 4194304 := by
 obtain ⟨F1, F2, h1, h2, h3, h4⟩ := h.ok
 have hb := h1.bd
 exact ⟨zum h1, hb.2⟩
theorem jz.same (h : PN B v vn N os nm F w) (hb : Below w.heap.size w w') : jz B v vn N F w os nm w' := ⟨F, h.on hb, fun b e => .inl e, Mod.of_below _ hb⟩
theorem zzf {W0 W1 W2 : World} {F1 F2 : Nat -> Prop} (h1 : PH W0.heap.size v N [] F1 W1) (b1 : Below W0.heap.size W0 W1) (h2 : NP W1.heap.size vn [] F2 W2) (b2 : Below W1.heap.size W1 W2) : PN W0.heap.size v vn N [] [] (fun b => F1 b \/ F2 b) W2 := by
 refine ⟨⟨F1, F2, h1.keep (fun b e => b2.block b (h1.ge b e).2), h2.weak b1.size, fun b e1 e2 => ?_, fun b => Iff.rfl⟩, ⟨fun x hx => (by cases hx), fun x hx => (by cases hx), fun x hx => (by cases hx)⟩⟩
 have := (h1.ge b e1).2
 have := (h2.ge b e2).1
 omega
theorem zxs (h : PN B v vn N os nm F w) (s : ByteArray) (hB : B <= w.heap.size) (hl : nm.length <= 1000000) (hs : s.size <= 1000000) :
  Calls Tryz.prog 24 #[vn, .string s] w fun e w' => e = .returned (.int .i64 (idM nm s : Nat)) /\ jz B v vn N F w os (idL nm s) w' := by
 obtain ⟨F1, F2, h1, h2, h3, h4⟩ := h.ok
 refine (zax1 s w h2 hB hl hs).mono ?_
 rintro e w' ⟨rfl, F', p1, p2, p4⟩
 refine ⟨rfl, fun b => F1 b \/ F' b, ⟨⟨F1, F', h1.keep (fun b e => p4.block b (h1.ge b e).2 (h3 b e)), p1, fun b e1 e2 => ?_, fun b => Iff.rfl⟩, h.fine⟩, fun b e => ?_, p4.mono (fun b _ e => (h4 b).2 (.inr e))⟩
 ·rcases p2 b e2 with e | e
  ·exact h3 b e1 e
  ·have := (h1.ge b e1).2; omega
 ·rcases e with e | e
  ·exact .inl ((h4 b).2 (.inl e))
  ·rcases p2 b e with e | e
   ·exact .inl ((h4 b).2 (.inr e))
   ·exact .inr e
theorem PN.heap {os' : List Ob} {F1 F2 : Nat -> Prop} (h1 : PH B v N (zo os) F1 w) (h2 : NP B vn nm F2 w) (h3 : ∀ b, F1 b -> ¬ F2 b) (h4 : ∀ b, F b ↔ F1 b \/ F2 b) (hp : zih B v N F1 w (zo os') w') (ho : OsOk os') : jz B v vn N F w os' nm w' := by
 obtain ⟨F', p1, p2, p4⟩ := hp
 refine ⟨fun b => F' b \/ F2 b, ⟨⟨F', F2, p1, h2.keep (fun b e => p4.block b (h2.ge b e).2 (fun e1 => h3 b e1 e)), fun b e1 e2 => ?_, fun b => Iff.rfl⟩, ho⟩, fun b e => ?_, p4.mono (fun b _ e => (h4 b).2 (.inl e))⟩
 ·rcases p2 b e1 with e | e
  ·exact h3 b e e2
  ·have := (h2.ge b e2).2; omega
 ·rcases e with e | e
  ·rcases p2 b e with e | e
   ·exact .inl ((h4 b).2 (.inl e))
   ·exact .inr e
  ·exact .inl ((h4 b).2 (.inr e))
theorem zik (h : PN B v vn N os nm F w) (kind : Int) (hk : Z64 kind) (ao : Option Addr) (n cap : Nat) (fl : List Int) (R : URow w ao n cap fl) (hB : B <= w.heap.size) (ha : ∀ a, ao = some a -> ¬ F a.block) (hsm : n <= 1000000) (ho : OsOk (yr os N kind fl)) :
  Calls Tryz.prog 34 #[v, .int .i64 kind, .slice ao n cap] w fun e w' => e = .returned (.tuple #[.int .u64 (yf os N kind fl).1, .int .i64 (yf os N kind fl).2]) /\ jz B v vn N F w (yr os N kind fl) nm w' := by
 obtain ⟨F1, F2, h1, h2, h3, h4⟩ := h.ok
 refine (zqb h.fine kind hk ao n cap fl w h1 R hB (fun a e hf => ha a e ((h4 _).2 (.inl hf))) hsm).mono ?_
 rintro e w' ⟨rfl, hp⟩
 exact ⟨rfl, PN.heap h1 h2 h3 h4 hp ho⟩
end
def zxt (os : List Ob) (nm : List ByteArray) (rts : List Int) (w : World) (e : Ending) (w' : World) : Prop :=
 ∃ a1 n1 c1 a2 n2 c2 W ns rs, e = .returned (GVal a1 n1 c1 a2 n2 c2) /\ Told (qd os nm) rts W ns rs /\ Fine ns rs 300001 /\ GIs w' a1 n1 c1 a2 n2 c2 (zc ns rs).1 (zc ns rs).2 /\ zpj w.heap.size w' a1 n1 c1 a2 n2 c2 (zc ns rs).1 (zc ns rs).2 /\ Below w.heap.size w w'
theorem zkz (ns : List Nd) (rs : List Int) : ko ns rs = if layB ns rs = true then sumN (zc ns rs).1 else -1 := by
 unfold ko layB
 by_cases h : ys ns rs = true /\ (zc ns rs).1.all (fun d => decide (0 <= zm d)) = true
 ·rw [if_pos h, if_pos (by rw [h.1, h.2]; rfl)]
 ·rw [if_neg h, if_neg (fun e => h (by rw [Bool.and_eq_true] at e; exact e))]
theorem zgu {ns : List Nd} {rs : List Int} (h : layB ns rs = true) (hs : ke ns) (hk : ∀ d ∈ ns, d.kids.length <= 100) (hn : ns.length <= 100) :
  (∀ d ∈ (zc ns rs).1, LNd d /\ qo (zc ns rs).1.length d = true) /\ (zc ns rs).1.length <= 100 /\ (zc ns rs).2.length = rs.length /\ ys (zc ns rs).1 (zc ns rs).2 = true /\ (zc ns rs).1.all (fun d => decide (0 <= zm d)) = true := by
 unfold layB at h
 rw [Bool.and_eq_true] at h
 obtain ⟨c1, c2, c3, c4⟩ := vy h.1 hs hk hn
 have hnd := vw c4
 refine ⟨fun d hd => ⟨LNd.of (hnd d hd) (c1 d hd) (of_decide_eq_true (List.all_eq_true.1 h.2 d hd)), hnd d hd⟩, c2, c3, c4, h.2⟩
set_option maxHeartbeats 4000000 in
theorem zun (an ar : Option Addr) (nn cn nr cr : Nat) (ns : List Nd) (rs : List Int) (w : World) (G : GOk w an nn cn ar nr cr ns rs) (hn : nn <= 100) (hnr : nr <= 100) (hT : vh w) :
  Calls Tryz.prog 19 #[GVal an nn cn ar nr cr] w fun e w' => e = .returned (.int .i64 (ko ns rs)) /\ Below w.heap.size w w' := by
 have b0 := Ba w (.cells #[.slice an nn cn, .slice ar nr cr] 41)
 have hx := GBox.new 41 w an ar nn cn nr cr
 obtain ⟨c0, c1⟩ := hx.c
 have C := hid (zdg an ar nn cn nr cr ns rs (w.alloc (.cells #[.slice an nn cn, .slice ar nr cr] 41)) (G.below b0) hn (hT.1.below b0))
 have HB := hid b0
 have hlen : ns.length = nn := G.is.nodes.len
 have f1 := G.is.nodes.fits
 have f2 := G.is.nodes.most
 have f3 := G.is.roots.fits
 have f4 := G.is.roots.most
 unfold maxLen at f2 f4
 have HL := hid (zkz ns rs)
 have HN : Hid (layB ns rs = true -> _) := fun h => zgu h G.small G.kids (by omega)
 unfold vg at C
 unfold GVal at C ⊢
 rw [HL.out]
 clear G hT hx b0
 cases hb : layB ns rs
 ·simp only [hb, Bool.false_eq_true, ↓reduceIte] at C
  rw [if_neg (by decide)]
  clear HN HL hb
  go_enter Tryz.func19, Tryz.ntmps19
  go_wp2_with (go_at_call 35; (with_reducible refine C.out.mono ?_); rintro e W1 ⟨rfl, b1⟩; have HB1 := hid (Bt (Bt HB.out b1) (Ba W1 (.cells #[.slice none 0 0, .slice none 0 0] 41))); clear b1)
  go_ret
  exact ⟨rfl, HB1.out⟩
 ·simp only [hb, ↓reduceIte] at C
  rw [if_pos rfl]
  obtain ⟨n1, n2, n3, n4, n5⟩ := HN.out hb
  have CW : Hid (∀ (a1 : Option Addr) (m1 c1 : Nat) (W : World), NRow W a1 m1 c1 (zc ns rs).1 -> m1 <= 2500 -> Calls Tryz.prog 36 #[.slice a1 m1 c1] W fun e w' => e = .returned (.int .i64 (sumN (zc ns rs).1)) /\ Below W.heap.size W w') := fun a1 m1 c1 W R hm => zgq a1 m1 c1 _ W R (fun d hd => (n1 d hd).1) hm
  obtain ⟨cs, hcs⟩ : ∃ c, c = (zc ns rs).1 := ⟨_, rfl⟩
  rw [<- hcs] at C CW n2 ⊢
  clear HN HL hb n1 n3 n4 n5 hcs
  go_enter Tryz.func19, Tryz.ntmps19
  go_wp2_with (first
   | (go_at_call 35; (with_reducible refine C.out.mono ?_); rintro e W1 ⟨a1, m1, k1, a2, m2, k2, rfl, g1, _, b1⟩; have HB1 := hid (Bt (Bt HB.out b1) (Ba W1 (.cells #[.slice a1 m1 k1, .slice a2 m2 k2] 41))); have hx1 := GBox.new 41 W1 a1 a2 m1 k1 m2 k2; obtain ⟨d0, d1⟩ := hx1.c; have h5 := g1.nodes.len; have C2 := hid (CW.out a1 m1 k1 _ (g1.nodes.below (Ba W1 (.cells #[.slice a1 m1 k1, .slice a2 m2 k2] 41))) (by omega)); clear b1 g1 hx1 h5)
   | (go_at_call 36; (with_reducible refine C2.out.mono ?_); rintro e W2 ⟨rfl, b2⟩; have HB2 := hid (Bt HB1.out b2); clear b2))
  go_ret
  exact ⟨rfl, HB2.out⟩
end Go.Proofs.YtadfihnffboelaaGreatDoor
