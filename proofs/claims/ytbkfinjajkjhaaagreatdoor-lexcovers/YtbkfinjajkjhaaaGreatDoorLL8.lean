import Derived.Test.YtbkfinjajkjhaaaGreatDoorLL3
set_option linter.unusedVariables false
set_option linter.unusedSimpArgs false
set_option maxRecDepth 100000
namespace Go.Proofs.YtbkfinjajkjhaaaGreatDoor
open Go.RowKit
def TkB (g : Nat) (x : Tok) (w : World) : Prop := w.heap[g]? = some (.cells #[.int .i64 x.kind, .int .i64 x.num, .string x.text, .int .i64 x.fr, .int .i64 x.un] 31 (0, 0))
theorem TkB.new (w : World) (x : Tok) : TkB w.heap.size x (w.alloc (.cells #[.int .i64 x.kind, .int .i64 x.num, .string x.text, .int .i64 x.fr, .int .i64 x.un] 31)) := blk_new _ _ _
theorem TkB.on {g : Nat} {x : Tok} {w w' : World} (h : TkB g x w) (hb : Below w.heap.size w w') : TkB g x w' := (hb.block g (Array.getElem?_eq_some_iff.1 h).1).trans h
theorem TkB.c {g : Nat} {x : Tok} {w : World} (h : TkB g x w) : w.cell? ⟨g, 0, none⟩ = some (.int .i64 x.kind) /\ w.cell? ⟨g, 0 + 1, none⟩ = some (.int .i64 x.num) /\ w.cell? ⟨g, 0 + 2, none⟩ = some (.string x.text) /\ w.cell? ⟨g, 0 + 3, none⟩ = some (.int .i64 x.fr) /\ w.cell? ⟨g, 0 + 4, none⟩ = some (.int .i64 x.un) := by
 unfold TkB at h
 exact ⟨blk_cell h 0, blk_cell h 1, blk_cell h 2, blk_cell h 3, blk_cell h 4⟩
theorem drop_getD {T : List Tok} {i : Nat} (h : i < T.length) : T.drop i = T.getD i default :: T.drop (i + 1) := by
 rw [List.drop_eq_getElem_cons h, List.getD_eq_getElem?_getD, List.getElem?_eq_getElem h]; rfl
set_option maxHeartbeats 16000000 in
theorem lexCovers_walk (ao : Option Addr) (n cap : Nat) (l : List Nat) (w : World) (R : BRow w ao n cap l) (hT : LTabs w) : Calls Tryz.prog 6 #[.slice ao n cap] w fun e w' => e = .returned (.bool true) /\ Below w.heap.size w w' := by
 by_cases hn : 5000 < n
 ·have n1 : (5000 : Int) < (n : Int) := by omega
  clear R hT
  go_enter Tryz.func6, Tryz.ntmps6
  go_wp2_with fail
  go_ret
  exact ⟨rfl, Below.refl _ _⟩
 have n1 : ¬ (5000 : Int) < (n : Int) := by omega
 have n2' : (n : Int) <= 5000 := by omega
 have HR := hid R
 have HT := hid hT
 have HD : Hid (Dg 256 l) := R.dg
 have HL : Hid (l.length = n) := R.len
 have hf := R.fits
 have hm := R.most
 unfold maxLen at hm
 have CT := hid (tokens_any ao n cap l w R hT (by omega))
 obtain ⟨A, hA⟩ : ∃ A, A = ansM l := ⟨_, rfl⟩
 unfold ToksPost at CT
 rw [<- hA] at CT
 obtain ⟨T, ye, yn⟩ := A
 have HA : Hid (ansM l = (T, ye, yn)) := hA.symm
 have HLn : Hid (T.length <= 5001) := by have := ansM_len l; rw [<- hA] at this; have h2 := R.len; show T.length <= _; simp only at this; omega
 clear R hT hA
 by_cases hye : ye = 0
 ·subst hye
  obtain ⟨q1, q2, q3, q4, L, _, q6⟩ := ans_sq HD.out HA.out
  have hTn : T.length ≠ 0 := by intro e; have := congrArg List.length q6; rw [List.length_map, List.length_append, e] at this; simp at this
  have HV := hid q2
  have HQ := hid q4
  have HTn := hid hTn
  clear q1 q2 q3 q4 q6 hTn
  go_enter Tryz.func6, Tryz.ntmps6
  go_wp2_with fail
  go_at_call 9
  with_reducible refine CT.out.mono ?_
  rintro e wa ⟨ao2, n2, cap2, rfl, T1, ba⟩
  have HT1 := hid T1
  have HBa := hid ba
  have HN2 := hid T1.len
  have hn3 : (n2 : Int) <= 5001 := by have := HLn.out; rw [HN2.out] at this; omega
  have hn0 : 0 < n2 := by have := HTn.out; rw [HN2.out] at this; omega
  clear T1 ba CT HTn
  go_wp2_with fail
  go_loopg [6, 7] n2 (fun g v6 v7 wx => ∃ (k i f : Nat), v6 = .int .i64 k /\ v7 = .int .i64 i /\ g = n2 - i /\ i <= n2 /\ k <= n /\ Hid (Bnd l k) /\ Hid (i < n2 -> l.length < k + f /\ toksA f l k = (T.drop i, none)) /\ Hid (i = n2 -> k = n) /\ Hid (Below wa.heap.size wa wx))
  case atStart => exact ⟨0, 0, n + 1, rfl, rfl, rfl, Nat.zero_le _, Nat.zero_le _, .inl rfl, fun _ => ⟨by rw [HL.out]; omega, by rw [List.drop_zero]; have := HQ.out; rw [HL.out] at this; exact this⟩, fun h => by omega, Below.refl _ _⟩
  case round =>
   obtain ⟨k, i, f, rfl, rfl, rfl, hi, hk, hBn, hI, hE, hB⟩ := hrel
   have HBw : Hid (Below w.heap.size w wr) := Bt HBa.out hB.out
   by_cases hlt : i < n2
   ·obtain ⟨j1, j2⟩ := hI.out hlt
    obtain ⟨f, rfl⟩ : ∃ f', f = f' + 1 := ⟨f - 1, by rw [HL.out] at j1; omega⟩
    rw [drop_getD (by rw [HN2.out]; exact hlt)] at j2
    obtain ⟨⟨z1, z2, z3⟩, ⟨b, hbet⟩, hcase⟩ := cover HD.out HV.out (by rw [HL.out]; omega) (by rw [HL.out]; exact hk) hBn.out j1 j2
    obtain ⟨b1, o1, rfl, hb1, hc1⟩ := (HT1.out.below hB.out).some (by omega)
    have a0 := hc1 i hlt 0 (by omega)
    have a1 := hc1 i hlt 1 (by omega)
    have a2 := hc1 i hlt 2 (by omega)
    have a3 := hc1 i hlt 3 (by omega)
    have a4 := hc1 i hlt 4 (by omega)
    obtain ⟨x, hx⟩ : ∃ x, T.getD i default = x := ⟨_, rfl⟩
    rw [hx] at a0 a1 a2 a3 a4 z1 z2 z3 hbet hcase
    obtain ⟨x1, x2, x3, fr, un⟩ := x
    simp only [HL.out] at z1 z2 z3 hbet hcase
    simp only [tc, List.getElem?_cons_zero, List.getElem?_cons_succ, Nat.add_zero] at a0 a1 a2 a3 a4
    have i0 : (0 : Int) <= (i : Int) := by omega
    have i1 : (i : Int) < (n2 : Int) := by omega
    have g1 : ¬ (fr : Int) < (k : Int) := by omega
    have g2 : ¬ (un : Int) < (fr : Int) := by omega
    have g3 : ¬ (n : Int) < (un : Int) := by omega
    have HX : Hid (∀ W, Below (wr.heap.size + 1) (wr.alloc (.cells #[.int .i64 x1, .int .i64 x2, .string x3, .int .i64 fr, .int .i64 un] 31)) W -> TkB wr.heap.size ⟨x1, x2, x3, fr, un⟩ W /\ Below wr.heap.size wr W) := fun W h => ⟨(TkB.new wr ⟨x1, x2, x3, fr, un⟩).on (by rw [size_alloc]; exact h), (Ba wr _).trans (h.mono (by omega))⟩
    have hs1 := fun W => slice_part (w := W) (ao := ao) (n := n) (cap := cap) (k := k) (m := fr) z1 (by omega)
    have hs2 := fun W => slice_part (w := W) (ao := ao) (n := n) (cap := cap) (k := fr) (m := un) z2 (by omega)
    have hs3 := fun W => sliceAt_part (w := W) (ao := ao) (n := n) (cap := cap) (k := k) (m := fr) z1 (by omega)
    have hs4 := fun W => sliceAt_part (w := W) (ao := ao) (n := n) (cap := cap) (k := fr) (m := un) z2 (by omega)
    have C1 : Hid (∀ W, Below wr.heap.size wr W -> Calls Tryz.prog 9 #[.slice (adv ao cap k) (fr - k) (cap - k)] W fun e w' => ∃ ao3 cap3, e = .returned (.tuple #[.slice ao3 1 cap3, .int .i64 0, .int .i64 0]) /\ Below W.heap.size W w') := fun W h => by
     have h2 := Bt HBw.out h
     refine (tokens_any _ _ _ _ W ((HR.out.below h2).part z1 (by omega)) (HT.out.below h2) (by omega)).mono fun e w' hh => ?_
     obtain ⟨ao3, n3, cap3, h3, h4, h5⟩ := hh
     rw [hbet] at h3 h4
     have h6 := h4.len
     simp only [List.length_singleton] at h6
     subst h6
     exact ⟨ao3, cap3, h3, h5⟩
    obtain ⟨m1, hm1⟩ : ∃ m, m = fr - k := ⟨_, rfl⟩
    obtain ⟨m2, hm2⟩ : ∃ m, m = un - fr := ⟨_, rfl⟩
    obtain ⟨d1, hd1⟩ : ∃ m, m = cap - k := ⟨_, rfl⟩
    obtain ⟨d2, hd2⟩ : ∃ m, m = cap - fr := ⟨_, rfl⟩
    obtain ⟨v1, hv1⟩ : ∃ m, m = adv ao cap k := ⟨_, rfl⟩
    obtain ⟨v2, hv2⟩ : ∃ m, m = adv ao cap fr := ⟨_, rfl⟩
    rw [<- hm1, <- hd1, <- hv1] at C1 hs1 hs3
    rw [<- hm2, <- hd2, <- hv2] at hs2 hs4
    rcases hcase with ⟨rfl, k1, rfl, U, hU⟩ | ⟨hk0, k1, k2, k3, k4, y, z, hU, hy⟩
    ·-- the last one
     have hlast : i + 1 = n2 := by have := List.drop_eq_nil_iff.1 k1; rw [HN2.out] at this; omega
     have t5 : ((i : Int) == (n2 : Int) - 1) = true := by simp; omega
     have C2 : Hid (∀ W, Below wr.heap.size wr W -> Calls Tryz.prog 9 #[.slice v2 m2 d2] W fun e w' => ∃ ao3 n3 cap3, e = .returned (.tuple #[.slice ao3 n3 cap3, .int .i64 0, .int .i64 0]) /\ Below W.heap.size W w') := fun W h => by
      have h2 := Bt HBw.out h
      rw [hm2, hd2, hv2]
      refine (tokens_any _ _ _ _ W ((HR.out.below h2).part z2 (by omega)) (HT.out.below h2) (by omega)).mono fun e w' hh => ?_
      obtain ⟨ao3, n3, cap3, h3, h4, h5⟩ := hh
      rw [hU] at h3 h4
      exact ⟨ao3, n3, cap3, h3, h5⟩
     have HLast := hid hlast
     clear hc1 hx hm1 hm2 hd1 hd2 hv1 hv2 hI hE j1 j2 hBn k1 hU hbet hlast z1 z2 z3
     go_wp2_with fail
     go_at_call 9
     with_reducible refine (C1.out _ (Ba wr _)).mono ?_
     rintro e wb ⟨ao3, cap3, rfl, bb⟩
     have HXb := hid (HX.out wb (by rw [size_alloc] at bb; exact bb))
     obtain ⟨c0, c1, c2, c3, c4⟩ := HXb.out.1.c
     simp only [Nat.zero_add] at c0 c1 c2 c3 c4
     clear bb C1
     go_wp2_with fail
     go_at_call 9
     with_reducible refine (C2.out _ HXb.out.2).mono ?_
     rintro e wc ⟨ao4, n4, cap4, rfl, bc⟩
     have HTc := hid (HXb.out.1.on bc)
     have HBc := hid (Bt HXb.out.2 bc)
     obtain ⟨c0, c1, c2, c3, c4⟩ := HTc.out.c
     simp only [Nat.zero_add] at c0 c1 c2 c3 c4
     clear bc C2 HXb
     go_wp2_with fail
     go_quiet (fail)
     have HQq : Hid (Below wa.heap.size wa (wc.drewN nq)) := Bdn (Bt hB.out HBc.out) nq
     go_wp2_with fail
     go_roundg (n2 - (i + 1))
     case measure => omega
     case rel => exact ⟨un, i + 1, 0, rfl, by go_num, rfl, by omega, Nat.le_refl _, .inr (.inl HL.out.symm), fun h => absurd HLast.out (by omega), fun _ => rfl, HQq.out⟩
    ·have hnl : i + 1 ≠ n2 := by intro e; apply k1; rw [List.drop_eq_nil_iff, HN2.out]; omega
     have t5 : ((i : Int) == (n2 : Int) - 1) = false := by simp; omega
     have t6 : (x1 == 0) = false := by simp; exact hk0
     have t7 : (x1 != 0) = true := by simp; exact hk0
     simp only [ky, Prod.mk.injEq] at hy
     obtain ⟨y1, y2, y3, y4, y5⟩ := y
     simp only at hy
     obtain ⟨rfl, rfl, rfl⟩ := hy
     have C2 : Hid (∀ W, Below wr.heap.size wr W -> Calls Tryz.prog 9 #[.slice v2 m2 d2] W fun e w' => ∃ b3 o3 cap3, e = .returned (.tuple #[.slice (some ⟨b3, o3, none⟩) 2 cap3, .int .i64 0, .int .i64 0]) /\ (w'.cell? ⟨b3, o3, none⟩ = some (.int .i64 y1) /\ w'.cell? ⟨b3, o3 + 1, none⟩ = some (.int .i64 y2) /\ w'.cell? ⟨b3, o3 + 2, none⟩ = some (.string y3) /\ w'.cell? ⟨b3, o3 + 3, none⟩ = some (.int .i64 y4) /\ w'.cell? ⟨b3, o3 + 4, none⟩ = some (.int .i64 y5)) /\ Below W.heap.size W w') := fun W h => by
      have h2 := Bt HBw.out h
      rw [hm2, hd2, hv2]
      refine (tokens_any _ _ _ _ W ((HR.out.below h2).part z2 (by omega)) (HT.out.below h2) (by omega)).mono fun e w' hh => ?_
      obtain ⟨ao3, n3, cap3, h3, h4, h5⟩ := hh
      rw [hU] at h3 h4
      have h6 := h4.len
      simp only [List.length_cons, List.length_nil] at h6
      subst h6
      obtain ⟨b3, o3, rfl, _, hc⟩ := h4.some (by omega)
      have e0 := hc 0 (by omega) 0 (by omega)
      have e1 := hc 0 (by omega) 1 (by omega)
      have e2 := hc 0 (by omega) 2 (by omega)
      have e3 := hc 0 (by omega) 3 (by omega)
      have e4 := hc 0 (by omega) 4 (by omega)
      simp only [tc, List.getD_cons_zero, List.getElem?_cons_zero, List.getElem?_cons_succ, Nat.zero_mul, Nat.add_zero] at e0 e1 e2 e3 e4
      exact ⟨b3, o3, cap3, h3, ⟨e0, e1, e2, e3, e4⟩, h5⟩
     have CS := hid (fun wx => tkSame_any y1 y2 y3 y4 y5 fr un wx)
     have HK2 : Hid (l.length < un + f /\ toksA f l un = (T.drop (i + 1), none)) := ⟨by rw [HL.out] at j1 ⊢; omega, k2⟩
     have HK3 := hid k3
     have hun : un <= n := z3
     clear hc1 hx hm1 hm2 hd1 hd2 hv1 hv2 hI hE j1 j2 hBn k1 k2 k3 hU hbet z1 z2 z3 hk0
     go_wp2_with fail
     go_at_call 9
     with_reducible refine (C1.out _ (Ba wr _)).mono ?_
     rintro e wb ⟨ao3, cap3, rfl, bb⟩
     have HXb := hid (HX.out wb (by rw [size_alloc] at bb; exact bb))
     obtain ⟨c0, c1, c2, c3, c4⟩ := HXb.out.1.c
     simp only [Nat.zero_add] at c0 c1 c2 c3 c4
     clear bb C1
     go_wp2_with fail
     go_at_call 9
     with_reducible refine (C2.out _ HXb.out.2).mono ?_
     rintro e wc ⟨b3, o3, cap4, rfl, ⟨e0, e1, e2, e3, e4⟩, bc⟩
     have HTc := hid (HXb.out.1.on bc)
     have HBc := hid (Bt HXb.out.2 bc)
     have HS : Hid (wc.cell? ⟨b3, o3, none⟩ = some (.int .i64 y1) /\ wc.cell? ⟨b3, o3 + 1, none⟩ = some (.int .i64 y2) /\ wc.cell? ⟨b3, o3 + 2, none⟩ = some (.string y3) /\ wc.cell? ⟨b3, o3 + 3, none⟩ = some (.int .i64 y4) /\ wc.cell? ⟨b3, o3 + 4, none⟩ = some (.int .i64 y5) /\ wc.cell? ⟨wr.heap.size, 0, none⟩ = some (.int .i64 y1) /\ wc.cell? ⟨wr.heap.size, 0 + 1, none⟩ = some (.int .i64 y2) /\ wc.cell? ⟨wr.heap.size, 0 + 2, none⟩ = some (.string y3) /\ wc.cell? ⟨wr.heap.size, 0 + 3, none⟩ = some (.int .i64 fr) /\ wc.cell? ⟨wr.heap.size, 0 + 4, none⟩ = some (.int .i64 un) /\ Below wc.heap.size wc wc) := by
      obtain ⟨d0, d1, d2, d3, d4⟩ := HTc.out.c
      exact ⟨e0, e1, e2, e3, e4, d0, d1, d2, d3, d4, Below.refl _ _⟩
     clear bc C2 HXb e0 e1 e2 e3 e4 c0 c1 c2 c3 c4 a0 a1 a2 a3 a4 hs1 hs2 hs3 hs4
     go_wp2_with fail
     go_region_held3 (fun wx => wx.cell? ⟨b3, o3, none⟩ = some (.int .i64 y1) /\ wx.cell? ⟨b3, o3 + 1, none⟩ = some (.int .i64 y2) /\ wx.cell? ⟨b3, o3 + 2, none⟩ = some (.string y3) /\ wx.cell? ⟨b3, o3 + 3, none⟩ = some (.int .i64 y4) /\ wx.cell? ⟨b3, o3 + 4, none⟩ = some (.int .i64 y5) /\ wx.cell? ⟨wr.heap.size, 0, none⟩ = some (.int .i64 y1) /\ wx.cell? ⟨wr.heap.size, 1, none⟩ = some (.int .i64 y2) /\ wx.cell? ⟨wr.heap.size, 2, none⟩ = some (.string y3) /\ wx.cell? ⟨wr.heap.size, 3, none⟩ = some (.int .i64 fr) /\ wx.cell? ⟨wr.heap.size, 4, none⟩ = some (.int .i64 un) /\ Below wc.heap.size wc wx)
      (first | exact twoTk_on HS.out (Bd wc 1) | exact twoTk_on (x1 := o3) (y1 := 0) (by assumption) (by assumption))
      (first | (go_at_call 17; with_reducible refine (CS.out _).mono ?_; rintro e we ⟨rfl, be⟩))
     rename_i hHeld
     obtain ⟨_, _, _, _, _, _, _, _, _, c4, hbl⟩ := hHeld
     have HBe : Hid (Below wa.heap.size wa we) := Bt (Bt hB.out HBc.out) hbl
     clear hbl HS CS
     go_wp2_with fail
     go_roundg (n2 - (i + 1))
     case measure => omega
     case rel => exact ⟨un, i + 1, f, rfl, by go_num, rfl, by omega, hun, HK3.out, fun _ => HK2.out, fun h => absurd h hnl, HBe.out⟩
   ·obtain rfl : i = n2 := by omega
    obtain rfl : k = n := hE.out rfl
    have i1 : ¬ (i : Int) < (i : Int) := by omega
    have t1 : ((k : Int) == (k : Int)) = true := by simp
    have CW := hid (lawake_any wr (HT.out.below HBw.out))
    clear hI hE hBn
    go_wp2_with (go_at_call 12; with_reducible refine CW.out.mono ?_; rintro e wd ⟨rfl, bd⟩; have HBd := hid (Bt HBw.out bd); clear bd)
    go_ret
    exact ⟨rfl, HBd.out⟩
 ·have t0 : (ye == 0) = false := by simp; exact hye
  obtain ⟨_, hp0, hp1⟩ := ans_err (by rw [HL.out]; omega) HA.out hye
  rw [HL.out] at hp1
  clear hye
  go_enter Tryz.func6, Tryz.ntmps6
  go_wp2_with fail
  go_at_call 9
  with_reducible refine CT.out.mono ?_
  rintro e wa ⟨ao2, n2, cap2, rfl, _, ba⟩
  have HBa := hid ba
  have CW := hid (lawake_any wa (HT.out.below ba))
  clear ba CT
  go_wp2_with (go_at_call 12; with_reducible refine CW.out.mono ?_; rintro e wd ⟨rfl, bd⟩; have HBd := hid (Bt HBa.out bd); clear bd)
  go_ret
  exact ⟨rfl, HBd.out⟩
end Go.Proofs.YtbkfinjajkjhaaaGreatDoor
