import Derived.Test.YtbkfinjajkjhaaaGreatDoorLL2
import Derived.Test.YtbkfinjajkjhaaaGreatDoorLM16
import Derived.Test.YtbkfinjajkjhaaaGreatDoorW3
import Derived.Test.YtbkfinjajkjhaaaGreatDoorW42
import Derived.Laws.IdiomStrings
import Derived.Deep.RegionHeld3
set_option linter.unusedVariables false
set_option linter.unusedSimpArgs false
set_option maxRecDepth 100000
namespace Go.Proofs.YtbkfinjajkjhaaaGreatDoor
open Go.RowKit
theorem tkSame_any (a b : Int) (t : ByteArray) (f u f' u' : Int) (w : World) : Calls Tryz.prog 17 #[.agg #[.int .i64 a, .int .i64 b, .string t, .int .i64 f, .int .i64 u], .agg #[.int .i64 a, .int .i64 b, .string t, .int .i64 f', .int .i64 u']] w fun e w' => e = .returned (.bool true) /\ Below w.heap.size w w' := by
 have t1 : (a == a) = true := by simp
 have t2 : (b == b) = true := by simp
 have t3 : (t.toList == t.toList) = true := by simp
 have HB : Hid (∀ o1 o2, Below w.heap.size w ((w.alloc o1).alloc o2)) := fun o1 o2 => Bt (Ba w o1) (Ba _ o2)
 go_enter Tryz.func17, Tryz.ntmps17
 go_wp2_with fail
 go_ret
 exact ⟨rfl, HB.out _ _⟩
theorem to_bytes (W : World) (X : ByteArray) (l : List Nat) (hX : bs X = l) (hs : X.size <= 1000000) :
  ∃ c W1, (convert 9 22 (.string X)).run Tryz.prog W = .ok (.slice (some ⟨W.heap.size, 0, none⟩) X.size c) W1 /\ BRow W1 (some ⟨W.heap.size, 0, none⟩) X.size c l /\ Below W.heap.size W W1 := by
 have h := run_bytes_of_string (P := Tryz.prog) W 9 22 5 X Tryz.underlying9 Tryz.underlying22 Tryz.underlying5
 refine ⟨_, _, h, ?_, ?_⟩
 ·subst hX
  have hcap := grownCap_ge W X.size 0 5
  have hmost := grownCap_le_maxLen W X.size 0 5 (by unfold maxLen; omega)
  refine ⟨bs_length X, hcap, hmost, fun e => (by cases e), bs_lt X, .inr ⟨W.heap.size, 0, rfl, by rw [size_alloc]; exact Nat.lt_succ_self _, fun i hi => ?_⟩⟩
  rw [bs_length] at hi
  have hb := bytesRow_at X (grownCap W X.size 0 5) i hi
  rw [Nat.zero_add, bs_get X i hi]
  have hcell := Go.Joins.cell_alloc_mark_at W.drew (bytesRow X (grownCap W X.size 0 5)) 5 ((bytesRow X (grownCap W X.size 0 5)).size, (bytesRow X (grownCap W X.size 0 5)).size + 1) W.heap.size i rfl
  rw [hcell]; exact hb
 ·exact Bt (Bd W 1) (Ba _ _)
theorem twoTk_on {W wx wy : World} {a0 a1 a2 a3 a4 b0 b1 b2 b3 b4 : Value} {c d x1 y1 : Nat}
  (h : wx.cell? ⟨c, x1, none⟩ = some a0 /\ wx.cell? ⟨c, x1 + 1, none⟩ = some a1 /\ wx.cell? ⟨c, x1 + 2, none⟩ = some a2 /\ wx.cell? ⟨c, x1 + 3, none⟩ = some a3 /\ wx.cell? ⟨c, x1 + 4, none⟩ = some a4 /\ wx.cell? ⟨d, y1, none⟩ = some b0 /\ wx.cell? ⟨d, y1 + 1, none⟩ = some b1 /\ wx.cell? ⟨d, y1 + 2, none⟩ = some b2 /\ wx.cell? ⟨d, y1 + 3, none⟩ = some b3 /\ wx.cell? ⟨d, y1 + 4, none⟩ = some b4 /\ Below W.heap.size W wx) (hb : Below wx.heap.size wx wy) :
  wy.cell? ⟨c, x1, none⟩ = some a0 /\ wy.cell? ⟨c, x1 + 1, none⟩ = some a1 /\ wy.cell? ⟨c, x1 + 2, none⟩ = some a2 /\ wy.cell? ⟨c, x1 + 3, none⟩ = some a3 /\ wy.cell? ⟨c, x1 + 4, none⟩ = some a4 /\ wy.cell? ⟨d, y1, none⟩ = some b0 /\ wy.cell? ⟨d, y1 + 1, none⟩ = some b1 /\ wy.cell? ⟨d, y1 + 2, none⟩ = some b2 /\ wy.cell? ⟨d, y1 + 3, none⟩ = some b3 /\ wy.cell? ⟨d, y1 + 4, none⟩ = some b4 /\ Below W.heap.size W wy := by
 obtain ⟨h0, h1, h2, h3, h4, g0, g1, g2, g3, g4, hB⟩ := h
 exact ⟨(hb.cell (p := ⟨c, x1, none⟩) (cellIn h0)).trans h0, (hb.cell (p := ⟨c, x1 + 1, none⟩) (cellIn h0)).trans h1, (hb.cell (p := ⟨c, x1 + 2, none⟩) (cellIn h0)).trans h2, (hb.cell (p := ⟨c, x1 + 3, none⟩) (cellIn h0)).trans h3, (hb.cell (p := ⟨c, x1 + 4, none⟩) (cellIn h0)).trans h4,
  (hb.cell (p := ⟨d, y1, none⟩) (cellIn g0)).trans g0, (hb.cell (p := ⟨d, y1 + 1, none⟩) (cellIn g0)).trans g1, (hb.cell (p := ⟨d, y1 + 2, none⟩) (cellIn g0)).trans g2, (hb.cell (p := ⟨d, y1 + 3, none⟩) (cellIn g0)).trans g3, (hb.cell (p := ⟨d, y1 + 4, none⟩) (cellIn g0)).trans g4, Bt hB hb⟩
theorem toksA_len : ∀ (f : Nat) (l : List Nat) (k : Nat), (toksA f l k).1.length <= f
 | 0, _, _ => Nat.le_refl _
 | f + 1, l, k => by
  unfold toksA
  split
  ·exact Nat.zero_le _
  ·split
   ·simp
   ·split
    ·exact Nat.zero_le _
    ·simp only [List.length_cons]
     exact Nat.succ_le_succ (toksA_len f l _)
theorem ansM_len (l : List Nat) : (ansM l).1.length <= l.length + 1 := by
 unfold ansM
 split
 ·exact Nat.zero_le _
 ·split
  ·exact Nat.zero_le _
  ·split
   ·exact Nat.zero_le _
   ·exact toksA_len _ _ _
theorem ky_get {T U : List Tok} (h : U.map ky = T.map ky) (i : Nat) (hi : i < T.length) : ky (U.getD i default) = ky (T.getD i default) := by
 have hl : U.length = T.length := by have := congrArg List.length h; simpa using this
 have := congrArg (fun x => x[i]?) h
 simp only [List.getElem?_map] at this
 rw [List.getD_eq_getElem?_getD, List.getD_eq_getElem?_getD]
 rw [List.getElem?_eq_getElem (by omega), List.getElem?_eq_getElem hi] at this ⊢
 simpa using this
set_option maxHeartbeats 16000000 in
theorem lexRemarks_walk (ao : Option Addr) (n cap : Nat) (l : List Nat) (z : Int) (w : World) (R : BRow w ao n cap l) (hz1 : -9223372036854775808 <= z) (hz2 : z <= 9223372036854775807) (hT : LTabs w) : Calls Tryz.prog 7 #[.slice ao n cap, .int .i64 z] w fun e w' => e = .returned (.bool true) /\ Below w.heap.size w w' := by
 by_cases hn : 5000 < n
 ·have n1 : (5000 : Int) < (n : Int) := by omega
  clear R hT
  go_enter Tryz.func7, Tryz.ntmps7
  go_wp2_with fail
  go_ret
  exact ⟨rfl, Below.refl _ _⟩
 have n1 : ¬ (5000 : Int) < (n : Int) := by omega
 have hpre : ∃ (S : ByteArray) (P : List Nat), bs S = P /\ Pre P /\ ((Int.tmod z 2 = 0 /\ S = ⟨#[13, 10]⟩) \/ (Int.tmod z 2 ≠ 0 /\ S = ⟨#[32, 59, 32, 97, 32, 114, 101, 109, 97, 114, 107, 32, 34, 32, 40, 10, 35, 124, 32, 111, 110, 101, 32, 35, 124, 32, 105, 110, 32, 124, 35, 32, 97, 110, 111, 116, 104, 101, 114, 32, 124, 35, 9]⟩)) /\ S.size <= 43 := by
  by_cases h : Int.tmod z 2 = 0
  ·exact ⟨⟨#[13, 10]⟩, preA, by kernel_rfl, pre_a, .inl ⟨h, rfl⟩, by decide⟩
  ·exact ⟨⟨#[32, 59, 32, 97, 32, 114, 101, 109, 97, 114, 107, 32, 34, 32, 40, 10, 35, 124, 32, 111, 110, 101, 32, 35, 124, 32, 105, 110, 32, 124, 35, 32, 97, 110, 111, 116, 104, 101, 114, 32, 124, 35, 9]⟩, preB, by kernel_rfl, pre_b, .inr ⟨h, rfl⟩, by decide⟩
 obtain ⟨S, P, hSP, hP, hzz, hS43⟩ := hpre
 have HR := hid R
 have HT := hid hT
 have HD : Hid (Dg 256 l) := R.dg
 have HL : Hid (l.length = n) := R.len
 have hPl : P.length = S.size := by rw [<- hSP, bs_length]
 have HPl := hid hPl
 have HSP := hid hSP
 have HP := hid hP
 have CT := hid (tokens_any ao n cap l w R hT (by omega))
 have hS0 : (S.size : Int) <= 43 := by omega
 obtain ⟨s, hs⟩ : ∃ s, s = bstr l := ⟨_, rfl⟩
 have hss : bs s = l := by rw [hs, bs_bstr R.dg]
 have hsz : s.size = n := by rw [<- bs_length, hss]; exact R.len
 have HV : Hid (∀ W, Below w.heap.size w W -> (convert 22 9 (.slice ao n cap)).run Tryz.prog W = .ok (.string s) W) := fun W h => by rw [hs]; exact conv_any (HR.out.below h)
 have hb1 : bs (S ++ s) = P ++ l := by rw [bs_append, hSP, hss]
 have hz1' : (S ++ s).size = S.size + n := by rw [<- bs_length, hb1, List.length_append, hPl, R.len]
 have hb2 : bs (S ++ s ++ ⟨#[10, 59]⟩) = P ++ l ++ aft := by rw [bs_append, hb1]; rfl
 have hz2' : (S ++ s ++ (⟨#[10, 59]⟩ : ByteArray)).size = S.size + n + 2 := by rw [<- bs_length, hb2, List.length_append, List.length_append, hPl, R.len]; rfl
 have HC1 : Hid (∀ W, ∃ c W1, (convert 9 22 (.string (S ++ s))).run Tryz.prog W = .ok (.slice (some ⟨W.heap.size, 0, none⟩) (S.size + n) c) W1 /\ BRow W1 (some ⟨W.heap.size, 0, none⟩) (S.size + n) c (P ++ l) /\ Below W.heap.size W W1) := fun W => by
  have := to_bytes W (S ++ s) (P ++ l) hb1 (by omega)
  rw [hz1'] at this; exact this
 have HC2 : Hid (∀ W, ∃ c W1, (convert 9 22 (.string (S ++ s ++ ⟨#[10, 59]⟩))).run Tryz.prog W = .ok (.slice (some ⟨W.heap.size, 0, none⟩) (S.size + n + 2) c) W1 /\ BRow W1 (some ⟨W.heap.size, 0, none⟩) (S.size + n + 2) c (P ++ l ++ aft) /\ Below W.heap.size W W1) := fun W => by
  have := to_bytes W (S ++ s ++ ⟨#[10, 59]⟩) (P ++ l ++ aft) hb2 (by omega)
  rw [hz2'] at this; exact this
 have hl1 : ¬ 9223372036854775807 < S.size + s.size := by omega
 have hl2 : ¬ 9223372036854775807 < S.size + s.size + 2 := by omega
 obtain ⟨A, hA⟩ : ∃ A, A = ansM l := ⟨_, rfl⟩
 unfold ToksPost at CT
 rw [<- hA] at CT
 obtain ⟨T, ye, yn⟩ := A
 have HA : Hid (ansM l = (T, ye, yn)) := hA.symm
 have HLn : Hid (T.length <= 5001) := by have := ansM_len l; rw [<- hA] at this; have h2 := R.len; show T.length <= _; simp only at this; omega
 clear R hT hSP hP hPl hS43 hs hss hsz hb1 hb2 hz1' hz2' hA
 rcases hzz with ⟨hz, hSe⟩ | ⟨hz, hSe⟩
 all_goals
  go_enter Tryz.func7, Tryz.ntmps7
  go_upto_region 6 with fail
  rw [<- hSe]
  clear hz hSe
  go_wp2_with fail
  go_at_call 9
  with_reducible refine CT.out.mono ?_
  rintro e wa ⟨ao2, n2, cap2, rfl, T1, ba⟩
  have HT1 := hid T1
  have HBa := hid ba
  have hv := HV.out wa ba
  clear T1 ba CT
  by_cases hye : ye = 0
  ·subst hye
   obtain ⟨U, u1, u2⟩ := ans_both HP.out HD.out (by rw [HPl.out, HL.out]; omega) HA.out
   have hul : U.length = T.length := by have := congrArg List.length u2; simpa using this
   obtain ⟨c1, W1, hc1, hr1, hbl1⟩ := HC2.out wa
   have HB1 := hid (Bt HBa.out hbl1)
   have CT2 := hid (tokens_any _ _ _ _ W1 hr1 (HT.out.below HB1.out) (by omega))
   unfold ToksPost at CT2
   rw [u1] at CT2
   have HU := hid u2
   have HT1b := hid (HT1.out.below hbl1)
   have hn2 := hid HT1.out.len
   have HUL := hid hul
   clear hr1 hbl1 u1 u2 hul HT1
   go_wp2_with fail
   go_at_call 9
   with_reducible refine CT2.out.mono ?_
   rintro e wb ⟨ao3, n3, cap3, rfl, T2, bb⟩
   have HT2 := hid T2
   have HT1c := hid (HT1b.out.below bb)
   have HBb := hid (Bt HB1.out bb)
   obtain rfl : n3 = n2 := by rw [<- T2.len, <- hn2.out]; exact HUL.out
   have hn3 : (n3 : Int) <= 5001 := by have := HLn.out; rw [hn2.out] at this; omega
   have t1 : ((n3 : Int) == (n3 : Int)) = true := by simp
   have HB0 : Hid (Below wb.heap.size wb wb) := Below.refl _ _
   clear T2 bb CT2 HT1b hv hc1
   go_wp2_with fail
   go_loopg [15] n3 (fun g v wx => ∃ k : Nat, v = .int .i64 k /\ k <= n3 /\ g = n3 - k /\ Hid (Below wb.heap.size wb wx))
   case atStart => exact ⟨0, rfl, Nat.zero_le _, rfl, HB0.out⟩
   case round =>
    obtain ⟨k, rfl, hk, rfl, hB⟩ := hrel
    clear HB0
    by_cases hlt : k < n3
    ·obtain ⟨b1, o1, rfl, hb1, hc1⟩ := (HT1c.out.below hB.out).some (by omega)
     obtain ⟨b2, o2, rfl, hb2, hc2⟩ := (HT2.out.below hB.out).some (by omega)
     have hky := ky_get HU.out k (by rw [hn2.out]; exact hlt)
     obtain ⟨x, hx⟩ : ∃ x, T.getD k default = x := ⟨_, rfl⟩
     obtain ⟨y, hy⟩ : ∃ y, U.getD k default = y := ⟨_, rfl⟩
     obtain ⟨x1, x2, x3, x4, x5⟩ := x
     obtain ⟨y1, y2, y3, y4, y5⟩ := y
     have a0 := hc1 k hlt 0 (by omega)
     have a1 := hc1 k hlt 1 (by omega)
     have a2 := hc1 k hlt 2 (by omega)
     have a3 := hc1 k hlt 3 (by omega)
     have a4 := hc1 k hlt 4 (by omega)
     have e0 := hc2 k hlt 0 (by omega)
     have e1 := hc2 k hlt 1 (by omega)
     have e2 := hc2 k hlt 2 (by omega)
     have e3 := hc2 k hlt 3 (by omega)
     have e4 := hc2 k hlt 4 (by omega)
     rw [hx] at a0 a1 a2 a3 a4 hky
     rw [hy] at e0 e1 e2 e3 e4 hky
     simp only [ky, Prod.mk.injEq] at hky
     obtain ⟨rfl, rfl, rfl⟩ := hky
     simp only [tc, List.getElem?_cons_zero, List.getElem?_cons_succ, Nat.add_zero] at a0 a1 a2 a3 a4 e0 e1 e2 e3 e4
     have k0 : (0 : Int) <= (k : Int) := by omega
     have k1 : (k : Int) < (n3 : Int) := by omega
     have CS := hid (fun wx => tkSame_any y1 y2 y3 x4 x5 y4 y5 wx)
     have HS : Hid (wr.cell? ⟨b1, o1 + k * 5, none⟩ = some (.int .i64 y1) /\ wr.cell? ⟨b1, o1 + k * 5 + 1, none⟩ = some (.int .i64 y2) /\ wr.cell? ⟨b1, o1 + k * 5 + 2, none⟩ = some (.string y3) /\ wr.cell? ⟨b1, o1 + k * 5 + 3, none⟩ = some (.int .i64 x4) /\ wr.cell? ⟨b1, o1 + k * 5 + 4, none⟩ = some (.int .i64 x5) /\ wr.cell? ⟨b2, o2 + k * 5, none⟩ = some (.int .i64 y1) /\ wr.cell? ⟨b2, o2 + k * 5 + 1, none⟩ = some (.int .i64 y2) /\ wr.cell? ⟨b2, o2 + k * 5 + 2, none⟩ = some (.string y3) /\ wr.cell? ⟨b2, o2 + k * 5 + 3, none⟩ = some (.int .i64 y4) /\ wr.cell? ⟨b2, o2 + k * 5 + 4, none⟩ = some (.int .i64 y5) /\ Below wr.heap.size wr wr) := ⟨a0, a1, a2, a3, a4, e0, e1, e2, e3, e4, Below.refl _ _⟩
     clear hc1 hc2 hx hy a0 a1 a2 a3 a4 e0 e1 e2 e3 e4
     go_wp2_with fail
     go_region_held3 (fun wx => wx.cell? ⟨b1, o1 + k * 5, none⟩ = some (.int .i64 y1) /\ wx.cell? ⟨b1, o1 + k * 5 + 1, none⟩ = some (.int .i64 y2) /\ wx.cell? ⟨b1, o1 + k * 5 + 2, none⟩ = some (.string y3) /\ wx.cell? ⟨b1, o1 + k * 5 + 3, none⟩ = some (.int .i64 x4) /\ wx.cell? ⟨b1, o1 + k * 5 + 4, none⟩ = some (.int .i64 x5) /\ wx.cell? ⟨b2, o2 + k * 5, none⟩ = some (.int .i64 y1) /\ wx.cell? ⟨b2, o2 + k * 5 + 1, none⟩ = some (.int .i64 y2) /\ wx.cell? ⟨b2, o2 + k * 5 + 2, none⟩ = some (.string y3) /\ wx.cell? ⟨b2, o2 + k * 5 + 3, none⟩ = some (.int .i64 y4) /\ wx.cell? ⟨b2, o2 + k * 5 + 4, none⟩ = some (.int .i64 y5) /\ Below wr.heap.size wr wx)
      (first | exact twoTk_on HS.out (Bd wr 1) | exact twoTk_on (by assumption) (by assumption))
      (first | (go_at_call 17; with_reducible refine (CS.out _).mono ?_; rintro e wc ⟨rfl, bc⟩))
     rename_i hHeld
     obtain ⟨_, _, _, _, _, _, _, _, _, _, hbl⟩ := hHeld
     have HBc : Hid (Below wb.heap.size wb wc) := Bt hB.out hbl
     clear hbl HS CS
     go_wp2_with fail
     go_roundg (n3 - (k + 1))
     case measure => omega
     case rel => exact ⟨k + 1, by go_num, by omega, rfl, HBc.out⟩
    ·have k1 : ¬ (k : Int) < (n3 : Int) := by omega
     have CW := hid (lawake_any wr (HT.out.below (Bt HBb.out hB.out)))
     have HBw := hid (Bt HBb.out hB.out)
     go_wp2_with (go_at_call 12; with_reducible refine CW.out.mono ?_; rintro e wd ⟨rfl, bd⟩; have HBd := hid (Bt HBw.out bd); clear bd)
     go_ret
     exact ⟨rfl, HBd.out⟩
  ·have t0 : (ye == 0) = false := by simp; exact hye
   obtain ⟨U, u1⟩ := ans_pre HP.out HD.out (by rw [HPl.out, HL.out]; omega) HA.out hye
   obtain ⟨_, hp0, hp1⟩ := ans_err (by rw [HL.out]; omega) HA.out hye
   rw [HL.out] at hp1
   have hp2 : yn < 5001 := by omega
   rw [HPl.out, Int.add_comm] at u1
   obtain ⟨c1, W1, hc1, hr1, hbl1⟩ := HC1.out wa
   have HB1 := hid (Bt HBa.out hbl1)
   have CT2 := hid (tokens_any _ _ _ _ W1 hr1 (HT.out.below HB1.out) (by omega))
   unfold ToksPost at CT2
   rw [u1] at CT2
   have t1 : (ye == ye) = true := by simp
   have t2 : (yn + (S.size : Int) == yn + (S.size : Int)) = true := by simp
   clear hr1 hbl1 u1 HT1 hye hp1
   go_wp2_with fail
   go_at_call 9
   with_reducible refine CT2.out.mono ?_
   rintro e wb ⟨ao3, n3, cap3, rfl, _, bb⟩
   have HBb := hid (Bt HB1.out bb)
   have CW := hid (lawake_any wb (HT.out.below HBb.out))
   clear bb CT2
   go_wp2_with (go_at_call 12; with_reducible refine CW.out.mono ?_; rintro e wd ⟨rfl, bd⟩; have HBd := hid (Bt HBb.out bd); clear bd)
   go_ret
   exact ⟨rfl, HBd.out⟩
end Go.Proofs.YtbkfinjajkjhaaaGreatDoor
