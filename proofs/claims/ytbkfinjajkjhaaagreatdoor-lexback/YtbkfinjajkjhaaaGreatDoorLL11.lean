import Derived.Test.YtbkfinjajkjhaaaGreatDoorLX24
import Derived.Test.YtbkfinjajkjhaaaGreatDoorRL17
set_option linter.unusedVariables false
set_option linter.unusedSimpArgs false
set_option maxRecDepth 100000
namespace Go.Proofs.YtbkfinjajkjhaaaGreatDoor
open Go.RowKit
theorem qb_pos (c : Nat) : 1 <= (qb c).length := by
 by_cases h : c < 128
 ·exact (qb_len h).1
 ·rw [qb_high (by omega)]; exact Nat.le_refl 1
theorem flat_ge : ∀ l : List Nat, l.length <= (l.flatMap qb).length
 | [] => Nat.le_refl _
 | c :: l => by
  have := flat_ge l
  have := qb_pos c
  rw [List.flatMap_cons, List.length_append, List.length_cons]; omega
theorem hash_fine {r : List Nat} (hd : Dg 256 r) {x : Tkn} (h : hashM r = some x) : (0 <= x.2.1 /\ x.2.1 <= 999999999) /\ x.2.2.1.size <= 5 * x.2.2.2 := by
 unfold hashM at h
 split at h
 ·cases h; exact ⟨⟨by decide, by decide⟩, Nat.zero_le _⟩
 ·split at h
  ·cases h; exact ⟨⟨by decide, by decide⟩, Nat.zero_le _⟩
  ·split at h
   ·cases h; exact ⟨⟨by decide, by decide⟩, Nat.zero_le _⟩
   ·split at h
    ·obtain ⟨y, hy, rfl⟩ := Option.map_eq_some_iff.1 h
     have := letB_rng' (charM_letB hd hy)
     refine ⟨?_, Nat.zero_le _⟩
     show 0 <= ((y.1 : Nat) : Int) /\ ((y.1 : Nat) : Int) <= 999999999
     omega
    ·split at h
     ·rename_i y hy
      cases h
      have := (labM_num hy).1
      refine ⟨?_, Nat.zero_le _⟩
      show 0 <= ((y.2.1 : Nat) : Int) /\ ((y.2.1 : Nat) : Int) <= 999999999
      omega
     ·obtain ⟨v, hv3, rfl⟩ := Option.map_eq_some_iff.1 h
      have h01 : v = 1 \/ v = 0 := by
       unfold truthM at hv3
       split at hv3
       ·cases hv3; exact .inl rfl
       ·split at hv3
        ·cases hv3; exact .inr rfl
        ·cases hv3
      refine ⟨?_, Nat.zero_le _⟩
      show 0 <= v /\ v <= 999999999
      omega
theorem tk_fine {r : List Nat} (hr : r ≠ []) (hd : Dg 256 r) {x : Tkn} (h : tkM r = some x) : (0 <= x.2.1 /\ x.2.1 <= 999999999) /\ x.2.2.1.size <= 5 * x.2.2.2 := by
 have hle := tkM_le hr h
 unfold tkM at h
 split at h
 ·cases h; exact ⟨⟨by decide, by decide⟩, Nat.zero_le _⟩
 ·split at h
  ·cases h; exact ⟨⟨by decide, by decide⟩, Nat.zero_le _⟩
  ·split at h
   ·split at h
    ·cases h
     refine ⟨⟨by show (0 : Int) <= 0; decide, by show (0 : Int) <= 999999999; decide⟩, ?_⟩
     show (bstr (r.take 2)).size <= 5 * 2
     rw [bstr_size, List.length_take]; omega
    ·cases h
     refine ⟨⟨by show (0 : Int) <= 0; decide, by show (0 : Int) <= 999999999; decide⟩, ?_⟩
     show (bstr (r.take 1)).size <= 5 * 1
     rw [bstr_size, List.length_take]; omega
   ·split at h
    ·obtain ⟨y, hy, rfl⟩ := Option.map_eq_some_iff.1 h
     obtain ⟨I, i1, i2, i3, i4⟩ := text_letters hy
     have := flat_ge (eNs I)
     refine ⟨⟨by show (0 : Int) <= 0; decide, by show (0 : Int) <= 999999999; decide⟩, ?_⟩
     show y.1.size <= 5 * y.2
     rw [<- bs_length, i2]
     unfold qt at i4
     rw [List.length_cons, List.length_append, List.length_singleton] at i4
     omega
    ·split at h
     ·exact hash_fine hd h
     ·unfold otherM at h
      split at h
      ·cases h; exact ⟨⟨by show (0 : Int) <= 0; decide, by show (0 : Int) <= 999999999; decide⟩, Nat.zero_le _⟩
      ·split at h
       ·rename_i hh
        split at h
        ·cases h
        ·cases h
         have hl := int_len hh
         rw [List.length_take] at hl
         refine ⟨⟨by show (0 : Int) <= 0; decide, by show (0 : Int) <= 999999999; decide⟩, ?_⟩
         show (bstr _).size <= 5 * wordN r
         simp only at hle
         rw [bstr_size]
         omega
       ·split at h
        ·cases h
         refine ⟨⟨by show (0 : Int) <= 0; decide, by show (0 : Int) <= 999999999; decide⟩, ?_⟩
         show (bstr (r.take (wordN r))).size <= 5 * wordN r
         rw [bstr_size, List.length_take]; omega
        ·cases h
theorem sq_fine {r : List Nat} {L : List Ky} (h : Sq r L) : Dg 256 r -> ∀ y ∈ L, (0 <= y.2.1 /\ y.2.1 <= 999999999) /\ y.2.2.size <= 5 * r.length := by
 induction h with
 | nil _ => intro _ y hy; cases hy
 | @cons r q x L hg hq hx ht ih =>
  intro hd y hy
  have hne : r.drop q ≠ [] := by intro e; have := congrArg List.length e; rw [List.length_drop, List.length_nil] at this; omega
  have hle := (tkM_le hne hx).2
  rw [List.length_drop] at hle
  rcases List.mem_cons.1 hy with rfl | hy
  ·obtain ⟨h1, h2⟩ := tk_fine hne (hd.drop q) hx
   exact ⟨h1, by show x.2.2.1.size <= _; omega⟩
  ·obtain ⟨h1, h2⟩ := ih (hd.drop _) y hy
   rw [List.length_drop] at h2
   exact ⟨h1, by omega⟩
theorem spell_take {L : List Ky} {i : Nat} (h : i < L.length) : spell (L.take (i + 1)) = spell (L.take i) ++ (spM (L[i]).1 (L[i]).2.1 (L[i]).2.2 ++ [32]) := by
 rw [List.take_succ_eq_append_getElem h]
 unfold spell
 rw [List.flatMap_append]
 simp
theorem spell_len {L : List Ky} (i : Nat) : (spell (L.take i)).length <= (spell L).length := by
 conv => rhs; rw [<- List.take_append_drop i L]
 unfold spell
 rw [List.flatMap_append, List.length_append]
 exact Nat.le_add_right _ _
set_option maxHeartbeats 16000000 in
theorem lexBack_walk (ao : Option Addr) (n cap : Nat) (l : List Nat) (w : World) (R : BRow w ao n cap l) (hT : LTabs w) (hD : DbT w) (hP : PowT w) : Calls Tryz.prog 5 #[.slice ao n cap] w fun e w' => e = .returned (.bool true) /\ Below w.heap.size w w' := by
 by_cases hn : 5000 < n
 ·have n1 : (5000 : Int) < (n : Int) := by omega
  clear R hT hD hP
  go_enter Tryz.func5, Tryz.ntmps5
  go_wp2_with fail
  go_ret
  exact ⟨rfl, Below.refl _ _⟩
 have n1 : ¬ (5000 : Int) < (n : Int) := by omega
 have HT := hid hT
 have HD := hid hD
 have HP := hid hP
 have HDg : Hid (Dg 256 l) := R.dg
 have HL : Hid (l.length = n) := R.len
 have CT := hid (tokens_any ao n cap l w R hT (by omega))
 obtain ⟨A, hA⟩ : ∃ A, A = ansM l := ⟨_, rfl⟩
 unfold ToksPost at CT
 rw [<- hA] at CT
 obtain ⟨T, ye, yn⟩ := A
 have HA : Hid (ansM l = (T, ye, yn)) := hA.symm
 have HLn : Hid (T.length <= 5001) := by have := ansM_len l; rw [<- hA] at this; have h2 := R.len; show T.length <= _; simp only at this; omega
 clear R hT hA hD hP
 by_cases hye : ye = 0
 ·subst hye
  obtain ⟨q1, q2, q3, q4, L, q5, q6⟩ := ans_sq HDg.out HA.out
  obtain ⟨s1, s2, s3, s4⟩ := sq_spell q5 HDg.out q2
  rw [HL.out] at s4
  obtain ⟨U, u1, u2⟩ := sq_ans (by omega) s2 s3 s1
  have hTL : T.length = L.length + 1 := by have := congrArg List.length q6; rw [List.length_map, List.length_append] at this; exact this
  have HTL := hid hTL
  have HF := hid (sq_fine q5 HDg.out)
  have HSl := hid s4
  have HSd := hid s2
  have HU1 := hid u1
  have HUT : Hid (U.map ky = T.map ky) := by rw [q6]; exact u2
  have HQ6 := hid q6
  clear q1 q2 q3 q4 q5 q6 s1 s2 s3 s4 u1 u2 hTL
  go_enter Tryz.func5, Tryz.ntmps5
  go_wp2_with fail
  go_at_call 9
  with_reducible refine CT.out.mono ?_
  rintro e wa ⟨ao2, n2, cap2, rfl, T1, ba⟩
  have HT1 := hid T1
  have HBa := hid ba
  have HN2 := hid T1.len
  obtain ⟨m, rfl⟩ : ∃ m, n2 = m + 1 := ⟨L.length, by rw [<- T1.len]; exact HTL.out⟩
  have HLm : Hid (L.length = m) := by have := HTL.out; rw [HN2.out] at this; unfold Hid; omega
  have hm1 : (m : Int) <= 5000 := by have := HLn.out; rw [HN2.out] at this; omega
  have HB0 : Hid (Below wa.heap.size wa wa) := Below.refl _ _
  clear T1 ba CT
  go_wp2_with fail
  go_loopg [6, 7] m (fun g u v wx => ∃ (k : Nat) (S : ByteArray), u = .string S /\ v = .int .i64 k /\ k <= m /\ g = m - k /\ Hid (bs S = spell (L.take k)) /\ Hid (Below wa.heap.size wa wx))
  case atStart => exact ⟨0, ⟨#[]⟩, rfl, rfl, Nat.zero_le _, rfl, by rw [List.take_zero]; rfl, HB0.out⟩
  case round =>
   obtain ⟨k, S, rfl, rfl, hk, rfl, hS, hB⟩ := hrel
   clear HB0
   have hSz : S.size <= 30000 := by
    rw [<- bs_length, hS.out]
    have h1 := spell_len (L := L) k
    have h2 := HSl.out
    omega
   have HBw : Hid (Below w.heap.size w wr) := Bt HBa.out hB.out
   by_cases hlt : k < m
   ·obtain ⟨b1, o1, rfl, hb1, hc1⟩ := (HT1.out.below hB.out).some (by omega)
    have hkL : k < L.length := by rw [HLm.out]; exact hlt
    have hky : ky (T.getD k default) = L[k] := by
     have h1 := congrArg (fun x => x[k]?) HQ6.out
     simp only [List.getElem?_map] at h1
     rw [List.getElem?_append_left hkL, List.getElem?_eq_getElem hkL, List.getElem?_eq_getElem (by rw [HTL.out]; omega)] at h1
     rw [List.getD_eq_getElem?_getD, List.getElem?_eq_getElem (by rw [HTL.out]; omega)]
     simpa using h1
    have hf := HF.out L[k] (List.getElem_mem hkL)
    have hst := spell_take hkL
    have hdg : Dg 256 (spM (L[k]).1 (L[k]).2.1 (L[k]).2.2) := fun c hc => HSd.out c (List.mem_flatMap.2 ⟨L[k], List.getElem_mem hkL, List.mem_append_left _ hc⟩)
    rw [<- hky] at hf hst hdg
    obtain ⟨x, hx⟩ : ∃ x, T.getD k default = x := ⟨_, rfl⟩
    have a0 := hc1 k (by omega) 0 (by omega)
    have a1 := hc1 k (by omega) 1 (by omega)
    have a2 := hc1 k (by omega) 2 (by omega)
    have a3 := hc1 k (by omega) 3 (by omega)
    have a4 := hc1 k (by omega) 4 (by omega)
    rw [hx] at a0 a1 a2 a3 a4 hf hst hdg
    obtain ⟨x1, x2, x3, x4, x5⟩ := x
    simp only [ky] at hf hst hdg
    rw [HL.out] at hf
    simp only [tc, List.getElem?_cons_zero, List.getElem?_cons_succ, Nat.add_zero] at a0 a1 a2 a3 a4
    have CS := hid (lexSpell_any x1 x2 x3 x4 x5 wr (by omega) (by omega) (by omega) (HT.out.below HBw.out) (HD.out.below HBw.out) (HP.out.below HBw.out))
    obtain ⟨V, hV⟩ : ∃ V, V = bstr (spM x1 x2 x3) := ⟨_, rfl⟩
    have hVb : bs V = spM x1 x2 x3 := by rw [hV, bs_bstr hdg]
    have hVz : V.size <= 30000 := by
     rw [<- bs_length, hVb]
     have h1 := spell_len (L := L) (k + 1)
     have h2 := HSl.out
     rw [hst, List.length_append, List.length_append] at h1
     omega
    have HV : Hid (bs (S ++ V ++ (⟨#[32]⟩ : ByteArray)) = spell (L.take (k + 1))) := by
     unfold Hid
     rw [bs_append, bs_append, hS.out, hVb, hst, List.append_assoc]; rfl
    rw [<- hV] at CS
    have l1 : ¬ 9223372036854775807 < S.size + V.size := by omega
    have l2 : ¬ 9223372036854775807 < S.size + V.size + 1 := by omega
    have k0 : (0 : Int) <= (k : Int) := by omega
    have k1 : (k : Int) < (m : Int) := by omega
    have k2 : (k : Int) < (m : Int) + 1 := by omega
    clear hc1 hx hf hst hky hV hVb hVz hSz hS hdg
    go_wp2_with fail
    go_at_call 13
    with_reducible refine CS.out.mono ?_
    rintro e wb ⟨rfl, bb⟩
    have HBb := hid (Bt hB.out bb)
    clear bb CS
    go_wp2_with fail
    go_roundg (m - (k + 1))
    case measure => omega
    case rel => exact ⟨k + 1, S ++ V ++ (⟨#[32]⟩ : ByteArray), rfl, by go_num, by omega, rfl, HV.out, HBb.out⟩
   ·obtain rfl : k = m := by omega
    have k1 : ¬ (k : Int) < (k : Int) := by omega
    have hSb : bs S = spell L := by rw [hS.out, List.take_of_length_le (by rw [HLm.out]; exact Nat.le_refl _)]
    obtain ⟨c1, W1, hc1, hr1, hbl1⟩ := to_bytes wr S (spell L) hSb (by omega)
    have HB1 := hid (Bt HBw.out hbl1)
    have CT2 := hid (tokens_any _ _ _ _ W1 hr1 (HT.out.below HB1.out) (by omega))
    unfold ToksPost at CT2
    rw [HU1.out] at CT2
    have HT1b := hid (HT1.out.below (Bt hB.out hbl1))
    have hUL : U.length = k + 1 := by have := congrArg List.length HUT.out; rw [List.length_map, List.length_map, HN2.out] at this; exact this
    have HUL := hid hUL
    clear hr1 hbl1 hUL hSb hSz hS
    go_wp2_with fail
    go_at_call 9
    with_reducible refine CT2.out.mono ?_
    rintro e wb ⟨ao3, n3, cap3, rfl, T2, bb⟩
    have HT2 := hid T2
    have HT1c := hid (HT1b.out.below bb)
    have HBb := hid (Bt HB1.out bb)
    obtain rfl : n3 = k + 1 := by rw [<- T2.len]; exact HUL.out
    have t1 : (((k + 1 : Nat) : Int) == ((k + 1 : Nat) : Int)) = true := by simp
    have HB0 : Hid (Below wb.heap.size wb wb) := Below.refl _ _
    clear T2 bb CT2 HT1b hc1
    go_wp2_with fail
    go_loopg [11] (k + 1) (fun g v wx => ∃ j : Nat, v = .int .i64 j /\ j <= k + 1 /\ g = k + 1 - j /\ Hid (Below wb.heap.size wb wx))
    case atStart => exact ⟨0, rfl, Nat.zero_le _, rfl, HB0.out⟩
    case round =>
     obtain ⟨j, rfl, hj, rfl, hB2⟩ := hrel
     clear HB0
     by_cases hlt2 : j < k + 1
     ·obtain ⟨b1, o1, rfl, hb1, hc1⟩ := (HT1c.out.below hB2.out).some (by omega)
      obtain ⟨b2, o2, rfl, hb2, hc2⟩ := (HT2.out.below hB2.out).some (by omega)
      have hky := ky_get HUT.out j (by rw [HN2.out]; exact hlt2)
      obtain ⟨x, hx⟩ : ∃ x, T.getD j default = x := ⟨_, rfl⟩
      obtain ⟨y, hy⟩ : ∃ y, U.getD j default = y := ⟨_, rfl⟩
      obtain ⟨x1, x2, x3, x4, x5⟩ := x
      obtain ⟨y1, y2, y3, y4, y5⟩ := y
      have a0 := hc1 j hlt2 0 (by omega)
      have a1 := hc1 j hlt2 1 (by omega)
      have a2 := hc1 j hlt2 2 (by omega)
      have a3 := hc1 j hlt2 3 (by omega)
      have a4 := hc1 j hlt2 4 (by omega)
      have e0 := hc2 j hlt2 0 (by omega)
      have e1 := hc2 j hlt2 1 (by omega)
      have e2 := hc2 j hlt2 2 (by omega)
      have e3 := hc2 j hlt2 3 (by omega)
      have e4 := hc2 j hlt2 4 (by omega)
      rw [hx] at a0 a1 a2 a3 a4 hky
      rw [hy] at e0 e1 e2 e3 e4 hky
      simp only [ky, Prod.mk.injEq] at hky
      obtain ⟨rfl, rfl, rfl⟩ := hky
      simp only [tc, List.getElem?_cons_zero, List.getElem?_cons_succ, Nat.add_zero] at a0 a1 a2 a3 a4 e0 e1 e2 e3 e4
      have k0 : (0 : Int) <= (j : Int) := by omega
      have k1 : (j : Int) < ((k + 1 : Nat) : Int) := by omega
      have k2 : (j : Int) < (k : Int) + 1 := by omega
      have CS := hid (fun wx => tkSame_any y1 y2 y3 x4 x5 y4 y5 wx)
      have HS : Hid (wr.cell? ⟨b1, o1 + j * 5, none⟩ = some (.int .i64 y1) /\ wr.cell? ⟨b1, o1 + j * 5 + 1, none⟩ = some (.int .i64 y2) /\ wr.cell? ⟨b1, o1 + j * 5 + 2, none⟩ = some (.string y3) /\ wr.cell? ⟨b1, o1 + j * 5 + 3, none⟩ = some (.int .i64 x4) /\ wr.cell? ⟨b1, o1 + j * 5 + 4, none⟩ = some (.int .i64 x5) /\ wr.cell? ⟨b2, o2 + j * 5, none⟩ = some (.int .i64 y1) /\ wr.cell? ⟨b2, o2 + j * 5 + 1, none⟩ = some (.int .i64 y2) /\ wr.cell? ⟨b2, o2 + j * 5 + 2, none⟩ = some (.string y3) /\ wr.cell? ⟨b2, o2 + j * 5 + 3, none⟩ = some (.int .i64 y4) /\ wr.cell? ⟨b2, o2 + j * 5 + 4, none⟩ = some (.int .i64 y5) /\ Below wr.heap.size wr wr) := ⟨a0, a1, a2, a3, a4, e0, e1, e2, e3, e4, Below.refl _ _⟩
      clear hc1 hc2 hx hy a0 a1 a2 a3 a4 e0 e1 e2 e3 e4
      go_wp2_with fail
      go_region_held3 (fun wx => wx.cell? ⟨b1, o1 + j * 5, none⟩ = some (.int .i64 y1) /\ wx.cell? ⟨b1, o1 + j * 5 + 1, none⟩ = some (.int .i64 y2) /\ wx.cell? ⟨b1, o1 + j * 5 + 2, none⟩ = some (.string y3) /\ wx.cell? ⟨b1, o1 + j * 5 + 3, none⟩ = some (.int .i64 x4) /\ wx.cell? ⟨b1, o1 + j * 5 + 4, none⟩ = some (.int .i64 x5) /\ wx.cell? ⟨b2, o2 + j * 5, none⟩ = some (.int .i64 y1) /\ wx.cell? ⟨b2, o2 + j * 5 + 1, none⟩ = some (.int .i64 y2) /\ wx.cell? ⟨b2, o2 + j * 5 + 2, none⟩ = some (.string y3) /\ wx.cell? ⟨b2, o2 + j * 5 + 3, none⟩ = some (.int .i64 y4) /\ wx.cell? ⟨b2, o2 + j * 5 + 4, none⟩ = some (.int .i64 y5) /\ Below wr.heap.size wr wx)
       (first | exact twoTk_on HS.out (Bd wr 1) | exact twoTk_on (by assumption) (by assumption))
       (first | (go_at_call 17; with_reducible refine (CS.out _).mono ?_; rintro e wc ⟨rfl, bc⟩))
      rename_i hHeld
      obtain ⟨_, _, _, _, _, _, _, _, _, _, hbl⟩ := hHeld
      have HBc : Hid (Below wb.heap.size wb wc) := Bt hB2.out hbl
      clear hbl HS CS
      go_wp2_with fail
      go_roundg (k + 1 - (j + 1))
      case measure => omega
      case rel => exact ⟨j + 1, by go_num, by omega, rfl, HBc.out⟩
     ·have k1 : ¬ (j : Int) < ((k + 1 : Nat) : Int) := by omega
      have k2 : ¬ (j : Int) < (k : Int) + 1 := by omega
      have CW := hid (lawake_any wr (HT.out.below (Bt HBb.out hB2.out)))
      have HBw2 := hid (Bt HBb.out hB2.out)
      go_wp2_with (go_at_call 12; with_reducible refine CW.out.mono ?_; rintro e wd ⟨rfl, bd⟩; have HBd := hid (Bt HBw2.out bd); clear bd)
      go_ret
      exact ⟨rfl, HBd.out⟩
 ·have t0 : (ye == 0) = false := by simp; exact hye
  obtain ⟨rfl, _, _⟩ := ans_err (by rw [HL.out]; omega) HA.out hye
  clear hye
  go_enter Tryz.func5, Tryz.ntmps5
  go_wp2_with fail
  go_at_call 9
  with_reducible refine CT.out.mono ?_
  rintro e wa ⟨ao2, n2, cap2, rfl, T1, ba⟩
  have HBa := hid ba
  obtain rfl : n2 = 0 := T1.len.symm
  have CW := hid (lawake_any wa (HT.out.below ba))
  clear ba CT T1
  go_wp2_with (go_at_call 12; with_reducible refine CW.out.mono ?_; rintro e wd ⟨rfl, bd⟩; have HBd := hid (Bt HBa.out bd); clear bd)
  go_ret
  exact ⟨rfl, HBd.out⟩
end Go.Proofs.YtbkfinjajkjhaaaGreatDoor
