import Derived.Test.YtbkfinjajkjhaaaGreatDoorLX11
set_option linter.unusedVariables false
set_option linter.unusedSimpArgs false
set_option maxRecDepth 100000
namespace Go.Proofs.YtbkfinjajkjhaaaGreatDoor
open Go.RowKit
def dcN : List Nat -> Nat
 | [] => 0
 | c :: r => if digB c then dcN r + 1 else 0
theorem dcN_le : ∀ r : List Nat, dcN r <= r.length
 | [] => Nat.le_refl _
 | c :: r => by unfold dcN; split <;> simp; exact dcN_le r
theorem dcN_end {l : List Nat} {k : Nat} (h : ¬ k < l.length) : dcN (l.drop k) = 0 := by
 rw [List.drop_eq_nil_of_le (by omega)]; rfl
theorem dcN_stop {l : List Nat} {k : Nat} (h : k < l.length) (hd : digB (l.getD k 0) = false) : dcN (l.drop k) = 0 := by
 rw [dropN_cons h]; unfold dcN; rw [hd]; rfl
theorem dcN_go {l : List Nat} {k : Nat} (h : k < l.length) (hd : digB (l.getD k 0) = true) : dcN (l.drop k) = dcN (l.drop (k + 1)) + 1 := by
 rw [dropN_cons h]; conv => lhs; unfold dcN
 rw [hd]; rfl
def dvF (l : List Nat) (n : Nat) : Nat := l.foldl (fun a c => 10 * a + (c - 48)) n
theorem dgA_is : ∀ (f : Nat) (r : List Nat) (n k : Nat), dgA f r n k = (dvF (r.take (min f (dcN r))) n, k + min f (dcN r))
 | 0, r, n, k => by simp [dgA, dvF]
 | f + 1, [], n, k => by simp [dgA, dcN, dvF]
 | f + 1, c :: r, n, k => by
  unfold dgA
  by_cases hd : digB c = true
  ·have hd2 := hd
   unfold digB at hd2
   rw [Bool.and_eq_true, decide_eq_true_eq, decide_eq_true_eq] at hd2
   have e : dcN (c :: r) = dcN r + 1 := by show (if digB c = true then dcN r + 1 else 0) = dcN r + 1; rw [if_pos hd]
   rw [if_pos ⟨by simp, by simpa using hd2.1, by simpa using hd2.2⟩, e, show min (f + 1) (dcN r + 1) = min f (dcN r) + 1 by omega]
   have ih := dgA_is f r (10 * n + (c - 48)) (k + 1)
   simp only [List.getD_cons_zero, List.drop_succ_cons, List.drop_zero, List.take_succ_cons]
   rw [ih]
   show _ = (dvF (r.take (min f (dcN r))) (10 * n + (c - 48)), _)
   congr 1; omega
  ·have e : dcN (c :: r) = 0 := by unfold dcN; rw [if_neg hd]
   rw [if_neg, e]
   ·simp [dvF]
   ·rintro ⟨_, h1, h2⟩
    apply hd
    unfold digB
    simp at h1 h2
    simp [h1, h2]
theorem digs_all : ∀ (l : List Nat), (∀ c ∈ l.take (dcN l), 48 <= c /\ c <= 57)
 | [], c, h => by simp [dcN] at h
 | x :: l, c, h => by
  unfold dcN at h
  by_cases hd : digB x = true
  ·rw [if_pos hd, List.take_succ_cons] at h
   rcases List.mem_cons.1 h with rfl | h
   ·unfold digB at hd; simpa using hd
   ·exact digs_all l c h
  ·rw [if_neg hd] at h; simp at h
theorem dec_from : ∀ (D : List Nat) (a : Nat), (∀ c ∈ D, 48 <= c /\ c <= 57) -> Lib.decFrom a (D.map UInt8.ofNat) = some (dvF D a)
 | [], a, _ => rfl
 | c :: D, a, h => by
  have hc := h c (.head _)
  have e : (UInt8.ofNat c).toNat = c := by rw [UInt8.toNat_ofNat']; omega
  have hv : Lib.digitVal (UInt8.ofNat c) = some (c - 48) := by unfold Lib.digitVal; rw [e, if_pos hc]
  show (match Lib.digitVal (UInt8.ofNat c) with | some d => Lib.decFrom (a * 10 + d) (D.map UInt8.ofNat) | none => none) = _
  rw [hv]
  show Lib.decFrom (a * 10 + (c - 48)) (D.map UInt8.ofNat) = _
  rw [dec_from D _ (fun x hx => h x (.tail _ hx)), Nat.mul_comm]
  rfl
theorem atoi_digs {D : List Nat} (h : ∀ c ∈ D, 48 <= c /\ c <= 57) (hne : D ≠ []) : Lib.atoi (bstr D).data.toList = some (dvF D 0 : Nat) := by
 have e : (bstr D).data.toList = D.map UInt8.ofNat := by simp [bstr]
 rw [e]
 match D, hne with
 | c :: D, _ =>
  have hc := h c (.head _)
  have e2 : (UInt8.ofNat c).toNat = c := by rw [UInt8.toNat_ofNat']; omega
  have k : ∀ x : Nat, x < 48 -> (UInt8.ofNat c == UInt8.ofNat x) = false := fun x hx => by
   rw [beq_eq_false_iff_ne]; intro e3
   have := congrArg UInt8.toNat e3
   rw [e2, UInt8.toNat_ofNat'] at this
   omega
  show (if UInt8.ofNat c == 45 then _ else if UInt8.ofNat c == 43 then _ else (Lib.decNat (UInt8.ofNat c :: D.map UInt8.ofNat)).map fun (m : Nat) => (m : Int)) = _
  rw [if_neg (by rw [show (45 : UInt8) = UInt8.ofNat 45 from rfl, k 45 (by omega)]; simp), if_neg (by rw [show (43 : UInt8) = UInt8.ofNat 43 from rfl, k 43 (by omega)]; simp)]
  unfold Lib.decNat
  rw [show (UInt8.ofNat c :: D.map UInt8.ofNat) = (c :: D).map UInt8.ofNat from rfl, dec_from _ _ h]
  rfl
theorem atoi_any (D : List Nat) (w : World) (h : ∀ c ∈ D, 48 <= c /\ c <= 57) (hne : D ≠ []) (hl : D.length <= 18) : Calls Tryz.prog 102 #[.string (bstr D)] w fun e w' => e = .returned (.tuple #[.int .i64 (dvF D 0 : Nat), .nilIface]) /\ Below w.heap.size w w' :=
 (Any.strconv_Atoi Tryz.lays172 (bstr D) (dvF D 0 : Nat) (by rw [bstr_size]; exact hl) (atoi_digs h hne) w).mono fun e w' ⟨h1, t, h2⟩ => ⟨h1, by rw [h2]; exact Go.Joins.below_bytesWorld _ _ _ _ (Nat.le_refl _)⟩
theorem labM_is (l : List Nat) (c : Nat) (hc : c = dcN (l.drop 1)) (h0 : 1 <= c) : labM l = if c + 1 = l.length \/ 9 < c then none else if l.getD (c + 1) 0 = 61 then some (8, dvF ((l.drop 1).take c) 0, c + 2) else if l.getD (c + 1) 0 = 35 then some (9, dvF ((l.drop 1).take c) 0, c + 2) else none := by
 have hcl := dcN_le (l.drop 1)
 rw [<- hc, List.length_drop] at hcl
 have key : ∀ v m : Nat, labF l (v, m) = if m = 0 \/ l.length <= m + 1 then none else if l.getD (m + 1) 0 = 61 then some (8, v, m + 2) else if l.getD (m + 1) 0 = 35 then some (9, v, m + 2) else none := fun _ _ => rfl
 unfold labM
 rw [dgA_is, <- hc, Nat.zero_add, key]
 by_cases h9 : 9 < c
 ·have hd : 48 <= l.getD 10 0 /\ l.getD 10 0 <= 57 := by
   apply digs_all (l.drop 1)
   rw [<- hc, List.mem_take_iff_getElem]
   refine ⟨9, by rw [List.length_drop]; omega, ?_⟩
   rw [List.getElem_drop, List.getD_eq_getElem?_getD, List.getElem?_eq_getElem (by omega)]
   rfl
  rw [show min 9 c = 9 by omega, if_neg (show ¬ (9 = 0 \/ l.length <= 9 + 1) by omega), if_neg (show ¬ l.getD (9 + 1) 0 = 61 by show ¬ l.getD 10 0 = 61; omega), if_neg (show ¬ l.getD (9 + 1) 0 = 35 by show ¬ l.getD 10 0 = 35; omega), if_pos (.inr h9)]
 ·rw [show min 9 c = c by omega]
  by_cases he : c + 1 = l.length
  ·rw [if_pos (show c = 0 \/ l.length <= c + 1 by omega), if_pos (.inl he)]
  ·rw [if_neg (show ¬ (c = 0 \/ l.length <= c + 1) by omega), if_neg (show ¬ (c + 1 = l.length \/ 9 < c) by omega)]
def labT (x : Nat × Nat × Nat) : Tkn := ((x.1 : Nat), (x.2.1 : Nat), ⟨#[]⟩, x.2.2)
set_option maxHeartbeats 8000000 in
theorem cutLabel_any (ao : Option Addr) (n cap : Nat) (l : List Nat) (w : World) (R : BRow w ao n cap l) (hn : 2 <= n) (hd1 : digB (l.getD 1 0) = true) : Calls Tryz.prog 84 #[.slice ao n cap] w (PTok w ((labM l).map labT)) := by
 have HB0 : Hid (Below w.heap.size w (w.alloc (.cells #[.int .i64 0, .int .i64 0, .string ⟨#[]⟩, .int .i64 0, .int .i64 0] 31))) := Ba w _
 have RA := R.below HB0.out
 have HLn := hid R.len
 obtain ⟨c, hc⟩ : ∃ c, c = dcN (l.drop 1) := ⟨_, rfl⟩
 have hc1 : 1 <= c := by rw [hc, dcN_go (by rw [HLn.out]; omega) hd1]; omega
 have hcl := dcN_le (l.drop 1)
 rw [<- hc, List.length_drop, HLn.out] at hcl
 obtain ⟨A, hA⟩ : ∃ A, A = (labM l).map labT := ⟨_, rfl⟩
 rw [<- hA]
 have HA : Hid (A = (labM l).map labT) := hA
 have HM := hid (labM_is l c hc hc1)
 have HDG : Hid (∀ x ∈ (l.drop 1).take c, 48 <= x /\ x <= 57) := by rw [hc]; exact digs_all (l.drop 1)
 have HDL : Hid (((l.drop 1).take c).length = c) := by unfold Hid; rw [List.length_take, List.length_drop, HLn.out]; omega
 have HC0 : Hid (c = (1 - 1) + dcN (l.drop 1)) := by unfold Hid; omega
 have hcap := R.fits
 have hrm := R.most
 unfold maxLen at hrm
 have HRA := hid RA
 clear hA hc R RA hd1
 obtain ⟨W0, hW0⟩ : ∃ W, W = w.alloc (.cells #[.int .i64 0, .int .i64 0, .string ⟨#[]⟩, .int .i64 0, .int .i64 0] 31) := ⟨_, rfl⟩
 have HX : Hid (∀ W, Below W0.heap.size W0 W -> TxW w W) := fun W h => by rw [hW0] at h; exact ⟨(TkBox.new w).on h, HB0.out.trans (h.mono (Ba w _).size)⟩
 have HW0 := hid hW0
 rw [<- hW0] at HRA
 clear HB0 hW0
 go_enter Tryz.func84, Tryz.ntmps84
 go_upto_block 0 with fail
 rw [<- HW0.out]
 go_cut [4] (fun v wx => ∃ k : Nat, v = .int .i64 k /\ k = c + 1 /\ wx = W0)
 case first =>
  go_wp2_with fail
  go_loopg [4] (n - 1) (fun g v wx => ∃ k : Nat, v = .int .i64 k /\ 1 <= k /\ k <= n /\ g = n - k /\ wx = W0 /\ Hid (c = (k - 1) + dcN (l.drop k)))
  case atStart => exact ⟨1, rfl, Nat.le_refl _, by omega, rfl, rfl, HC0.out⟩
  case round =>
   obtain ⟨k, rfl, hk1, hk2, rfl, rfl, hI⟩ := hrel
   clear HC0
   by_cases hlt : k < n
   ·obtain ⟨b, o, rfl, hb, hcc⟩ := HRA.out.rd.some (by rw [HLn.out]; omega)
    have hcell := hcc k (by rw [HLn.out]; exact hlt)
    obtain ⟨x, hx⟩ : ∃ x, x = l.getD k 0 := ⟨_, rfl⟩
    rw [<- hx] at hcell
    have k0 : (0 : Int) <= (k : Int) := by omega
    have k1 : (k : Int) < (n : Int) := by omega
    have CD := hid (fun W => isDigit_any x W)
    obtain ⟨d, hd⟩ : ∃ d, d = digB x := ⟨_, rfl⟩
    rw [<- hd] at CD
    clear hcc
    cases d
    ·have e1 : k = c + 1 := by rw [hI.out, dcN_stop (by rw [HLn.out]; exact hlt) (by rw [<- hx]; exact hd.symm)]; omega
     have HE := hid e1
     clear hI hd hx e1
     go_wp2_with (go_at_call 83; with_reducible refine (CD.out _).mono ?_; rintro e wb ⟨rfl, rfl⟩)
     go_meet
     case rel => exact ⟨k, rfl, HE.out, rfl⟩
    ·have e1 : Hid (c = (k + 1 - 1) + dcN (l.drop (k + 1))) := by
      unfold Hid
      have := hI.out
      rw [dcN_go (by rw [HLn.out]; exact hlt) (by rw [<- hx]; exact hd.symm)] at this
      omega
     clear hI hd hx
     go_wp2_with (go_at_call 83; with_reducible refine (CD.out _).mono ?_; rintro e wb ⟨rfl, rfl⟩)
     go_roundg (n - (k + 1))
     case measure => omega
     case rel => exact ⟨k + 1, by go_num, by omega, by omega, rfl, rfl, e1.out⟩
   ·have e1 : k = c + 1 := by rw [hI.out, dcN_end (by rw [HLn.out]; exact hlt)]; omega
    have HE := hid e1
    have k1 : ¬ (k : Int) < (n : Int) := by omega
    clear hI e1
    go_wp2_with fail
    go_meet
    case rel => exact ⟨k, rfl, HE.out, rfl⟩
 case rest =>
  obtain ⟨k, rfl, hk, rfl⟩ := hcut
  have HXr := hid HX.out
  clear HX HC0
  have hTx := HXr.out wc (Below.refl _ _)
  obtain ⟨⟨z0, z1, z2, z3, z4⟩, g0, g1, g2, g3, g4⟩ := hTx.1.facts
  have HB := hid hTx.2
  have hkn : k <= n := by omega
  by_cases hke : k = n
  ·have HA2 : Hid (A = none) := by unfold Hid; rw [HA.out, HM.out, if_pos (.inl (by rw [HLn.out]; omega))]; rfl
   have t1 : ((k : Int) == (n : Int)) = true := by simp; omega
   clear hke hk hTx
   go_wp2_with fail
   rw [HA2.out]
   exact bodyPost_ret (v := .tuple #[tkV 0 0 ⟨#[]⟩ 0 0, .int .i64 0]) (by simp [results, Tryz.results84, go_sem, tkV, z0, z1, z2, z3, z4]) rfl (PTok.no (below_set5 HB.out (Nat.le_refl _) _ _ _ _ _))
  ·have t1 : ((k : Int) == (n : Int)) = false := by simp; omega
   by_cases h9 : 9 < c
   ·have HA2 : Hid (A = none) := by unfold Hid; rw [HA.out, HM.out, if_pos (.inr h9)]; rfl
    have t2 : (9 : Int) < (k : Int) - 1 := by omega
    clear hke hk hTx h9
    go_wp2_with fail
    rw [HA2.out]
    exact bodyPost_ret (v := .tuple #[tkV 0 0 ⟨#[]⟩ 0 0, .int .i64 0]) (by simp [results, Tryz.results84, go_sem, tkV, z0, z1, z2, z3, z4]) rfl (PTok.no (below_set5 HB.out (Nat.le_refl _) _ _ _ _ _))
   ·have t2 : ¬ (9 : Int) < (k : Int) - 1 := by omega
    have HM2 := hid (HA.out.trans (congrArg (Option.map labT) (HM.out.trans (if_neg (by rw [HLn.out]; omega)))))
    obtain ⟨b, o, rfl, hb, hcc⟩ := HRA.out.rd.some (by rw [HLn.out]; omega)
    have hcell0 := hcc k (by rw [HLn.out]; omega)
    obtain ⟨x, hx⟩ : ∃ x, x = l.getD k 0 := ⟨_, rfl⟩
    rw [<- hx] at hcell0
    have HCELL : Hid (∀ W, Below wc.heap.size wc W -> W.cell? ⟨b, o + k, none⟩ = some (.int .u8 (x : Int))) := fun W h => (h.cell (p := ⟨b, o + k, none⟩) hb).trans hcell0
    have hsl := fun W => slice_part (w := W) (ao := some ⟨b, o, none⟩) (n := n) (cap := cap) (k := 1) (m := k) (by omega) (by omega)
    have hsl2 := fun W => sliceAt_part (w := W) (ao := some ⟨b, o, none⟩) (n := n) (cap := cap) (k := 1) (m := k) (by omega) (by omega)
    have hcv := conv_any (HRA.out.part (k := 1) (m := k) (by omega) (by omega))
    have CA := hid (atoi_any ((l.drop 1).take c) wc HDG.out (fun e => by have := HDL.out; rw [e] at this; simp at this; omega) (by rw [HDL.out]; omega))
    rw [show k - 1 = c by omega] at hcv hsl hsl2
    obtain ⟨ax, hax⟩ : ∃ a, a = adv (some ⟨b, o, none⟩) cap 1 := ⟨_, rfl⟩
    rw [<- hax] at hcv hsl hsl2
    have HX2 : Hid (A = (if x = 61 then some (8, dvF ((l.drop 1).take c) 0, c + 2) else if x = 35 then some (9, dvF ((l.drop 1).take c) 0, c + 2) else none).map labT) := by
     unfold Hid; rw [HM2.out, hx, hk]
    obtain ⟨D, hD⟩ : ∃ D, D = bstr ((l.drop 1).take c) := ⟨_, rfl⟩
    obtain ⟨v, hv⟩ : ∃ v, v = dvF ((l.drop 1).take c) 0 := ⟨_, rfl⟩
    rw [<- hv] at HX2 CA
    rw [<- hD] at hcv CA
    have hsl3 : ∀ W, (Instr.slice 22 (.slice (some ⟨b, o, none⟩) n cap) (some (.int .i64 1)) (some (.int .i64 (k : Int))) none).run Tryz.prog W = .ok (.slice ax c (cap - 1)) W := hsl
    have hsl4 : ∀ W, (Instr.sliceAt 22 (.slice (some ⟨b, o, none⟩) n cap) (some (.int .i64 1)) (some (.int .i64 (k : Int))) none).run Tryz.prog W = .ok (.slice ax c (cap - 1)) W := hsl2
    have HK2 : Hid ((k : Int) + 1 = ((c + 2 : Nat) : Int)) := by unfold Hid; omega
    have k0 : (0 : Int) <= (k : Int) := by omega
    have k1 : (k : Int) < (n : Int) := by omega
    clear hke h9 hTx z0 z1 z2 z3 z4 g0 g1 g2 g3 g4 HB hcc hcell0 hx hax hD hv hsl hsl2 HM HM2 HA hk
    go_wp2_with fail
    go_at_call 102
    with_reducible refine CA.out.mono ?_
    rintro e W2 ⟨rfl, b2⟩
    have HT2 := hid (HXr.out W2 b2)
    have hcell := HCELL.out W2 b2
    obtain ⟨⟨c0, c1, c2, c3, c4⟩, f0, f1, f2, f3, f4⟩ := HT2.out.1.facts
    clear b2 hcv
    by_cases h61 : x = 61
    ·have t3 : ((x : Int) == 61) = true := by simp; omega
     have HA2 : Hid (A = some (8, (v : Int), ⟨#[]⟩, c + 2)) := by unfold Hid; rw [HX2.out, if_pos h61]; rfl
     clear h61 HX2
     go_wp2_with fail
     rw [HA2.out]
     exact bodyPost_ret (v := .tuple #[tkV 8 v ⟨#[]⟩ 0 0, .int .i64 ((k : Int) + 1)]) (by simp [results, Tryz.results84, go_sem, tkV, c0, c1, c2, c3, c4]) rfl (PTok.yes HK2.out (below_set5 HT2.out.2 (Nat.le_refl _) _ _ _ _ _))
    ·have t3 : ((x : Int) == 61) = false := by simp; omega
     by_cases h35 : x = 35
     ·have t4 : ((x : Int) == 35) = true := by simp; omega
      have HA2 : Hid (A = some (9, (v : Int), ⟨#[]⟩, c + 2)) := by unfold Hid; rw [HX2.out, if_neg h61, if_pos h35]; rfl
      clear h61 h35 HX2
      go_wp2_with fail
      rw [HA2.out]
      exact bodyPost_ret (v := .tuple #[tkV 9 v ⟨#[]⟩ 0 0, .int .i64 ((k : Int) + 1)]) (by simp [results, Tryz.results84, go_sem, tkV, c0, c1, c2, c3, c4]) rfl (PTok.yes HK2.out (below_set5 HT2.out.2 (Nat.le_refl _) _ _ _ _ _))
     ·have t4 : ((x : Int) == 35) = false := by simp; omega
      have HA2 : Hid (A = none) := by unfold Hid; rw [HX2.out, if_neg h61, if_neg h35]; rfl
      clear h61 h35 HX2
      go_wp2_with fail
      rw [HA2.out]
      exact bodyPost_ret (v := .tuple #[tkV 0 0 ⟨#[]⟩ 0 0, .int .i64 0]) (by simp [results, Tryz.results84, go_sem, tkV, c0, c1, c2, c3, c4]) rfl (PTok.no (below_set5 HT2.out.2 (Nat.le_refl _) _ _ _ _ _))
end Go.Proofs.YtbkfinjajkjhaaaGreatDoor
