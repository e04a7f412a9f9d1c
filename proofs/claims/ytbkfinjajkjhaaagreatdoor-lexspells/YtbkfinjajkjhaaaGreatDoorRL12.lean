import Derived.Test.YtbkfinjajkjhaaaGreatDoorRL10
set_option linter.unusedVariables false
set_option linter.unusedSimpArgs false
set_option maxRecDepth 100000
namespace Go.Proofs.YtbkfinjajkjhaaaGreatDoor
open Go.RowKit
theorem sgn_both {a b : Bool} {v u : Nat} (h : sgn a v = sgn b u) : v = u /\ (v = 0 \/ a = b) := by
 unfold sgn at h
 cases a <;> cases b <;> simp only [if_true, Bool.false_eq_true, if_false] at h
 ·exact ⟨by omega, .inr rfl⟩
 ·exact ⟨by omega, .inl (by omega)⟩
 ·exact ⟨by omega, .inl (by omega)⟩
 ·exact ⟨by omega, .inr rfl⟩
theorem radL_sgn {a b : Bool} {v u c : Nat} (h : sgn a v = sgn b u) : radL c a v = radL c b u := by
 obtain ⟨rfl, h | rfl⟩ := sgn_both h
 ·unfold radL; rw [if_pos h, if_pos h]
 ·rfl
theorem rdec_is (x : Value) (z : Int) (w : World) (h : IsInt w x z) : Calls Tryz.prog 31 #[x, .int .i64 10] w fun e w' => ∃ t : ByteArray, e = .returned (.tuple #[.string t, .int .i64 0]) /\ (∀ a v, z = sgn a v -> t = bstr (radL 10 a v)) /\ Below w.heap.size w w' := by
 obtain ⟨s, ao, n, cap, l, rfl, R, g, rfl⟩ := h.open_
 refine (rprint_all s ao n cap l 10 w R (by rw [<- R.len]; exact goodB_len g)).mono ?_
 rintro e w' ⟨t, en, rfl, hp, hb⟩
 obtain ⟨rfl, rfl⟩ := printed_rad (b := 10) (by omega) hp
 exact ⟨_, rfl, fun a v hz => by rw [radL_sgn hz], hb⟩
theorem all_go {f : Nat -> Bool} {l : List Nat} {k : Nat} (h : k < l.length) (hd : f (l.getD k 0) = true) : (l.drop k).all f = (l.drop (k + 1)).all f := by
 rw [dropN_cons h, List.all_cons, hd, Bool.true_and]
theorem all_stop {f : Nat -> Bool} {l : List Nat} {k : Nat} (h : k < l.length) (hd : f (l.getD k 0) = false) : (l.drop k).all f = false := by
 rw [dropN_cons h, List.all_cons, hd, Bool.false_and]
set_option maxHeartbeats 16000000 in
theorem rother_any (s : ByteArray) (p : Nat) (w : World) (hs : s.size <= 5000) (hp : p <= s.size) : Calls Tryz.prog 44 #[.string s, .int .i64 p] w (RTok w p (otherM ((bs s).drop p))) := by
 have hl := bs_length s
 obtain ⟨X, hX⟩ : ∃ X, X = otherM ((bs s).drop p) := ⟨_, rfl⟩
 rw [<- hX]
 obtain ⟨n, hn⟩ : ∃ n, n = wordN ((bs s).drop p) := ⟨_, rfl⟩
 have hnl := wordN_le ((bs s).drop p)
 rw [<- hn, List.length_drop, hl] at hnl
 have CW := hid (fun wx => rword_any s p wx (by omega) hp)
 rw [<- hn] at CW
 obtain ⟨t, ht⟩ : ∃ t, t = s.extract p (p + n) := ⟨_, rfl⟩
 have hbt : bs t = ((bs s).drop p).take n := by rw [ht, bs_ext_at, show p + n - p = n by omega]
 have hts : t.size <= 5000 := by rw [ht, ByteArray.size_extract]; omega
 unfold otherM at hX
 rw [<- hn, <- hbt] at hX
 have HX := hid hX
 clear hX hn hbt
 have p0 : (0 : Int) <= (p : Int) := by omega
 have p1 : (p : Int) <= ((p + n : Nat) : Int) := by omega
 have p2 : ((p + n : Nat) : Int) <= (s.size : Int) := by omega
 have hex : s.extract p (p + n) = t := ht.symm
 obtain ⟨E, hE⟩ : ∃ E, E = p + n := ⟨_, rfl⟩
 rw [<- hE] at CW p1 p2 hex
 have HE := hid hE
 clear ht hl hE
 by_cases h1 : bs t = [46]
 ·have f1 : (t.toList == [46]) = true := by rw [test_str]; exact decide_eq_true h1
  have HX1 : Hid (X = some (6, 0, ⟨#[]⟩, n)) := HX.out.trans (if_pos h1)
  clear h1 HX
  go_enter Tryz.func44, Tryz.ntmps44
  go_wp2_with (go_at_call 68; with_reducible refine (CW.out _).mono ?_; rintro e wa ⟨rfl, rfl⟩)
  rw [HX1.out]
  exact bodyPost_ret (v := .tuple #[tkV 6 0 ⟨#[]⟩ p E, .bool true]) (by simp [results, Tryz.results44, go_sem, tkV]) rfl (RTok.yes (by rw [HE.out]) (Ba w _))
 have f1 : (t.toList == [46]) = false := by rw [test_str]; exact decide_eq_false h1
 have HX1 := hid (HX.out.trans (if_neg h1))
 have CH := hid (fun wx => rwholeT_any t wx (by omega))
 clear h1 HX
 by_cases h2 : digitsB 10 (cutS (bs t)).2 = true
 ·rw [h2] at CH
  have HX2 := hid (HX1.out.trans (if_pos h2))
  have CP := hid (fun wx => rparse_any t 10 wx hts)
  have H2 := hid h2
  clear HX1 h2
  go_enter Tryz.func44, Tryz.ntmps44
  go_wp2_with (first
   | (go_at_call 68; with_reducible refine (CW.out _).mono ?_; rintro e wa ⟨rfl, rfl⟩)
   | (go_at_call 69; with_reducible refine (CH.out _).mono ?_; rintro e wa ⟨rfl, rfl⟩))
  go_at_call 70
  with_reducible refine (CP.out _).mono ?_
  intro e W1 hP
  obtain ⟨sx, ao, m, cap, en, z, rfl, b1, hI, hC⟩ := ppost_is hP (by decide)
  have HB1 := hid b1
  have HC : Hid ((B32 ^ 40 <= hv 10 (cutS (bs t)).2 /\ en = 10) \/ (¬ B32 ^ 40 <= hv 10 (cutS (bs t)).2 /\ en = 0 /\ z = sgn (cutS (bs t)).1 (hv 10 (cutS (bs t)).2))) := by
   rcases hC with ⟨h, _⟩ | ⟨_, h, h'⟩ | ⟨_, h, h', h''⟩
   ·rw [H2.out] at h; cases h
   ·exact .inl ⟨h, h'⟩
   ·exact .inr ⟨h, h', h''⟩
  have CT := hid (rdec_is _ z (W1.alloc (.cells #[.bool sx, .slice ao m cap] 55)) (hI.below (Ba _ _)))
  clear hP b1 hI hC H2
  go_wp2_with fail
  go_at_call 31
  with_reducible refine CT.out.mono ?_
  rintro e W2 ⟨d, rfl, hd, b2⟩
  have HX := hid ((((TkBox.new w).on HB1.out).on (Ba W1 (.cells #[.bool sx, .slice ao m cap] 55))).on b2)
  have HB2 : Hid (Below w.heap.size w W2) := Bt (Bt (Bt (Ba w _) HB1.out) (Ba W1 (.cells #[.bool sx, .slice ao m cap] 55))) b2
  obtain ⟨⟨c0, c1, c2, c3, c4⟩, f0, f1', f2, f3, f4⟩ := HX.out.facts
  have HD := hid hd
  clear b2 hd CT CP HB1
  rcases HC.out with ⟨hbig, rfl⟩ | ⟨hbig, rfl, hz⟩
  ·have HX3 := hid (HX2.out.trans (if_pos hbig))
   clear hbig HX2 HC
   go_wp2_with fail
   rw [HX3.out]
   exact bodyPost_ret (v := .tuple #[tkV 11 0 d p E, .bool false]) (by simp [results, Tryz.results44, go_sem, tkV, c0, c1, c2, c3, c4]) rfl (RTok.no (below_set5 HB2.out (Nat.le_refl _) _ _ _ _ _))
  ·have HX3 := hid (HX2.out.trans (if_neg hbig))
   have HD2 := hid (HD.out _ _ hz)
   clear hbig HX2 HC hz HD
   go_wp2_with fail
   rw [HX3.out, <- HD2.out]
   exact bodyPost_ret (v := .tuple #[tkV 11 0 d p E, .bool true]) (by simp [results, Tryz.results44, go_sem, tkV, c0, c1, c2, c3, c4]) rfl (RTok.yes (by rw [HE.out]) (below_set5 HB2.out (Nat.le_refl _) _ _ _ _ _))
 have h2' : digitsB 10 (cutS (bs t)).2 = false := by simpa using h2
 rw [h2'] at CH
 have HX2 := hid (HX1.out.trans (if_neg h2))
 clear HX1 h2 h2'
 have CM := hid (fun (c : Nat) (hc : c < 256) wx => rmay_any c hc wx)
 have HL : Hid ((bs t).length = t.size) := bs_length t
 have HZ : Hid (t.toList.isEmpty = decide (bs t = [])) := by
  unfold Hid; rw [show t.toList.isEmpty = (t.toList == []) by cases t.toList <;> rfl, test_str]; rfl
 have H0 : Hid (TxW w (w.alloc (.cells #[.int .i64 0, .int .i64 0, .string ⟨#[]⟩, .int .i64 0, .int .i64 0] 31))) := ⟨TkBox.new w, Ba w _⟩
 obtain ⟨A, hA⟩ : ∃ A, A = (bs t).all mayB := ⟨_, rfl⟩
 rw [<- hA] at HX2
 have HA : Hid (A = ((bs t).drop 0).all mayB) := hA
 clear hA
 go_enter Tryz.func44, Tryz.ntmps44
 go_wp2_with (first
  | (go_at_call 68; with_reducible refine (CW.out _).mono ?_; rintro e wa ⟨rfl, rfl⟩)
  | (go_at_call 69; with_reducible refine (CH.out _).mono ?_; rintro e wa ⟨rfl, rfl⟩))
 go_loopg [12] t.size (fun g v wr => ∃ j : Nat, v = .int .i64 j /\ j <= t.size /\ g = t.size - j /\ Hid (A = ((bs t).drop j).all mayB) /\ Hid (TxW w wr))
 case atStart => exact ⟨0, rfl, Nat.zero_le _, rfl, HA.out, H0.out⟩
 case round =>
  obtain ⟨j, rfl, hj, rfl, hI, hW⟩ := hrel
  clear HA H0
  by_cases hlt : j < t.size
  ·have hbj := bs_get t j hlt
   have j0 : (0 : Int) <= (j : Int) := by omega
   have j1 : (j : Int) < (t.size : Int) := by omega
   have C9 := hid (fun wx => CM.out (t[j]'hlt).toNat (UInt8.toNat_lt _) wx)
   obtain ⟨b, hb⟩ : ∃ b, b = mayB (t[j]'hlt).toNat := ⟨_, rfl⟩
   rw [<- hb] at C9
   cases b
   ·have e1 : Hid (A = false) := by unfold Hid; rw [hI.out, all_stop (by rw [HL.out]; exact hlt) (by rw [hbj]; exact hb.symm)]
    have HX3 : Hid (X = none) := HX2.out.trans (by rw [e1.out]; rfl)
    clear hI hbj hb HX2 HZ
    go_wp2_with fail
    go_at_call 71
    with_reducible refine (C9.out _).mono ?_
    rintro e wa ⟨rfl, ba⟩
    have HW2 := hid (hW.out.on ba)
    obtain ⟨⟨c0, c1, c2, c3, c4⟩, f0, f1', f2, f3, f4⟩ := HW2.out.1.facts
    clear ba
    go_wp2_with fail
    rw [HX3.out]
    exact bodyPost_ret (v := .tuple #[tkV 0 0 ⟨#[]⟩ 0 0, .bool false]) (by simp [results, Tryz.results44, go_sem, tkV, c0, c1, c2, c3, c4]) rfl (RTok.no (below_set5 HW2.out.2 (Nat.le_refl _) _ _ _ _ _))
   ·have e1 : Hid (A = ((bs t).drop (j + 1)).all mayB) := by unfold Hid; rw [hI.out, all_go (by rw [HL.out]; exact hlt) (by rw [hbj]; exact hb.symm)]
    clear hI hbj hb HZ
    go_wp2_with (go_at_call 71; with_reducible refine (C9.out _).mono ?_; rintro e wa ⟨rfl, ba⟩; have HW2 := hid (hW.out.on ba); clear ba)
    go_roundg (t.size - (j + 1))
    case measure => omega
    case rel => exact ⟨j + 1, by go_num, by omega, rfl, e1.out, HW2.out⟩
  ·obtain rfl : j = t.size := by omega
   have e1 : Hid (A = true) := by unfold Hid; rw [hI.out, List.drop_eq_nil_of_le (by rw [HL.out]; exact Nat.le_refl _)]; rfl
   obtain ⟨⟨c0, c1, c2, c3, c4⟩, f0, f1', f2, f3, f4⟩ := hW.out.1.facts
   have hz := HZ.out
   by_cases hn : bs t = []
   ·rw [decide_eq_true hn] at hz
    have HX3 : Hid (X = none) := HX2.out.trans (by rw [e1.out, hn]; rfl)
    clear hI HX2 e1 HZ hn
    go_wp2_with fail
    rw [HX3.out]
    exact bodyPost_ret (v := .tuple #[tkV 14 0 t p E, .bool false]) (by simp [results, Tryz.results44, go_sem, tkV, c0, c1, c2, c3, c4, hz]) rfl (RTok.no (below_set5 hW.out.2 (Nat.le_refl _) _ _ _ _ _))
   ·rw [decide_eq_false hn] at hz
    have HX3 : Hid (X = some (14, 0, t, n)) := HX2.out.trans (by rw [e1.out, bstr_bs, if_pos (by simp [hn])])
    clear hI HX2 e1 HZ hn
    go_wp2_with fail
    rw [HX3.out]
    exact bodyPost_ret (v := .tuple #[tkV 14 0 t p E, .bool true]) (by simp [results, Tryz.results44, go_sem, tkV, c0, c1, c2, c3, c4, hz]) rfl (RTok.yes (by rw [HE.out]) (below_set5 hW.out.2 (Nat.le_refl _) _ _ _ _ _))
theorem labM_kind {r : List Nat} {x : Nat × Nat × Nat} (h : labM r = some x) : x.1 = 8 \/ x.1 = 9 := by
 unfold labM labF at h
 split at h
 ·cases h
 ·split at h
  ·cases h; exact .inl rfl
  ·split at h
   ·cases h; exact .inr rfl
   ·cases h
set_option maxHeartbeats 16000000 in
theorem rhash_any (s : ByteArray) (p : Nat) (w : World) (hs : s.size <= 5000) (hp : p < s.size) : Calls Tryz.prog 43 #[.string s, .int .i64 p] w (RTok w p (hashM ((bs s).drop p))) := by
 have hl := bs_length s
 obtain ⟨X, hX⟩ : ∃ X, X = hashM ((bs s).drop p) := ⟨_, rfl⟩
 rw [<- hX]
 unfold hashM at hX
 have C1 : Hid (∀ wx, Calls Tryz.prog 40 #[.string s, .int .i64 p, .string ⟨#[35, 40]⟩] wx fun e w' => e = .returned (.bool (hasB ((bs s).drop p) [35, 40])) /\ w' = wx) := fun wx => rhas_any s ⟨#[35, 40]⟩ p wx (by omega) (by decide) (by omega)
 have C2 : Hid (∀ wx, Calls Tryz.prog 40 #[.string s, .int .i64 p, .string ⟨#[35, 117, 56, 40]⟩] wx fun e w' => e = .returned (.bool (hasB ((bs s).drop p) [35, 117, 56, 40])) /\ w' = wx) := fun wx => rhas_any s ⟨#[35, 117, 56, 40]⟩ p wx (by omega) (by decide) (by omega)
 have C3 : Hid (∀ wx, Calls Tryz.prog 40 #[.string s, .int .i64 p, .string ⟨#[35, 59]⟩] wx fun e w' => e = .returned (.bool (hasB ((bs s).drop p) [35, 59])) /\ w' = wx) := fun wx => rhas_any s ⟨#[35, 59]⟩ p wx (by omega) (by decide) (by omega)
 have C4 : Hid (∀ wx, Calls Tryz.prog 40 #[.string s, .int .i64 p, .string ⟨#[35, 92]⟩] wx fun e w' => e = .returned (.bool (hasB ((bs s).drop p) [35, 92])) /\ w' = wx) := fun wx => rhas_any s ⟨#[35, 92]⟩ p wx (by omega) (by decide) (by omega)
 obtain ⟨b1, h1⟩ : ∃ b, b = hasB ((bs s).drop p) [35, 40] := ⟨_, rfl⟩
 obtain ⟨b2, h2⟩ : ∃ b, b = hasB ((bs s).drop p) [35, 117, 56, 40] := ⟨_, rfl⟩
 obtain ⟨b3, h3⟩ : ∃ b, b = hasB ((bs s).drop p) [35, 59] := ⟨_, rfl⟩
 obtain ⟨b4, h4⟩ : ∃ b, b = hasB ((bs s).drop p) [35, 92] := ⟨_, rfl⟩
 rw [<- h1] at C1 hX
 rw [<- h2] at C2 hX
 rw [<- h3] at C3 hX
 rw [<- h4] at C4 hX
 have HX := hid hX
 clear h1 h2 h3 h4 hX
 cases b1
 case true =>
  have HX1 : Hid (X = some (3, 0, ⟨#[]⟩, 2)) := HX.out
  clear C2 C3 C4 HX hl
  go_enter Tryz.func43, Tryz.ntmps43
  go_wp2_with (go_at_call 40; with_reducible refine (C1.out _).mono ?_; rintro e wa ⟨rfl, rfl⟩)
  rw [HX1.out]
  exact bodyPost_ret (v := .tuple #[tkV 3 0 ⟨#[]⟩ p (p + 2), .bool true]) (by simp [results, Tryz.results43, go_sem, tkV]) rfl (RTok.yes (by show (p : Int) + 2 = _; omega) (Ba w _))
 cases b2
 case true =>
  have HX1 : Hid (X = some (4, 0, ⟨#[]⟩, 4)) := HX.out
  clear C3 C4 HX hl
  go_enter Tryz.func43, Tryz.ntmps43
  go_wp2_with (go_at_call 40; first | (with_reducible refine (C1.out _).mono ?_; rintro e wa ⟨rfl, rfl⟩) | (with_reducible refine (C2.out _).mono ?_; rintro e wa ⟨rfl, rfl⟩))
  rw [HX1.out]
  exact bodyPost_ret (v := .tuple #[tkV 4 0 ⟨#[]⟩ p (p + 4), .bool true]) (by simp [results, Tryz.results43, go_sem, tkV]) rfl (RTok.yes (by show (p : Int) + 4 = _; omega) (Ba w _))
 cases b3
 case true =>
  have HX1 : Hid (X = some (7, 0, ⟨#[]⟩, 2)) := HX.out
  clear C4 HX hl
  go_enter Tryz.func43, Tryz.ntmps43
  go_wp2_with (go_at_call 40; first | (with_reducible refine (C1.out _).mono ?_; rintro e wa ⟨rfl, rfl⟩) | (with_reducible refine (C2.out _).mono ?_; rintro e wa ⟨rfl, rfl⟩) | (with_reducible refine (C3.out _).mono ?_; rintro e wa ⟨rfl, rfl⟩))
  rw [HX1.out]
  exact bodyPost_ret (v := .tuple #[tkV 7 0 ⟨#[]⟩ p (p + 2), .bool true]) (by simp [results, Tryz.results43, go_sem, tkV]) rfl (RTok.yes (by show (p : Int) + 2 = _; omega) (Ba w _))
 cases b4
 case true =>
  have HX1 : Hid (X = (charM ((bs s).drop p)).map (fun x => ((12 : Int), ((x.1 : Nat) : Int), (⟨#[]⟩ : ByteArray), x.2))) := HX.out
  have CC := hid (fun wx => rchar_any s p wx hs (by omega))
  obtain ⟨Y, hY⟩ : ∃ Y, Y = (charM ((bs s).drop p)).map (fun x => ((12 : Int), ((x.1 : Nat) : Int), (⟨#[]⟩ : ByteArray), x.2)) := ⟨_, rfl⟩
  rw [<- hY] at CC
  have HX2 : Hid (X = Y) := HX1.out.trans hY.symm
  obtain ⟨y, hy⟩ : ∃ y, y = Y.isSome := ⟨_, rfl⟩
  have HY := hid hy
  clear HX HX1 hl hY hy
  go_enter Tryz.func43, Tryz.ntmps43
  go_wp2_with (go_at_call 40; first | (with_reducible refine (C1.out _).mono ?_; rintro e wa ⟨rfl, rfl⟩) | (with_reducible refine (C2.out _).mono ?_; rintro e wa ⟨rfl, rfl⟩) | (with_reducible refine (C3.out _).mono ?_; rintro e wa ⟨rfl, rfl⟩) | (with_reducible refine (C4.out _).mono ?_; rintro e wa ⟨rfl, rfl⟩))
  go_at_call 66
  with_reducible refine (CC.out _).mono ?_
  rintro e wa ⟨k, n, t, f, o, rfl, hy, ba⟩
  rw [<- HY.out]
  have HW : Hid (TxW w wa) := ⟨(TkBox.new w).on ba, Bt (Ba w _) ba⟩
  obtain ⟨⟨c0, c1, c2, c3, c4⟩, f0, f1', f2, f3, f4⟩ := HW.out.1.facts
  have HYY := hid hy
  clear ba hy
  unfold tkV
  go_wp2_with fail
  rw [HX2.out]
  exact bodyPost_ret (v := .tuple #[tkV k n t f o, .bool y]) (by simp [results, Tryz.results43, go_sem, tkV, c0, c1, c2, c3, c4]) rfl ⟨k, n, t, f, o, by rw [HY.out], HYY.out, below_set5 HW.out.2 (Nat.le_refl _) _ _ _ _ _⟩
 have CB := hid (fun wx => rlabel_any s p wx hs hp)
 cases hlm : labM ((bs s).drop p) with
 | some x =>
  have HX1 : Hid (X = some (((x.1 : Nat) : Int), ((x.2.1 : Nat) : Int), (⟨#[]⟩ : ByteArray), x.2.2)) := by
   have := HX.out; rw [hlm] at this; exact this
  rw [hlm] at CB
  have hk := labM_kind hlm
  have k0 : (((x.1 : Nat) : Int) != 0) = true := by rcases hk with h | h <;> rw [h] <;> rfl
  clear HX hl hlm hk
  go_enter Tryz.func43, Tryz.ntmps43
  go_wp2_with (go_at_call 40; first | (with_reducible refine (C1.out _).mono ?_; rintro e wa ⟨rfl, rfl⟩) | (with_reducible refine (C2.out _).mono ?_; rintro e wa ⟨rfl, rfl⟩) | (with_reducible refine (C3.out _).mono ?_; rintro e wa ⟨rfl, rfl⟩) | (with_reducible refine (C4.out _).mono ?_; rintro e wa ⟨rfl, rfl⟩))
  go_at_call 67
  with_reducible refine (CB.out _).mono ?_
  rintro e wa ⟨k, n, f, o, rfl, _, hy, ba⟩
  obtain ⟨rfl, rfl, ho⟩ := hy x rfl
  have HO := hid ho
  have HW : Hid (∀ ob, TxW w (wa.alloc ob)) := fun ob => ⟨((TkBox.new w).on ba).on (Ba wa ob), Bt (Bt (Ba w _) ba) (Ba wa ob)⟩
  clear ba hy ho
  unfold tkV
  have F := fun ob => (HW.out ob).1.facts
  have c0 := fun ob => (F ob).1.1
  have c1 := fun ob => (F ob).1.2.1
  have c2 := fun ob => (F ob).1.2.2.1
  have c3 := fun ob => (F ob).1.2.2.2.1
  have c4 := fun ob => (F ob).1.2.2.2.2
  have f0 := fun ob => (F ob).2.1
  have f1 := fun ob => (F ob).2.2.1
  have f2 := fun ob => (F ob).2.2.2.1
  have f3 := fun ob => (F ob).2.2.2.2.1
  have f4 := fun ob => (F ob).2.2.2.2.2
  clear F
  go_wp2_with fail
  rw [HX1.out]
  exact bodyPost_ret (v := .tuple #[tkV (x.1 : Nat) (x.2.1 : Nat) ⟨#[]⟩ f o, .bool true]) (by simp [results, Tryz.results43, go_sem, tkV, c0, c1, c2, c3, c4]) rfl (RTok.yes HO.out (below_set5 (HW.out _).2 (Nat.le_refl _) _ _ _ _ _))
 | none =>
  rw [hlm] at CB
  have HX1 : Hid (X = (truthM (((bs s).drop p).take (wordN ((bs s).drop p)))).map (fun n => ((10 : Int), n, (⟨#[]⟩ : ByteArray), wordN ((bs s).drop p)))) := by
   have := HX.out; rw [hlm] at this; exact this
  obtain ⟨m, hm⟩ : ∃ n, n = wordN ((bs s).drop p) := ⟨_, rfl⟩
  have hnl := wordN_le ((bs s).drop p)
  rw [<- hm, List.length_drop, hl] at hnl
  have CW := hid (fun wx => rword_any s p wx (by omega) (by omega))
  rw [<- hm] at CW HX1
  obtain ⟨T, hT⟩ : ∃ t, t = s.extract p (p + m) := ⟨_, rfl⟩
  have hbt : bs T = ((bs s).drop p).take m := by rw [hT, bs_ext_at, show p + m - p = m by omega]
  rw [<- hbt] at HX1
  have p0 : (0 : Int) <= (p : Int) := by omega
  have p1 : (p : Int) <= ((p + m : Nat) : Int) := by omega
  have p2 : ((p + m : Nat) : Int) <= (s.size : Int) := by omega
  have hex : s.extract p (p + m) = T := hT.symm
  obtain ⟨E, hE⟩ : ∃ E, E = p + m := ⟨_, rfl⟩
  rw [<- hE] at CW p1 p2 hex
  have HE := hid hE
  have g1 := test_str T [35, 116]
  have g2 := test_str T [35, 116, 114, 117, 101]
  have g3 := test_str T [35, 102]
  have g4 := test_str T [35, 102, 97, 108, 115, 101]
  clear hT hl hE HX hlm hm hbt
  unfold truthM at HX1
  go_enter Tryz.func43, Tryz.ntmps43
  go_wp2_with (go_at_call 40; first | (with_reducible refine (C1.out _).mono ?_; rintro e wa ⟨rfl, rfl⟩) | (with_reducible refine (C2.out _).mono ?_; rintro e wa ⟨rfl, rfl⟩) | (with_reducible refine (C3.out _).mono ?_; rintro e wa ⟨rfl, rfl⟩) | (with_reducible refine (C4.out _).mono ?_; rintro e wa ⟨rfl, rfl⟩))
  go_at_call 67
  with_reducible refine (CB.out _).mono ?_
  rintro e wa ⟨k, n, f, o, rfl, hk, _, ba⟩
  obtain rfl := hk rfl
  have HW : Hid (∀ ob, TxW w (wa.alloc ob)) := fun ob => ⟨((TkBox.new w).on ba).on (Ba wa ob), Bt (Bt (Ba w _) ba) (Ba wa ob)⟩
  clear ba hk
  unfold tkV
  have F := fun ob => (HW.out ob).1.facts
  have c0 := fun ob => (F ob).1.1
  have c1 := fun ob => (F ob).1.2.1
  have c2 := fun ob => (F ob).1.2.2.1
  have c3 := fun ob => (F ob).1.2.2.2.1
  have c4 := fun ob => (F ob).1.2.2.2.2
  have f0 := fun ob => (F ob).2.1
  have f1 := fun ob => (F ob).2.2.1
  have f2 := fun ob => (F ob).2.2.2.1
  have f3 := fun ob => (F ob).2.2.2.2.1
  have f4 := fun ob => (F ob).2.2.2.2.2
  clear F
  by_cases n0 : bs T = [35, 116]
  ·rw [show decide (bs T = List.map UInt8.toNat [35, 116]) = true from decide_eq_true n0] at g1
   have HX2 : Hid (X = some (10, 1, ⟨#[]⟩, m)) := by unfold Hid; rw [HX1.out, n0]; rfl
   clear HX1 n0 g2 g3 g4
   go_wp2_with (go_at_call 68; with_reducible refine (CW.out _).mono ?_; rintro e wb ⟨rfl, rfl⟩)
   rw [HX2.out]
   exact bodyPost_ret (v := .tuple #[tkV 10 1 ⟨#[]⟩ p E, .bool true]) (by simp [results, Tryz.results43, go_sem, tkV, c0, c1, c2, c3, c4]) rfl (RTok.yes (by rw [HE.out]) (below_set5 (HW.out _).2 (Nat.le_refl _) _ _ _ _ _))
  rw [show decide (bs T = List.map UInt8.toNat [35, 116]) = false from decide_eq_false n0] at g1
  by_cases n1 : bs T = [35, 116, 114, 117, 101]
  ·rw [show decide (bs T = List.map UInt8.toNat [35, 116, 114, 117, 101]) = true from decide_eq_true n1] at g2
   have HX2 : Hid (X = some (10, 1, ⟨#[]⟩, m)) := by unfold Hid; rw [HX1.out, n1]; rfl
   clear HX1 n1 g3 g4
   go_wp2_with (go_at_call 68; with_reducible refine (CW.out _).mono ?_; rintro e wb ⟨rfl, rfl⟩)
   rw [HX2.out]
   exact bodyPost_ret (v := .tuple #[tkV 10 1 ⟨#[]⟩ p E, .bool true]) (by simp [results, Tryz.results43, go_sem, tkV, c0, c1, c2, c3, c4]) rfl (RTok.yes (by rw [HE.out]) (below_set5 (HW.out _).2 (Nat.le_refl _) _ _ _ _ _))
  rw [show decide (bs T = List.map UInt8.toNat [35, 116, 114, 117, 101]) = false from decide_eq_false n1] at g2
  by_cases n2 : bs T = [35, 102]
  ·rw [show decide (bs T = List.map UInt8.toNat [35, 102]) = true from decide_eq_true n2] at g3
   have HX2 : Hid (X = some (10, 0, ⟨#[]⟩, m)) := by unfold Hid; rw [HX1.out, n2]; rfl
   clear HX1 n2 g4
   go_wp2_with (go_at_call 68; with_reducible refine (CW.out _).mono ?_; rintro e wb ⟨rfl, rfl⟩)
   rw [HX2.out]
   exact bodyPost_ret (v := .tuple #[tkV 10 0 ⟨#[]⟩ p E, .bool true]) (by simp [results, Tryz.results43, go_sem, tkV, c0, c1, c2, c3, c4]) rfl (RTok.yes (by rw [HE.out]) (below_set5 (HW.out _).2 (Nat.le_refl _) _ _ _ _ _))
  rw [show decide (bs T = List.map UInt8.toNat [35, 102]) = false from decide_eq_false n2] at g3
  by_cases n3 : bs T = [35, 102, 97, 108, 115, 101]
  ·rw [show decide (bs T = List.map UInt8.toNat [35, 102, 97, 108, 115, 101]) = true from decide_eq_true n3] at g4
   have HX2 : Hid (X = some (10, 0, ⟨#[]⟩, m)) := by unfold Hid; rw [HX1.out, n3]; rfl
   clear HX1 n3 
   go_wp2_with (go_at_call 68; with_reducible refine (CW.out _).mono ?_; rintro e wb ⟨rfl, rfl⟩)
   rw [HX2.out]
   exact bodyPost_ret (v := .tuple #[tkV 10 0 ⟨#[]⟩ p E, .bool true]) (by simp [results, Tryz.results43, go_sem, tkV, c0, c1, c2, c3, c4]) rfl (RTok.yes (by rw [HE.out]) (below_set5 (HW.out _).2 (Nat.le_refl _) _ _ _ _ _))
  rw [show decide (bs T = List.map UInt8.toNat [35, 102, 97, 108, 115, 101]) = false from decide_eq_false n3] at g4
  have HX2 : Hid (X = none) := by unfold Hid; rw [HX1.out, if_neg (fun h => h.elim n0 n1), if_neg (fun h => h.elim n2 n3)]; rfl
  clear HX1 n0 n1 n2 n3
  go_wp2_with (go_at_call 68; with_reducible refine (CW.out _).mono ?_; rintro e wb ⟨rfl, rfl⟩)
  rw [HX2.out]
  exact bodyPost_ret (v := .tuple #[tkV 0 0 ⟨#[]⟩ 0 0, .bool false]) (by simp [results, Tryz.results43, go_sem, tkV, c0, c1, c2, c3, c4]) rfl (RTok.no (below_set5 (HW.out _).2 (Nat.le_refl _) _ _ _ _ _))
end Go.Proofs.YtbkfinjajkjhaaaGreatDoor
