import Derived.Test.YtbkfinjajkjhaaaGreatDoorLM6
import Derived.Test.YtbkfinjajkjhaaaGreatDoorLShelfC
set_option linter.unusedVariables false
set_option linter.unusedSimpArgs false
set_option maxRecDepth 100000
namespace Go.Proofs.YtbkfinjajkjhaaaGreatDoor
open Go.RowKit
theorem decodeRune_none (b o cap : Nat) (w : World) (hT : LTabs w) : Calls Tryz.prog 100 #[.slice (some ⟨b, o, none⟩) 0 cap] w fun e w' => e = .returned (.tuple #[.int .i32 65533, .int .i64 0]) /\ Below w.heap.size w w' :=
 Any7.utf8_DecodeRune Tryz.lays7n32 ⟨#[]⟩ b o cap w hT.utf (fun j hj => absurd hj (Nat.not_lt_zero _))
theorem adv_some {b o cap k : Nat} : ∃ o', adv (some ⟨b, o, none⟩) cap k = some ⟨b, o', none⟩ := by
 unfold adv
 split
 ·exact ⟨o, rfl⟩
 ·exact ⟨o + k, by rw [Option.map_some, Addr.add_lit]⟩
theorem numH_max {t : List Nat} {n : Nat} (h : numH t = some n) : n <= 1114111 := by
 unfold numH at h
 split at h
 ·rename_i hh
  cases h
  have := hh.2.2
  unfold letB at this
  simp only [Bool.and_eq_true, decide_eq_true_eq] at this
  omega
 ·cases h
theorem letM_max {t : List Nat} {n : Nat} (h : letM t = some n) : n <= 1114111 := by
 unfold letM at h
 split at h
 ·cases h
 ·split at h
  ·cases h; exact runeL_max t
  ·repeat' split at h
   all_goals first | (exact numH_max h) | (cases h <;> decide)
def chrT (x : Nat × Nat) : Tkn := (12, (x.1 : Nat), ⟨#[]⟩, x.2)
set_option maxHeartbeats 4000000 in
theorem cutChar_any (ao : Option Addr) (n cap : Nat) (l : List Nat) (w : World) (R : BRow w ao n cap l) (hT : LTabs w) (hsm : n <= 1000000) (hn : 2 <= n) (hv : Vd (l.drop 2)) : Calls Tryz.prog 82 #[.slice ao n cap] w (PTok w ((charM l).map chrT)) := by
 have HB0 : Hid (Below w.heap.size w (w.alloc (.cells #[.int .i64 0, .int .i64 0, .string ⟨#[]⟩, .int .i64 0, .int .i64 0] 31))) := Ba w _
 have RA := (R.below HB0.out).drop (k := 2) hn
 have hsl : ∀ W, (Instr.slice 22 (.slice ao n cap) (some (.int .i64 2)) none none).run Tryz.prog W = .ok (.slice (adv ao cap 2) (n - 2) (cap - 2)) W := fun W => slice_from (w := W) (ao := ao) (n := n) (cap := cap) (k := 2) hn
 have hsl2 : ∀ W, (Instr.sliceAt 22 (.slice ao n cap) (some (.int .i64 2)) none none).run Tryz.prog W = .ok (.slice (adv ao cap 2) (n - 2) (cap - 2)) W := fun W => sliceAt_from (w := W) (ao := ao) (n := n) (cap := cap) (k := 2) hn
 obtain ⟨A, hA⟩ : ∃ A, A = charM l := ⟨_, rfl⟩
 rw [<- hA]
 rw [charM_is R.dg hv, R.len] at hA
 have HX : Hid (∀ W, Below (w.heap.size + 1) (w.alloc (.cells #[.int .i64 0, .int .i64 0, .string ⟨#[]⟩, .int .i64 0, .int .i64 0] 31)) W -> TxW w W) := fun W h => ⟨(TkBox.new w).on (by rw [size_alloc]; exact h), HB0.out.trans (h.mono (by omega))⟩
 have hcap := R.fits
 by_cases h2 : n <= 2
 ·obtain rfl : n = 2 := by omega
  have hnil : l.drop 2 = [] := List.drop_eq_nil_of_le (by rw [R.len]; omega)
  obtain ⟨b, o, rfl, _, _⟩ := R.rd.some (by rw [R.len]; exact Nat.zero_lt_two)
  obtain ⟨o', hax⟩ := adv_some (b := b) (o := o) (cap := cap) (k := 2)
  have CD := hid (decodeRune_none b o' (cap - 2) _ (hT.below HB0.out))
  rw [size_alloc] at CD
  have HA : Hid (A = none) := by unfold Hid; rw [hA, if_pos h2]
  rw [hax] at hsl hsl2
  clear hA RA R hT hv hnil hax
  go_enter Tryz.func82, Tryz.ntmps82
  go_wp2_with fail
  go_at_call 100
  with_reducible refine CD.out.mono ?_
  rintro e wa ⟨rfl, ba⟩
  have HW := hid (HX.out wa ba)
  obtain ⟨⟨c0, c1, c2, c3, c4⟩, f0, f1', f2, f3, f4⟩ := HW.out.1.facts
  clear ba
  go_wp2_with fail
  rw [HA.out]
  exact bodyPost_ret (v := .tuple #[tkV 0 0 ⟨#[]⟩ 0 0, .int .i64 0]) (by simp [results, Tryz.results82, go_sem, tkV, c0, c1, c2, c3, c4]) rfl (PTok.no (below_set5 HW.out.2 (Nat.le_refl _) _ _ _ _ _))
 ·rw [if_neg h2] at hA
  have hne : l.drop 2 ≠ [] := by intro e; have := congrArg List.length e; rw [List.length_drop, R.len] at this; simp at this; omega
  have CD := hid (decodeRune_any _ _ _ _ _ RA (by omega) (hT.below HB0.out))
  rw [size_alloc] at CD
  have hdl := decN_le hne
  rw [List.length_drop, R.len] at hdl
  have hVf := hv.front hne
  obtain ⟨d, hd⟩ : ∃ d, d = decN (l.drop 2) := ⟨_, rfl⟩
  rw [<- hd] at CD hdl hA hVf
  rw [List.drop_drop] at hVf
  obtain ⟨f, hf⟩ : ∃ f, f = d.2 := ⟨_, rfl⟩
  rw [<- hf] at hdl hA hVf CD
  obtain ⟨g, hg⟩ : ∃ g, g = 2 + f := ⟨_, rfl⟩
  rw [<- hg] at hA hVf
  have hwl := wordN_le (l.drop g)
  rw [List.length_drop, R.len] at hwl
  have CW := hid (fun W (h : Below w.heap.size w W) => wordSize_any _ _ _ _ W ((R.below h).drop (k := g) (by omega)) (hT.below h))
  obtain ⟨m, hm⟩ : ∃ m, m = wordN (l.drop g) := ⟨_, rfl⟩
  rw [<- hm] at hA hVf CW hwl
  obtain ⟨T, hTt⟩ : ∃ T, T = bstr ((l.drop 2).take (f + m)) := ⟨_, rfl⟩
  have hbt : bs T = (l.drop 2).take (f + m) := by rw [hTt, bs_bstr ((R.dg.drop 2).take _)]
  have hTl := bs_length T
  rw [hbt, List.length_take, List.length_drop, R.len] at hTl
  rw [<- hbt] at hA hVf
  obtain ⟨E, hE⟩ : ∃ E, E = g + m := ⟨_, rfl⟩
  rw [<- hE] at hA
  have HCV : Hid (∀ W, Below w.heap.size w W -> (convert 22 9 (.slice (adv ao cap 2) (E - 2) (cap - 2))).run Tryz.prog W = .ok (.string T) W) := fun W hW => by
   rw [hTt]
   have := conv_any ((R.below hW).part (k := 2) (m := E) (by omega) (by omega))
   rw [show E - 2 = f + m by omega] at this ⊢
   exact this
  have CL := hid (fun W (h : Below w.heap.size w W) => letterOf_any T W (by omega) (by omega) hVf (hT.below h))
  obtain ⟨X, hX⟩ : ∃ X, X = letM (bs T) := ⟨_, rfl⟩
  have HMx : Hid (∀ v, X = some v -> v <= 1114111) := fun v h => letM_max (hX.symm.trans h)
  rw [<- hX] at CL hA
  have hgi : (2 : Int) + (f : Int) = ((g : Nat) : Int) := by omega
  have hEi : (2 : Int) + (f : Int) + (m : Int) = ((E : Nat) : Int) := by omega
  have hs3 : ∀ W, (Instr.slice 22 (.slice ao n cap) (some (.int .i64 (2 + (f : Int)))) none none).run Tryz.prog W = .ok (.slice (adv ao cap g) (n - g) (cap - g)) W := fun W => by rw [hgi]; exact slice_from (w := W) (ao := ao) (n := n) (cap := cap) (k := g) (by omega)
  have hs4 : ∀ W, (Instr.sliceAt 22 (.slice ao n cap) (some (.int .i64 (2 + (f : Int)))) none none).run Tryz.prog W = .ok (.slice (adv ao cap g) (n - g) (cap - g)) W := fun W => by rw [hgi]; exact sliceAt_from (w := W) (ao := ao) (n := n) (cap := cap) (k := g) (by omega)
  have hs5 : ∀ W, (Instr.slice 22 (.slice ao n cap) (some (.int .i64 2)) (some (.int .i64 (2 + (f : Int) + (m : Int)))) none).run Tryz.prog W = .ok (.slice (adv ao cap 2) (E - 2) (cap - 2)) W := fun W => by rw [hEi]; exact slice_part (w := W) (ao := ao) (n := n) (cap := cap) (k := 2) (m := E) (by omega) (by omega)
  have hs6 : ∀ W, (Instr.sliceAt 22 (.slice ao n cap) (some (.int .i64 2)) (some (.int .i64 (2 + (f : Int) + (m : Int)))) none).run Tryz.prog W = .ok (.slice (adv ao cap 2) (E - 2) (cap - 2)) W := fun W => by rw [hEi]; exact sliceAt_part (w := W) (ao := ao) (n := n) (cap := cap) (k := 2) (m := E) (by omega) (by omega)
  have HEi := hid hEi
  clear hgi hEi
  have q1 : ((f : Int) == 0) = false := by simp; omega
  have HA : Hid (A = X.map (fun n => (n, E))) := hA
  obtain ⟨ax, hax⟩ : ∃ a, a = adv ao cap 2 := ⟨_, rfl⟩
  rw [<- hax] at hsl hsl2 CD HCV hs5 hs6
  obtain ⟨ay, hay⟩ : ∃ a, a = adv ao cap g := ⟨_, rfl⟩
  rw [<- hay] at hs3 hs4 CW
  obtain ⟨d1, hd1⟩ : ∃ x, x = d.1 := ⟨_, rfl⟩
  rw [<- hd1] at CD
  clear hA RA R hT hv hax hay hX hTt hTl hbt hm hf hd hne hVf hd1 d hg hE
  go_enter Tryz.func82, Tryz.ntmps82
  go_wp2_with fail
  go_at_call 100
  with_reducible refine CD.out.mono ?_
  rintro e wa ⟨rfl, ba⟩
  have HW := hid (HX.out wa ba)
  clear ba
  go_wp2_with fail
  have CW2 := CW.out wa HW.out.2
  with_reducible refine CW2.mono ?_
  rintro e wb ⟨rfl, bb⟩
  have HW2 := hid (⟨HW.out.1.on bb, HW.out.2.trans (bb.mono HW.out.2.size)⟩ : TxW w wb)
  have hcv := HCV.out wb HW2.out.2
  have CL2 := hid (CL.out wb HW2.out.2)
  clear bb CW CW2 CL HCV
  go_wp2_with fail
  go_at_call 101
  with_reducible refine CL2.out.mono ?_
  rintro e wc ⟨rfl, bc⟩
  have HW3 := hid (⟨HW2.out.1.on bc, HW2.out.2.trans (bc.mono HW2.out.2.size)⟩ : TxW w wc)
  obtain ⟨⟨c0, c1, c2, c3, c4⟩, f0, f1', f2, f3, f4⟩ := HW3.out.1.facts
  clear bc CL2
  cases X with
  | none =>
   have HA2 : Hid (A = none) := HA.out
   unfold hexV
   go_wp2_with fail
   rw [HA2.out]
   exact bodyPost_ret (v := .tuple #[tkV 0 0 ⟨#[]⟩ 0 0, .int .i64 0]) (by simp [results, Tryz.results82, go_sem, tkV, c0, c1, c2, c3, c4]) rfl (PTok.no (below_set5 HW3.out.2 (Nat.le_refl _) _ _ _ _ _))
  | some v =>
   have HA2 : Hid (A = some (v, E)) := HA.out
   have hvm := HMx.out v rfl
   have h64 : wrap64 ((v : Nat) : Int) = (v : Int) := by unfold wrap64; omega
   unfold hexV
   go_wp2_with fail
   rw [HA2.out]
   exact bodyPost_ret (v := .tuple #[tkV 12 (v : Nat) ⟨#[]⟩ 0 0, .int .i64 (2 + (f : Int) + (m : Int))]) (by simp [results, Tryz.results82, go_sem, tkV, c0, c1, c2, c3, c4]) rfl (PTok.yes HEi.out (below_set5 HW3.out.2 (Nat.le_refl _) _ _ _ _ _))
theorem index_semi : ∀ l : List UInt8, Lib.index l [59] = if semiN (l.map UInt8.toNat) < l.length then ((semiN (l.map UInt8.toNat) : Nat) : Int) else -1
 | [] => by simp [Lib.index, semiN]
 | c :: l => by
  have ih := index_semi l
  have hle := semiN_le (l.map UInt8.toNat)
  rw [List.length_map] at hle
  unfold Lib.index
  rw [List.map_cons]
  unfold semiN
  by_cases h : c.toNat = 59
  ·have hc : c = 59 := UInt8.toNat_inj.1 h
   rw [if_pos h, hc, if_pos (by simp)]
   simp
  ·have hc : ¬ c = 59 := fun e => h (by rw [e]; rfl)
   have hp : List.isPrefixOf [59] (c :: l) = false := by
    simp [List.isPrefixOf]; exact fun e => hc e.symm
   rw [if_neg h, hp, if_neg (by simp), ih, List.length_cons]
   by_cases hlt : semiN (l.map UInt8.toNat) < l.length
   ·rw [if_pos hlt, if_neg (show ¬ (((semiN (l.map UInt8.toNat) : Nat) : Int) == -1) = true by simp), if_pos (by omega)]; omega
   ·rw [if_neg hlt, if_pos (by decide), if_neg (by omega)]
theorem cut_semi (s : ByteArray) : (Lib.cut s.data.toList [59]).2.2 = decide (semiN (bs s) < s.size) /\ bs ⟨(Lib.cut s.data.toList [59]).1.toArray⟩ = (bs s).take (semiN (bs s)) := by
 have hi := index_semi s.data.toList
 have hb : s.data.toList.map UInt8.toNat = bs s := by unfold bs; first | rfl | simp
 have hz : s.data.toList.length = s.size := rfl
 have hle := semiN_le (bs s)
 rw [bs_length] at hle
 rw [hb, hz] at hi
 unfold Lib.cut
 rw [hi]
 by_cases h : semiN (bs s) < s.size
 ·rw [if_pos h, if_pos (by omega)]
  refine ⟨(decide_eq_true h).symm, ?_⟩
  show bs ⟨(List.take ((semiN (bs s) : Nat) : Int).toNat s.data.toList).toArray⟩ = _
  rw [Int.toNat_natCast]
  unfold bs
  simp [List.map_take]
 ·rw [if_neg h, if_neg (by omega)]
  refine ⟨(decide_eq_false h).symm, ?_⟩
  show bs ⟨s.data.toList.toArray⟩ = _
  rw [List.take_of_length_le (by rw [bs_length]; omega)]
theorem cut_any (s : ByteArray) (w : World) (hs : s.size <= 1000000) (hT : LTabs w) : Calls Tryz.prog 125 #[.string s, .string ⟨#[59]⟩] w fun e w' => ∃ t u : ByteArray, e = .returned (.tuple #[.string t, .string u, .bool (decide (semiN (bs s) < s.size))]) /\ bs t = (bs s).take (semiN (bs s)) /\ Below w.heap.size w w' := by
 obtain ⟨m, hm⟩ := hT.mx
 refine (Any.strings_Cut Tryz.lays145 s ⟨#[59]⟩ m w (by omega) hm).mono ?_
 rintro e w' ⟨rfl, k, rfl⟩
 obtain ⟨h1, h2⟩ := cut_semi s
 exact ⟨_, _, by rw [<- h1], h2, Bd w k⟩
set_option maxHeartbeats 8000000 in
theorem escaped_any (s : ByteArray) (w : World) (hs : s.size <= 1000000) (h2 : 1 < s.size) (hT : LTabs w) : Calls Tryz.prog 98 #[.string s] w fun e w' => e = .returned (.tuple #[.int .i32 ((escV (bs s)).1 : Nat), .int .i64 ((escV (bs s)).2 : Nat)]) /\ Below w.heap.size w w' := by
 have hl := bs_length s
 obtain ⟨R, hR⟩ : ∃ R, R = escV (bs s) := ⟨_, rfl⟩
 rw [<- hR]
 have hb := bs_get s 1 h2
 have HR : Hid (R = ((if (s[1]'h2).toNat = 34 then some (34, 2) else if (s[1]'h2).toNat = 92 then some (92, 2) else if (s[1]'h2).toNat = 110 then some (10, 2) else if (s[1]'h2).toNat = 116 then some (9, 2) else if (s[1]'h2).toNat = 114 then some (13, 2)
   else if (s[1]'h2).toNat = 120 then (if semiN ((bs s).drop 2) < ((bs s).drop 2).length then (numH (((bs s).drop 2).take (semiN ((bs s).drop 2)))).map (fun n => (n, semiN ((bs s).drop 2) + 3)) else none)
   else none) : Option (Nat × Nat)).getD (0, 0)) := by
  unfold Hid
  rw [hR]; unfold escV escM
  rw [if_neg (by rw [hl]; omega), hb]
 have q1 : (1 : Int) < (s.size : Int) := by omega
 have q2 : (2 : Int) <= (s.size : Int) := by omega
 have HL := hid hl
 have HT := hid hT
 clear hl hR hb hT
 by_cases n1 : (s[1]'h2).toNat = 34
 ·have t1 : (((s[1]'h2).toNat : Int) == 34) = true := by simp; omega
  have e0 : Hid (R = (34, 2)) := by unfold Hid; rw [HR.out, if_pos n1]; rfl
  have v0 : Hid ((s[1]'h2).toNat = 34) := n1
  clear HR n1
  go_enter Tryz.func98, Tryz.ntmps98
  go_wp2_with fail
  go_ret2
  exact ⟨by rw [e0.out]; show Ending.returned (.tuple #[.int .i32 (wrap32 ((s[1]'h2).toNat : Int)), .int .i64 2]) = _; rw [v0.out, show wrap32 ((34 : Nat) : Int) = 34 by unfold wrap32; omega]; rfl, Below.refl _ _⟩
 have t1 : (((s[1]'h2).toNat : Int) == 34) = false := by simp; omega
 rw [if_neg n1] at HR
 clear n1
 by_cases n1 : (s[1]'h2).toNat = 92
 ·have t2 : (((s[1]'h2).toNat : Int) == 92) = true := by simp; omega
  have e0 : Hid (R = (92, 2)) := by unfold Hid; rw [HR.out, if_pos n1]; rfl
  have v0 : Hid ((s[1]'h2).toNat = 92) := n1
  clear HR n1
  go_enter Tryz.func98, Tryz.ntmps98
  go_wp2_with fail
  go_ret2
  exact ⟨by rw [e0.out]; show Ending.returned (.tuple #[.int .i32 (wrap32 ((s[1]'h2).toNat : Int)), .int .i64 2]) = _; rw [v0.out, show wrap32 ((92 : Nat) : Int) = 92 by unfold wrap32; omega]; rfl, Below.refl _ _⟩
 have t2 : (((s[1]'h2).toNat : Int) == 92) = false := by simp; omega
 rw [if_neg n1] at HR
 clear n1
 by_cases n1 : (s[1]'h2).toNat = 110
 ·have t3 : (((s[1]'h2).toNat : Int) == 110) = true := by simp; omega
  have e0 : Hid (R = (10, 2)) := by unfold Hid; rw [HR.out, if_pos n1]; rfl
  have v0 : Hid ((s[1]'h2).toNat = 110) := n1
  clear HR n1
  go_enter Tryz.func98, Tryz.ntmps98
  go_wp2_with fail
  go_ret2
  exact ⟨by rw [e0.out]; rfl, Below.refl _ _⟩
 have t3 : (((s[1]'h2).toNat : Int) == 110) = false := by simp; omega
 rw [if_neg n1] at HR
 clear n1
 by_cases n1 : (s[1]'h2).toNat = 116
 ·have t4 : (((s[1]'h2).toNat : Int) == 116) = true := by simp; omega
  have e0 : Hid (R = (9, 2)) := by unfold Hid; rw [HR.out, if_pos n1]; rfl
  have v0 : Hid ((s[1]'h2).toNat = 116) := n1
  clear HR n1
  go_enter Tryz.func98, Tryz.ntmps98
  go_wp2_with fail
  go_ret2
  exact ⟨by rw [e0.out]; rfl, Below.refl _ _⟩
 have t4 : (((s[1]'h2).toNat : Int) == 116) = false := by simp; omega
 rw [if_neg n1] at HR
 clear n1
 by_cases n1 : (s[1]'h2).toNat = 114
 ·have t5 : (((s[1]'h2).toNat : Int) == 114) = true := by simp; omega
  have e0 : Hid (R = (13, 2)) := by unfold Hid; rw [HR.out, if_pos n1]; rfl
  have v0 : Hid ((s[1]'h2).toNat = 114) := n1
  clear HR n1
  go_enter Tryz.func98, Tryz.ntmps98
  go_wp2_with fail
  go_ret2
  exact ⟨by rw [e0.out]; rfl, Below.refl _ _⟩
 have t5 : (((s[1]'h2).toNat : Int) == 114) = false := by simp; omega
 rw [if_neg n1] at HR
 clear n1
 by_cases n1 : (s[1]'h2).toNat = 120
 ·have t6 : (((s[1]'h2).toNat : Int) == 120) = true := by simp; omega
  rw [if_pos n1] at HR
  have hsz : (s.extract 2 s.size).size = s.size - 2 := by rw [ByteArray.size_extract]; omega
  have CC := hid (cut_any (s.extract 2 s.size) w (by omega) HT.out)
  rw [bs_extract, hsz] at CC
  rw [List.length_drop, HL.out] at HR
  have CH := hid (fun (t : ByteArray) W (h : Below w.heap.size w W) (ht : t.size <= 1000000) => hexLetter_any t W ht (HT.out.below h))
  obtain ⟨D, hD⟩ : ∃ D, D = (bs s).drop 2 := ⟨_, rfl⟩
  have hDl : D.length = s.size - 2 := by rw [hD, List.length_drop, HL.out]
  rw [<- hD] at HR CC
  obtain ⟨k, hk⟩ : ∃ k, k = semiN D := ⟨_, rfl⟩
  have hkl := semiN_le D
  rw [<- hk] at HR CC hkl
  have HKL : Hid (∀ t : ByteArray, bs t = D.take k -> t.size = k) := fun t ht => by
   have := bs_length t
   rw [ht, List.length_take] at this
   omega
  have hk1 : Hid (k <= 1000000) := by unfold Hid; omega
  clear n1 hD hk hDl hkl hsz
  obtain ⟨b, hb⟩ : ∃ b, b = decide (k < s.size - 2) := ⟨_, rfl⟩
  rw [<- hb] at CC
  obtain ⟨N, hN⟩ : ∃ N, N = numH (D.take k) := ⟨_, rfl⟩
  rw [<- hN] at HR
  have HN := hid hN
  have HR2 : Hid (R = ((if b = true then N.map (fun n => (n, k + 3)) else none) : Option (Nat × Nat)).getD (0, 0)) := by
   unfold Hid; rw [HR.out, hb]; simp only [decide_eq_true_eq]
  clear HR hb hN
  go_enter Tryz.func98, Tryz.ntmps98
  go_wp2_with fail
  go_at_call 125
  with_reducible refine CC.out.mono ?_
  rintro e wa ⟨t, u, rfl, ht, ba⟩
  have hts := HKL.out t ht
  have CH2 := hid (CH.out t wa ba (by rw [hts]; exact hk1.out))
  rw [ht, <- HN.out] at CH2
  have HB := hid ba
  have HTS := hid hts
  clear ba ht hts CH
  go_wp2_with fail
  go_at_call 126
  with_reducible refine CH2.out.mono ?_
  rintro e wb ⟨rfl, bb⟩
  have HB2 := hid (HB.out.trans (bb.mono HB.out.size))
  have hts := HTS.out
  clear bb CH2
  unfold hexV
  cases N with
  | none =>
   have HR3 : Hid (R = (0, 0)) := by unfold Hid; rw [HR2.out]; split <;> rfl
   go_wp2_with fail
   go_ret2
   exact ⟨by rw [HR3.out]; rfl, HB2.out⟩
  | some v =>
   cases b
   ·have HR3 : Hid (R = (0, 0)) := HR2.out
    go_wp2_with fail
    go_ret2
    exact ⟨by rw [HR3.out]; rfl, HB2.out⟩
   ·have HR3 : Hid (R = (v, k + 3)) := HR2.out
    go_wp2_with fail
    go_ret2
    exact ⟨by rw [HR3.out]; show Ending.returned (.tuple #[.int .i32 ((v : Nat) : Int), .int .i64 (wrap64 (wrap64 (2 + (k : Int)) + 1))]) = _; rw [show wrap64 (wrap64 (2 + (k : Int)) + 1) = ((k + 3 : Nat) : Int) by have := hk1.out; unfold wrap64; omega], HB2.out⟩
 have t6 : (((s[1]'h2).toNat : Int) == 120) = false := by simp; omega
 rw [if_neg n1] at HR
 clear n1
 have HR3 : Hid (R = (0, 0)) := HR.out
 clear HR
 go_enter Tryz.func98, Tryz.ntmps98
 go_wp2_with fail
 go_ret2
 exact ⟨by rw [HR3.out]; rfl, Below.refl _ _⟩
end Go.Proofs.YtbkfinjajkjhaaaGreatDoor
