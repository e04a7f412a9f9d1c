import Derived.Test.YtbkfinjajkjhaabGreatDoorLM5
import Derived.Test.YtbkfinjajkjhaabGreatDoorLX16
import Derived.Test.YtbkfinjajkjhaabGreatDoorLShelfC
set_option linter.unusedVariables false
set_option linter.unusedSimpArgs false
set_option maxRecDepth 100000
namespace Go.Proofs.YtbkfinjajkjhaabGreatDoor
theorem dlmB_low {c : Nat} (h : dlmB c = true) : c < 128 := by
 rcases Nat.lt_or_ge c 128 with h1 | h1
 ·exact h1
 ·rw [dlmB_high' h1] at h; cases h
theorem wordN_stops : ∀ r : List Nat, wordN r < r.length -> dlmB (r.getD (wordN r) 0) = true
 | [], h => by simp at h
 | c :: r, h => by
  unfold wordN at h ⊢
  by_cases hc : dlmB c = true
  ·rw [if_pos hc]; exact hc
  ·rw [if_neg hc] at h ⊢
   have := wordN_stops r (by simpa using h)
   simpa using this
theorem wordN_bnd (r : List Nat) : Bnd r (wordN r) := by
 have h := wordN_le r
 rcases Nat.lt_or_ge (wordN r) r.length with h1 | h1
 ·exact .inr (.inr (.inl (dlmB_low (wordN_stops r h1))))
 ·exact .inr (.inl (by omega))
theorem Vd.front {r : List Nat} (h : Vd r) (hr : r ≠ []) : Vd (r.take ((decN r).2 + wordN (r.drop (decN r).2))) := by
 have hd := h.first hr
 have hl := decN_le hr
 have hw := wordN_le (r.drop (decN r).2)
 rw [List.length_drop] at hw
 have e := decN_take hr hd (k := (decN r).2 + wordN (r.drop (decN r).2)) (by omega) (by omega)
 have hne : r.take ((decN r).2 + wordN (r.drop (decN r).2)) ≠ [] := by
  intro e
  have h5 := congrArg List.length e
  rw [List.length_take, List.length_nil] at h5
  omega
 refine .step hne (by rw [e]; exact hd) ?_
 rw [e, List.drop_take, show (decN r).2 + wordN (r.drop (decN r).2) - (decN r).2 = wordN (r.drop (decN r).2) by omega]
 exact (h.tail hr).take _ (by rw [List.length_drop]; omega) (wordN_bnd _)
theorem charM_is {l : List Nat} (hd : Dg 256 l) (hv : Vd (l.drop 2)) : charM l = if l.length <= 2 then none
 else (letM ((l.drop 2).take ((decN (l.drop 2)).2 + wordN (l.drop (2 + (decN (l.drop 2)).2))))).map (fun n => (n, 2 + (decN (l.drop 2)).2 + wordN (l.drop (2 + (decN (l.drop 2)).2)))) := by
 unfold charM
 by_cases h : l.length <= 2
 ·rw [if_pos h, if_pos h]
 ·rw [if_neg h, if_neg h]
  have hne : l.drop 2 ≠ [] := by intro e; have := congrArg List.length e; rw [List.length_drop] at this; simp at this; omega
  have e := runeL_dec (hd.drop 2)
  rw [if_neg (hv.first hne)] at e
  rw [e]
end Go.Proofs.YtbkfinjajkjhaabGreatDoor
namespace Go.Proofs.YtbkfinjajkjhaabGreatDoor
open Go.RowKit
theorem decodeRune_none (b o cap : Nat) (w : World) (hT : LTabs w) : Calls Tryz.prog 42 #[.slice (some ⟨b, o, none⟩) 0 cap] w fun e w' => e = .returned (.tuple #[.int .i32 65533, .int .i64 0]) /\ Below w.heap.size w w' :=
 Any7.utf8_DecodeRune Tryz.lays7n32 ⟨#[]⟩ b o cap w hT.utf (fun j hj => absurd hj (Nat.not_lt_zero _))
theorem adv_some {b o cap k : Nat} : ∃ o', adv (some ⟨b, o, none⟩) cap k = some ⟨b, o', none⟩ := by
 unfold adv
 split
 ·exact ⟨o, rfl⟩
 ·exact ⟨o + k, by rw [Option.map_some, Addr.add_lit]⟩
theorem numH_max {t : List Nat} {n : Nat} (h : numH t = some n) : n <= 1114111 := by
 unfold numH at h
 split at h
 ·rename_i hh
  cases h
  have := hh.2.2
  unfold letB at this
  simp only [Bool.and_eq_true, decide_eq_true_eq] at this
  omega
 ·cases h
theorem letM_max {t : List Nat} {n : Nat} (h : letM t = some n) : n <= 1114111 := by
 unfold letM at h
 split at h
 ·cases h
 ·split at h
  ·cases h; exact runeL_max t
  ·repeat' split at h
   all_goals first | (exact numH_max h) | (cases h <;> decide)
def chrT (x : Nat × Nat) : Tkn := (12, (x.1 : Nat), ⟨#[]⟩, x.2)
set_option maxHeartbeats 4000000 in
theorem cutChar_any (ao : Option Addr) (n cap : Nat) (l : List Nat) (w : World) (R : BRow w ao n cap l) (hT : LTabs w) (hsm : n <= 1000000) (hn : 2 <= n) (hv : Vd (l.drop 2)) : Calls Tryz.prog 29 #[.slice ao n cap] w (PTok w ((charM l).map chrT)) := by
 have HB0 : Hid (Below w.heap.size w (w.alloc (.cells #[.int .i64 0, .int .i64 0, .string ⟨#[]⟩, .int .i64 0, .int .i64 0] 29))) := Ba w _
 have RA := (R.below HB0.out).drop (k := 2) hn
 have hsl : ∀ W, (Instr.slice 22 (.slice ao n cap) (some (.int .i64 2)) none none).run Tryz.prog W = .ok (.slice (adv ao cap 2) (n - 2) (cap - 2)) W := fun W => slice_from (w := W) (ao := ao) (n := n) (cap := cap) (k := 2) hn
 have hsl2 : ∀ W, (Instr.sliceAt 22 (.slice ao n cap) (some (.int .i64 2)) none none).run Tryz.prog W = .ok (.slice (adv ao cap 2) (n - 2) (cap - 2)) W := fun W => sliceAt_from (w := W) (ao := ao) (n := n) (cap := cap) (k := 2) hn
 obtain ⟨A, hA⟩ : ∃ A, A = charM l := ⟨_, rfl⟩
 rw [<- hA]
 rw [charM_is R.dg hv, R.len] at hA
 have HX : Hid (∀ W, Below (w.heap.size + 1) (w.alloc (.cells #[.int .i64 0, .int .i64 0, .string ⟨#[]⟩, .int .i64 0, .int .i64 0] 29)) W -> TxW w W) := fun W h => ⟨(TkBox.new w).on (by rw [size_alloc]; exact h), HB0.out.trans (h.mono (by omega))⟩
 have hcap := R.fits
 by_cases h2 : n <= 2
 ·obtain rfl : n = 2 := by omega
  have hnil : l.drop 2 = [] := List.drop_eq_nil_of_le (by rw [R.len]; omega)
  obtain ⟨b, o, rfl, _, _⟩ := R.rd.some (by rw [R.len]; exact Nat.zero_lt_two)
  obtain ⟨o', hax⟩ := adv_some (b := b) (o := o) (cap := cap) (k := 2)
  have CD := hid (decodeRune_none b o' (cap - 2) _ (hT.below HB0.out))
  rw [size_alloc] at CD
  have HA : Hid (A = none) := by unfold Hid; rw [hA, if_pos h2]
  rw [hax] at hsl hsl2
  clear hA RA R hT hv hnil hax
  go_enter Tryz.func29, Tryz.ntmps29
  go_wp2_with fail
  go_at_call 42
  with_reducible refine CD.out.mono ?_
  rintro e wa ⟨rfl, ba⟩
  have HW := hid (HX.out wa ba)
  obtain ⟨⟨c0, c1, c2, c3, c4⟩, f0, f1', f2, f3, f4⟩ := HW.out.1.facts
  clear ba
  go_wp2_with fail
  rw [HA.out]
  exact bodyPost_ret (v := .tuple #[tkV 0 0 ⟨#[]⟩ 0 0, .int .i64 0]) (by simp [results, Tryz.results29, go_sem, tkV, c0, c1, c2, c3, c4]) rfl (PTok.no (below_set5 HW.out.2 (Nat.le_refl _) _ _ _ _ _))
 ·rw [if_neg h2] at hA
  have hne : l.drop 2 ≠ [] := by intro e; have := congrArg List.length e; rw [List.length_drop, R.len] at this; simp at this; omega
  have CD := hid (decodeRune_any _ _ _ _ _ RA (by omega) (hT.below HB0.out))
  rw [size_alloc] at CD
  have hdl := decN_le hne
  rw [List.length_drop, R.len] at hdl
  have hVf := hv.front hne
  obtain ⟨d, hd⟩ : ∃ d, d = decN (l.drop 2) := ⟨_, rfl⟩
  rw [<- hd] at CD hdl hA hVf
  rw [List.drop_drop] at hVf
  obtain ⟨f, hf⟩ : ∃ f, f = d.2 := ⟨_, rfl⟩
  rw [<- hf] at hdl hA hVf CD
  obtain ⟨g, hg⟩ : ∃ g, g = 2 + f := ⟨_, rfl⟩
  rw [<- hg] at hA hVf
  have hwl := wordN_le (l.drop g)
  rw [List.length_drop, R.len] at hwl
  have CW := hid (fun W (h : Below w.heap.size w W) => wordSize_any _ _ _ _ W ((R.below h).drop (k := g) (by omega)) (hT.below h))
  obtain ⟨m, hm⟩ : ∃ m, m = wordN (l.drop g) := ⟨_, rfl⟩
  rw [<- hm] at hA hVf CW hwl
  obtain ⟨T, hTt⟩ : ∃ T, T = bstr ((l.drop 2).take (f + m)) := ⟨_, rfl⟩
  have hbt : bs T = (l.drop 2).take (f + m) := by rw [hTt, bs_bstr ((R.dg.drop 2).take _)]
  have hTl := bs_length T
  rw [hbt, List.length_take, List.length_drop, R.len] at hTl
  rw [<- hbt] at hA hVf
  obtain ⟨E, hE⟩ : ∃ E, E = g + m := ⟨_, rfl⟩
  rw [<- hE] at hA
  have HCV : Hid (∀ W, Below w.heap.size w W -> (convert 22 9 (.slice (adv ao cap 2) (E - 2) (cap - 2))).run Tryz.prog W = .ok (.string T) W) := fun W hW => by
   rw [hTt]
   have := conv_any ((R.below hW).part (k := 2) (m := E) (by omega) (by omega))
   rw [show E - 2 = f + m by omega] at this ⊢
   exact this
  have CL := hid (fun W (h : Below w.heap.size w W) => letterOf_any T W (by omega) (by omega) hVf (hT.below h))
  obtain ⟨X, hX⟩ : ∃ X, X = letM (bs T) := ⟨_, rfl⟩
  have HMx : Hid (∀ v, X = some v -> v <= 1114111) := fun v h => letM_max (hX.symm.trans h)
  rw [<- hX] at CL hA
  have hgi : (2 : Int) + (f : Int) = ((g : Nat) : Int) := by omega
  have hEi : (2 : Int) + (f : Int) + (m : Int) = ((E : Nat) : Int) := by omega
  have hs3 : ∀ W, (Instr.slice 22 (.slice ao n cap) (some (.int .i64 (2 + (f : Int)))) none none).run Tryz.prog W = .ok (.slice (adv ao cap g) (n - g) (cap - g)) W := fun W => by rw [hgi]; exact slice_from (w := W) (ao := ao) (n := n) (cap := cap) (k := g) (by omega)
  have hs4 : ∀ W, (Instr.sliceAt 22 (.slice ao n cap) (some (.int .i64 (2 + (f : Int)))) none none).run Tryz.prog W = .ok (.slice (adv ao cap g) (n - g) (cap - g)) W := fun W => by rw [hgi]; exact sliceAt_from (w := W) (ao := ao) (n := n) (cap := cap) (k := g) (by omega)
  have hs5 : ∀ W, (Instr.slice 22 (.slice ao n cap) (some (.int .i64 2)) (some (.int .i64 (2 + (f : Int) + (m : Int)))) none).run Tryz.prog W = .ok (.slice (adv ao cap 2) (E - 2) (cap - 2)) W := fun W => by rw [hEi]; exact slice_part (w := W) (ao := ao) (n := n) (cap := cap) (k := 2) (m := E) (by omega) (by omega)
  have hs6 : ∀ W, (Instr.sliceAt 22 (.slice ao n cap) (some (.int .i64 2)) (some (.int .i64 (2 + (f : Int) + (m : Int)))) none).run Tryz.prog W = .ok (.slice (adv ao cap 2) (E - 2) (cap - 2)) W := fun W => by rw [hEi]; exact sliceAt_part (w := W) (ao := ao) (n := n) (cap := cap) (k := 2) (m := E) (by omega) (by omega)
  have HEi := hid hEi
  clear hgi hEi
  have q1 : ((f : Int) == 0) = false := by simp; omega
  have HA : Hid (A = X.map (fun n => (n, E))) := hA
  obtain ⟨ax, hax⟩ : ∃ a, a = adv ao cap 2 := ⟨_, rfl⟩
  rw [<- hax] at hsl hsl2 CD HCV hs5 hs6
  obtain ⟨ay, hay⟩ : ∃ a, a = adv ao cap g := ⟨_, rfl⟩
  rw [<- hay] at hs3 hs4 CW
  obtain ⟨d1, hd1⟩ : ∃ x, x = d.1 := ⟨_, rfl⟩
  rw [<- hd1] at CD
  clear hA RA R hT hv hax hay hX hTt hTl hbt hm hf hd hne hVf hd1 d hg hE
  go_enter Tryz.func29, Tryz.ntmps29
  go_wp2_with fail
  go_at_call 42
  with_reducible refine CD.out.mono ?_
  rintro e wa ⟨rfl, ba⟩
  have HW := hid (HX.out wa ba)
  clear ba
  go_wp2_with fail
  have CW2 := CW.out wa HW.out.2
  with_reducible refine CW2.mono ?_
  rintro e wb ⟨rfl, bb⟩
  have HW2 := hid (⟨HW.out.1.on bb, HW.out.2.trans (bb.mono HW.out.2.size)⟩ : TxW w wb)
  have hcv := HCV.out wb HW2.out.2
  have CL2 := hid (CL.out wb HW2.out.2)
  clear bb CW CW2 CL HCV
  go_wp2_with fail
  go_at_call 43
  with_reducible refine CL2.out.mono ?_
  rintro e wc ⟨rfl, bc⟩
  have HW3 := hid (⟨HW2.out.1.on bc, HW2.out.2.trans (bc.mono HW2.out.2.size)⟩ : TxW w wc)
  obtain ⟨⟨c0, c1, c2, c3, c4⟩, f0, f1', f2, f3, f4⟩ := HW3.out.1.facts
  clear bc CL2
  cases X with
  | none =>
   have HA2 : Hid (A = none) := HA.out
   unfold hexV
   go_wp2_with fail
   rw [HA2.out]
   exact bodyPost_ret (v := .tuple #[tkV 0 0 ⟨#[]⟩ 0 0, .int .i64 0]) (by simp [results, Tryz.results29, go_sem, tkV, c0, c1, c2, c3, c4]) rfl (PTok.no (below_set5 HW3.out.2 (Nat.le_refl _) _ _ _ _ _))
  | some v =>
   have HA2 : Hid (A = some (v, E)) := HA.out
   have hvm := HMx.out v rfl
   have h64 : wrap64 ((v : Nat) : Int) = (v : Int) := by unfold wrap64; omega
   unfold hexV
   go_wp2_with fail
   rw [HA2.out]
   exact bodyPost_ret (v := .tuple #[tkV 12 (v : Nat) ⟨#[]⟩ 0 0, .int .i64 (2 + (f : Int) + (m : Int))]) (by simp [results, Tryz.results29, go_sem, tkV, c0, c1, c2, c3, c4]) rfl (PTok.yes HEi.out (below_set5 HW3.out.2 (Nat.le_refl _) _ _ _ _ _))
end Go.Proofs.YtbkfinjajkjhaabGreatDoor
