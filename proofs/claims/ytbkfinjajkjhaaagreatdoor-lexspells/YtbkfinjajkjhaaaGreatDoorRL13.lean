import Derived.Test.YtbkfinjajkjhaaaGreatDoorRL12
set_option linter.unusedVariables false
set_option linter.unusedSimpArgs false
set_option maxRecDepth 100000
namespace Go.Proofs.YtbkfinjajkjhaaaGreatDoor
open Go.RowKit
theorem txA_shift : ∀ (n : Nat) (r : List Nat) (T : ByteArray) (c k q : Nat), txA n r T c (k + q) = (txA n r T c k).map (fun x => (x.1, x.2.1, x.2.2 + q))
 | 0, _, _, _, _, _ => rfl
 | n + 1, r, T, c, k, q => by
  unfold txA
  rw [show k + q + (itemM r).2 = k + (itemM r).2 + q by omega, txA_shift n]
  split
  ·rfl
  ·split
   ·simp; omega
   ·split <;> rfl
theorem txL_drop {l : List Nat} {p : Nat} (T : ByteArray) (c : Nat) : txL l (p + 1) T c = (txL (l.drop p) 1 T c).map (fun x => (x.1, x.2.1, x.2.2 + p)) := by
 unfold txL
 rw [List.drop_drop, List.length_drop, show l.length - p - 1 = l.length - (p + 1) by omega, show p + 1 = 1 + p by omega, <- txA_shift]
theorem textM_drop (l : List Nat) (p : Nat) : textM l p = textM (l.drop p) 0 := by
 unfold textM
 rw [txL_drop]
 cases h : txL (l.drop p) 1 ⟨#[]⟩ 0 with
 | none => rfl
 | some x =>
  obtain ⟨T, c, k⟩ := x
  show (if c <= 1024 then some (T, k + p - p) else none) = (if c <= 1024 then some (T, k - 0) else none)
  rw [Nat.add_sub_cancel, Nat.sub_zero]
set_option maxHeartbeats 16000000 in
theorem rtoken_any (s : ByteArray) (p : Nat) (w : World) (hs : s.size <= 5000) (hp : p < s.size) : Calls Tryz.prog 24 #[.string s, .int .i64 p] w (RTok w p (tkM ((bs s).drop p))) := by
 have hl := bs_length s
 have hb := bs_get s p hp
 have hg : ((bs s).drop p).getD 0 0 = (s[p]'hp).toNat := by rw [dropN_cons (by rw [hl]; exact hp), <- hb]; rfl
 obtain ⟨X, hX⟩ : ∃ X, X = tkM ((bs s).drop p) := ⟨_, rfl⟩
 rw [<- hX]
 unfold tkM at hX
 simp only [hg] at hX
 have HX := hid hX
 have i0 : (0 : Int) <= (p : Int) := by omega
 have i1 : (p : Int) < (s.size : Int) := by omega
 have HL := hid hl
 clear hl hb hg hX
 obtain ⟨c, hc⟩ : ∃ c, c = (s[p]'hp).toNat := ⟨_, rfl⟩
 rw [<- hc] at HX
 by_cases h40 : c = 40
 ·have HX1 : Hid (X = some (1, 0, ⟨#[]⟩, 1)) := by unfold Hid; rw [HX.out, if_pos h40]
  have t40 : (((s[p]'hp).toNat : Int) == 40) = true := by rw [<- hc]; simp; omega
  have t41 : (((s[p]'hp).toNat : Int) == 41) = false := by rw [<- hc]; simp; omega
  have t39 : (((s[p]'hp).toNat : Int) == 39) = false := by rw [<- hc]; simp; omega
  have t96 : (((s[p]'hp).toNat : Int) == 96) = false := by rw [<- hc]; simp; omega
  have t44 : (((s[p]'hp).toNat : Int) == 44) = false := by rw [<- hc]; simp; omega
  have t34 : (((s[p]'hp).toNat : Int) == 34) = false := by rw [<- hc]; simp; omega
  have t35 : (((s[p]'hp).toNat : Int) == 35) = false := by rw [<- hc]; simp; omega
  clear HX hc h40
  go_enter Tryz.func24, Tryz.ntmps24
  go_wp2_with fail
  rw [HX1.out]
  exact bodyPost_ret (v := .tuple #[tkV 1 0 ⟨#[]⟩ p (p + 1), .bool true]) (by simp [results, Tryz.results24, go_sem, tkV]) rfl (RTok.yes (by show (p : Int) + 1 = _; omega) (Ba w _))
 by_cases h41 : c = 41
 ·have HX1 : Hid (X = some (2, 0, ⟨#[]⟩, 1)) := by unfold Hid; rw [HX.out, if_neg h40, if_pos h41]
  have t40 : (((s[p]'hp).toNat : Int) == 40) = false := by rw [<- hc]; simp; omega
  have t41 : (((s[p]'hp).toNat : Int) == 41) = true := by rw [<- hc]; simp; omega
  have t39 : (((s[p]'hp).toNat : Int) == 39) = false := by rw [<- hc]; simp; omega
  have t96 : (((s[p]'hp).toNat : Int) == 96) = false := by rw [<- hc]; simp; omega
  have t44 : (((s[p]'hp).toNat : Int) == 44) = false := by rw [<- hc]; simp; omega
  have t34 : (((s[p]'hp).toNat : Int) == 34) = false := by rw [<- hc]; simp; omega
  have t35 : (((s[p]'hp).toNat : Int) == 35) = false := by rw [<- hc]; simp; omega
  clear HX hc h40 h41
  go_enter Tryz.func24, Tryz.ntmps24
  go_wp2_with fail
  rw [HX1.out]
  exact bodyPost_ret (v := .tuple #[tkV 2 0 ⟨#[]⟩ p (p + 1), .bool true]) (by simp [results, Tryz.results24, go_sem, tkV]) rfl (RTok.yes (by show (p : Int) + 1 = _; omega) (Ba w _))
 by_cases h39 : c = 39
 ·have HX1 : Hid (X = if hasB ((bs s).drop p) [44, 64] then some (5, 0, bstr (((bs s).drop p).take 2), 2) else some (5, 0, bstr (((bs s).drop p).take 1), 1)) := by unfold Hid; rw [HX.out, if_neg h40, if_neg h41, if_pos (.inl h39)]
  have CH : Hid (∀ wx, Calls Tryz.prog 40 #[.string s, .int .i64 p, .string ⟨#[44, 64]⟩] wx fun e w' => e = .returned (.bool (hasB ((bs s).drop p) [44, 64])) /\ w' = wx) := fun wx => rhas_any s ⟨#[44, 64]⟩ p wx (by omega) (by decide) (by omega)
  have t40 : (((s[p]'hp).toNat : Int) == 40) = false := by rw [<- hc]; simp; omega
  have t41 : (((s[p]'hp).toNat : Int) == 41) = false := by rw [<- hc]; simp; omega
  have t39 : (((s[p]'hp).toNat : Int) == 39) = true := by rw [<- hc]; simp; omega
  have t96 : (((s[p]'hp).toNat : Int) == 96) = false := by rw [<- hc]; simp; omega
  have t44 : (((s[p]'hp).toNat : Int) == 44) = false := by rw [<- hc]; simp; omega
  have t34 : (((s[p]'hp).toNat : Int) == 34) = false := by rw [<- hc]; simp; omega
  have t35 : (((s[p]'hp).toNat : Int) == 35) = false := by rw [<- hc]; simp; omega
  clear HX
  by_cases hb : hasB ((bs s).drop p) [44, 64] = true
  ·have hb2 := hasB_len hb
   rw [List.length_drop, HL.out] at hb2
   have hb2 : p + 2 <= s.size := by simp at hb2; omega
   rw [hb] at CH
   have HX2 : Hid (X = some (5, 0, s.extract p (p + 2), 2)) := by unfold Hid; rw [HX1.out, if_pos hb, <- bstr_bs (s.extract p (p + 2)), bs_ext_at, show p + 2 - p = 2 by omega]
   obtain ⟨T, hT⟩ : ∃ T, s.extract p (p + 2) = T := ⟨_, rfl⟩
   rw [hT] at HX2
   have q2 : (p : Int) + 2 <= (s.size : Int) := by omega
   clear HX1 hb hb2
   go_enter Tryz.func24, Tryz.ntmps24
   go_wp2_with (go_at_call 40; with_reducible refine (CH.out _).mono ?_; rintro e wa ⟨rfl, rfl⟩)
   rw [HX2.out]
   exact bodyPost_ret (v := .tuple #[tkV 5 0 T p (p + 2), .bool true]) (by simp [results, Tryz.results24, go_sem, tkV]) rfl (RTok.yes (by show (p : Int) + 2 = _; omega) (Ba w _))
  ·have hbf : hasB ((bs s).drop p) [44, 64] = false := by simpa using hb
   rw [hbf] at CH
   have HX2 : Hid (X = some (5, 0, s.extract p (p + 1), 1)) := by unfold Hid; rw [HX1.out, if_neg hb, <- bstr_bs (s.extract p (p + 1)), bs_ext_at, show p + 1 - p = 1 by omega]
   obtain ⟨T, hT⟩ : ∃ T, s.extract p (p + 1) = T := ⟨_, rfl⟩
   rw [hT] at HX2
   have q2 : (p : Int) + 1 <= (s.size : Int) := by omega
   clear HX1 hb hbf
   go_enter Tryz.func24, Tryz.ntmps24
   go_wp2_with (go_at_call 40; with_reducible refine (CH.out _).mono ?_; rintro e wa ⟨rfl, rfl⟩)
   rw [HX2.out]
   exact bodyPost_ret (v := .tuple #[tkV 5 0 T p (p + 1), .bool true]) (by simp [results, Tryz.results24, go_sem, tkV]) rfl (RTok.yes (by show (p : Int) + 1 = _; omega) (Ba w _))
 by_cases h96 : c = 96
 ·have HX1 : Hid (X = if hasB ((bs s).drop p) [44, 64] then some (5, 0, bstr (((bs s).drop p).take 2), 2) else some (5, 0, bstr (((bs s).drop p).take 1), 1)) := by unfold Hid; rw [HX.out, if_neg h40, if_neg h41, if_pos (.inr (.inl h96))]
  have CH : Hid (∀ wx, Calls Tryz.prog 40 #[.string s, .int .i64 p, .string ⟨#[44, 64]⟩] wx fun e w' => e = .returned (.bool (hasB ((bs s).drop p) [44, 64])) /\ w' = wx) := fun wx => rhas_any s ⟨#[44, 64]⟩ p wx (by omega) (by decide) (by omega)
  have t40 : (((s[p]'hp).toNat : Int) == 40) = false := by rw [<- hc]; simp; omega
  have t41 : (((s[p]'hp).toNat : Int) == 41) = false := by rw [<- hc]; simp; omega
  have t39 : (((s[p]'hp).toNat : Int) == 39) = false := by rw [<- hc]; simp; omega
  have t96 : (((s[p]'hp).toNat : Int) == 96) = true := by rw [<- hc]; simp; omega
  have t44 : (((s[p]'hp).toNat : Int) == 44) = false := by rw [<- hc]; simp; omega
  have t34 : (((s[p]'hp).toNat : Int) == 34) = false := by rw [<- hc]; simp; omega
  have t35 : (((s[p]'hp).toNat : Int) == 35) = false := by rw [<- hc]; simp; omega
  clear HX
  by_cases hb : hasB ((bs s).drop p) [44, 64] = true
  ·have hb2 := hasB_len hb
   rw [List.length_drop, HL.out] at hb2
   have hb2 : p + 2 <= s.size := by simp at hb2; omega
   rw [hb] at CH
   have HX2 : Hid (X = some (5, 0, s.extract p (p + 2), 2)) := by unfold Hid; rw [HX1.out, if_pos hb, <- bstr_bs (s.extract p (p + 2)), bs_ext_at, show p + 2 - p = 2 by omega]
   obtain ⟨T, hT⟩ : ∃ T, s.extract p (p + 2) = T := ⟨_, rfl⟩
   rw [hT] at HX2
   have q2 : (p : Int) + 2 <= (s.size : Int) := by omega
   clear HX1 hb hb2
   go_enter Tryz.func24, Tryz.ntmps24
   go_wp2_with (go_at_call 40; with_reducible refine (CH.out _).mono ?_; rintro e wa ⟨rfl, rfl⟩)
   rw [HX2.out]
   exact bodyPost_ret (v := .tuple #[tkV 5 0 T p (p + 2), .bool true]) (by simp [results, Tryz.results24, go_sem, tkV]) rfl (RTok.yes (by show (p : Int) + 2 = _; omega) (Ba w _))
  ·have hbf : hasB ((bs s).drop p) [44, 64] = false := by simpa using hb
   rw [hbf] at CH
   have HX2 : Hid (X = some (5, 0, s.extract p (p + 1), 1)) := by unfold Hid; rw [HX1.out, if_neg hb, <- bstr_bs (s.extract p (p + 1)), bs_ext_at, show p + 1 - p = 1 by omega]
   obtain ⟨T, hT⟩ : ∃ T, s.extract p (p + 1) = T := ⟨_, rfl⟩
   rw [hT] at HX2
   have q2 : (p : Int) + 1 <= (s.size : Int) := by omega
   clear HX1 hb hbf
   go_enter Tryz.func24, Tryz.ntmps24
   go_wp2_with (go_at_call 40; with_reducible refine (CH.out _).mono ?_; rintro e wa ⟨rfl, rfl⟩)
   rw [HX2.out]
   exact bodyPost_ret (v := .tuple #[tkV 5 0 T p (p + 1), .bool true]) (by simp [results, Tryz.results24, go_sem, tkV]) rfl (RTok.yes (by show (p : Int) + 1 = _; omega) (Ba w _))
 by_cases h44 : c = 44
 ·have HX1 : Hid (X = if hasB ((bs s).drop p) [44, 64] then some (5, 0, bstr (((bs s).drop p).take 2), 2) else some (5, 0, bstr (((bs s).drop p).take 1), 1)) := by unfold Hid; rw [HX.out, if_neg h40, if_neg h41, if_pos (.inr (.inr h44))]
  have CH : Hid (∀ wx, Calls Tryz.prog 40 #[.string s, .int .i64 p, .string ⟨#[44, 64]⟩] wx fun e w' => e = .returned (.bool (hasB ((bs s).drop p) [44, 64])) /\ w' = wx) := fun wx => rhas_any s ⟨#[44, 64]⟩ p wx (by omega) (by decide) (by omega)
  have t40 : (((s[p]'hp).toNat : Int) == 40) = false := by rw [<- hc]; simp; omega
  have t41 : (((s[p]'hp).toNat : Int) == 41) = false := by rw [<- hc]; simp; omega
  have t39 : (((s[p]'hp).toNat : Int) == 39) = false := by rw [<- hc]; simp; omega
  have t96 : (((s[p]'hp).toNat : Int) == 96) = false := by rw [<- hc]; simp; omega
  have t44 : (((s[p]'hp).toNat : Int) == 44) = true := by rw [<- hc]; simp; omega
  have t34 : (((s[p]'hp).toNat : Int) == 34) = false := by rw [<- hc]; simp; omega
  have t35 : (((s[p]'hp).toNat : Int) == 35) = false := by rw [<- hc]; simp; omega
  clear HX
  by_cases hb : hasB ((bs s).drop p) [44, 64] = true
  ·have hb2 := hasB_len hb
   rw [List.length_drop, HL.out] at hb2
   have hb2 : p + 2 <= s.size := by simp at hb2; omega
   rw [hb] at CH
   have HX2 : Hid (X = some (5, 0, s.extract p (p + 2), 2)) := by unfold Hid; rw [HX1.out, if_pos hb, <- bstr_bs (s.extract p (p + 2)), bs_ext_at, show p + 2 - p = 2 by omega]
   obtain ⟨T, hT⟩ : ∃ T, s.extract p (p + 2) = T := ⟨_, rfl⟩
   rw [hT] at HX2
   have q2 : (p : Int) + 2 <= (s.size : Int) := by omega
   clear HX1 hb hb2
   go_enter Tryz.func24, Tryz.ntmps24
   go_wp2_with (go_at_call 40; with_reducible refine (CH.out _).mono ?_; rintro e wa ⟨rfl, rfl⟩)
   rw [HX2.out]
   exact bodyPost_ret (v := .tuple #[tkV 5 0 T p (p + 2), .bool true]) (by simp [results, Tryz.results24, go_sem, tkV]) rfl (RTok.yes (by show (p : Int) + 2 = _; omega) (Ba w _))
  ·have hbf : hasB ((bs s).drop p) [44, 64] = false := by simpa using hb
   rw [hbf] at CH
   have HX2 : Hid (X = some (5, 0, s.extract p (p + 1), 1)) := by unfold Hid; rw [HX1.out, if_neg hb, <- bstr_bs (s.extract p (p + 1)), bs_ext_at, show p + 1 - p = 1 by omega]
   obtain ⟨T, hT⟩ : ∃ T, s.extract p (p + 1) = T := ⟨_, rfl⟩
   rw [hT] at HX2
   have q2 : (p : Int) + 1 <= (s.size : Int) := by omega
   clear HX1 hb hbf
   go_enter Tryz.func24, Tryz.ntmps24
   go_wp2_with (go_at_call 40; with_reducible refine (CH.out _).mono ?_; rintro e wa ⟨rfl, rfl⟩)
   rw [HX2.out]
   exact bodyPost_ret (v := .tuple #[tkV 5 0 T p (p + 1), .bool true]) (by simp [results, Tryz.results24, go_sem, tkV]) rfl (RTok.yes (by show (p : Int) + 1 = _; omega) (Ba w _))
 by_cases h34 : c = 34
 ·have CT := textM_drop (bs s) p
  have HX1 : Hid (X = (textM ((bs s).drop p) 0).map (fun x => ((13 : Int), (0 : Int), x.1, x.2))) := by unfold Hid; rw [HX.out, if_neg h40, if_neg h41, if_neg (fun h => h.elim h39 (fun h => h.elim h96 h44)), if_pos h34]
  have CC := hid (fun wx => (by have h := rtext_any s p wx hs hp; rw [CT] at h; exact h : Calls Tryz.prog 42 #[.string s, .int .i64 p] wx (RTok wx p ((textM ((bs s).drop p) 0).map (fun x => ((13 : Int), (0 : Int), x.1, x.2))))))
  have t40 : (((s[p]'hp).toNat : Int) == 40) = false := by rw [<- hc]; simp; omega
  have t41 : (((s[p]'hp).toNat : Int) == 41) = false := by rw [<- hc]; simp; omega
  have t39 : (((s[p]'hp).toNat : Int) == 39) = false := by rw [<- hc]; simp; omega
  have t96 : (((s[p]'hp).toNat : Int) == 96) = false := by rw [<- hc]; simp; omega
  have t44 : (((s[p]'hp).toNat : Int) == 44) = false := by rw [<- hc]; simp; omega
  have t34 : (((s[p]'hp).toNat : Int) == 34) = true := by rw [<- hc]; simp; omega
  have t35 : (((s[p]'hp).toNat : Int) == 35) = false := by rw [<- hc]; simp; omega
  clear HX
  obtain ⟨Y, hY⟩ : ∃ Y, Y = (textM ((bs s).drop p) 0).map (fun x => ((13 : Int), (0 : Int), x.1, x.2)) := ⟨_, rfl⟩
  rw [<- hY] at CC
  have HX2 : Hid (X = Y) := HX1.out.trans hY.symm
  obtain ⟨y, hy⟩ : ∃ y, y = Y.isSome := ⟨_, rfl⟩
  have HY := hid hy
  clear HX1 hY hy
  go_enter Tryz.func24, Tryz.ntmps24
  go_wp2_with fail
  go_at_call 42
  with_reducible refine (CC.out _).mono ?_
  rintro e wa ⟨k, n, t, f, o, rfl, hy, ba⟩
  rw [<- HY.out]
  have HW : Hid (TxW w wa) := ⟨(TkBox.new w).on ba, Bt (Ba w _) ba⟩
  obtain ⟨⟨c0, c1, c2, c3, c4⟩, f0, f1', f2, f3, f4⟩ := HW.out.1.facts
  have HYY := hid hy
  clear ba hy
  unfold tkV
  go_wp2_with fail
  rw [HX2.out]
  exact bodyPost_ret (v := .tuple #[tkV k n t f o, .bool y]) (by simp [results, Tryz.results24, go_sem, tkV, c0, c1, c2, c3, c4]) rfl ⟨k, n, t, f, o, by rw [HY.out], HYY.out, below_set5 HW.out.2 (Nat.le_refl _) _ _ _ _ _⟩
 by_cases h35 : c = 35
 ·have HX1 : Hid (X = hashM ((bs s).drop p)) := by unfold Hid; rw [HX.out, if_neg h40, if_neg h41, if_neg (fun h => h.elim h39 (fun h => h.elim h96 h44)), if_neg h34, if_pos h35]
  have CC := hid (fun wx => rhash_any s p wx hs hp)
  have t40 : (((s[p]'hp).toNat : Int) == 40) = false := by rw [<- hc]; simp; omega
  have t41 : (((s[p]'hp).toNat : Int) == 41) = false := by rw [<- hc]; simp; omega
  have t39 : (((s[p]'hp).toNat : Int) == 39) = false := by rw [<- hc]; simp; omega
  have t96 : (((s[p]'hp).toNat : Int) == 96) = false := by rw [<- hc]; simp; omega
  have t44 : (((s[p]'hp).toNat : Int) == 44) = false := by rw [<- hc]; simp; omega
  have t34 : (((s[p]'hp).toNat : Int) == 34) = false := by rw [<- hc]; simp; omega
  have t35 : (((s[p]'hp).toNat : Int) == 35) = true := by rw [<- hc]; simp; omega
  clear HX
  obtain ⟨Y, hY⟩ : ∃ Y, Y = hashM ((bs s).drop p) := ⟨_, rfl⟩
  rw [<- hY] at CC
  have HX2 : Hid (X = Y) := HX1.out.trans hY.symm
  obtain ⟨y, hy⟩ : ∃ y, y = Y.isSome := ⟨_, rfl⟩
  have HY := hid hy
  clear HX1 hY hy
  go_enter Tryz.func24, Tryz.ntmps24
  go_wp2_with fail
  go_at_call 43
  with_reducible refine (CC.out _).mono ?_
  rintro e wa ⟨k, n, t, f, o, rfl, hy, ba⟩
  rw [<- HY.out]
  have HW : Hid (TxW w wa) := ⟨(TkBox.new w).on ba, Bt (Ba w _) ba⟩
  obtain ⟨⟨c0, c1, c2, c3, c4⟩, f0, f1', f2, f3, f4⟩ := HW.out.1.facts
  have HYY := hid hy
  clear ba hy
  unfold tkV
  go_wp2_with fail
  rw [HX2.out]
  exact bodyPost_ret (v := .tuple #[tkV k n t f o, .bool y]) (by simp [results, Tryz.results24, go_sem, tkV, c0, c1, c2, c3, c4]) rfl ⟨k, n, t, f, o, by rw [HY.out], HYY.out, below_set5 HW.out.2 (Nat.le_refl _) _ _ _ _ _⟩
 have HX1 : Hid (X = otherM ((bs s).drop p)) := by unfold Hid; rw [HX.out, if_neg h40, if_neg h41, if_neg (fun h => h.elim h39 (fun h => h.elim h96 h44)), if_neg h34, if_neg h35]
 have CC := hid (fun wx => rother_any s p wx hs (by omega))
 have t40 : (((s[p]'hp).toNat : Int) == 40) = false := by rw [<- hc]; simp; omega
 have t41 : (((s[p]'hp).toNat : Int) == 41) = false := by rw [<- hc]; simp; omega
 have t39 : (((s[p]'hp).toNat : Int) == 39) = false := by rw [<- hc]; simp; omega
 have t96 : (((s[p]'hp).toNat : Int) == 96) = false := by rw [<- hc]; simp; omega
 have t44 : (((s[p]'hp).toNat : Int) == 44) = false := by rw [<- hc]; simp; omega
 have t34 : (((s[p]'hp).toNat : Int) == 34) = false := by rw [<- hc]; simp; omega
 have t35 : (((s[p]'hp).toNat : Int) == 35) = false := by rw [<- hc]; simp; omega
 clear HX
 obtain ⟨Y, hY⟩ : ∃ Y, Y = otherM ((bs s).drop p) := ⟨_, rfl⟩
 rw [<- hY] at CC
 have HX2 : Hid (X = Y) := HX1.out.trans hY.symm
 obtain ⟨y, hy⟩ : ∃ y, y = Y.isSome := ⟨_, rfl⟩
 have HY := hid hy
 clear HX1 hY hy
 go_enter Tryz.func24, Tryz.ntmps24
 go_wp2_with fail
 go_at_call 44
 with_reducible refine (CC.out _).mono ?_
 rintro e wa ⟨k, n, t, f, o, rfl, hy, ba⟩
 rw [<- HY.out]
 have HW : Hid (TxW w wa) := ⟨(TkBox.new w).on ba, Bt (Ba w _) ba⟩
 obtain ⟨⟨c0, c1, c2, c3, c4⟩, f0, f1', f2, f3, f4⟩ := HW.out.1.facts
 have HYY := hid hy
 clear ba hy
 unfold tkV
 go_wp2_with fail
 rw [HX2.out]
 exact bodyPost_ret (v := .tuple #[tkV k n t f o, .bool y]) (by simp [results, Tryz.results24, go_sem, tkV, c0, c1, c2, c3, c4]) rfl ⟨k, n, t, f, o, by rw [HY.out], HYY.out, below_set5 HW.out.2 (Nat.le_refl _) _ _ _ _ _⟩
end Go.Proofs.YtbkfinjajkjhaaaGreatDoor
