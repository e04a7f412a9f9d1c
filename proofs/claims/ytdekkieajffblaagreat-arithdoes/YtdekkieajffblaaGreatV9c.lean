/-
  The program's heap: is a field a head; laying a head.
-/
import Derived.Test.YtdekkieajffblaaGreatV9a
set_option linter.unusedVariables false
set_option linter.unusedSimpArgs false
set_option maxRecDepth 100000
namespace Go.Proofs.YtdekkieajffblaaGreat
open Go.RowKit

section
variable {B : Nat} {v : Value} {N : Int} {F : Nat → Prop} {os : List Ob}
theorem q_nofield {p kind i : Int} (ho : OsOk os) (hp : U64 p) (hk : Z64 kind) (hi : Z64 i) (hf : (fieldM os p kind i).2 ≠ 0) (w : World) (h : PH B v N (wordsL os) F w) :
    Calls Tryz.prog 111 #[v, .int .u64 p, .int .i64 kind, .int .i64 i] w fun e w' => e = .returned (.tuple #[.int .i64 0, .int .i64 (fieldM os p kind i).2]) ∧ w' = w := by
  have H := hid h
  have hbd := h.bd
  rw [wordsL_length] at hbd
  obtain ⟨gh, rfl⟩ := h.ptr
  clear h
  cases hfd : findM os p with
  | none =>
    have e1 : (fieldM os p kind i).2 = 70 := by unfold fieldM; rw [hfd]
    rw [e1]
    have C := hid (q_none ho hp hfd w H.out)
    clear hfd H hf e1
    go_enter Tryz.func111, Tryz.ntmps111
    go_wp2_with (go_at_call 91; (with_reducible refine C.out.mono ?_); rintro e W1 ⟨rfl, hw1⟩; rw [hw1]; clear hw1)
    go_ret2
    exact ⟨rfl, rfl⟩
  | some k =>
    have C := hid (q_some ho hp hfd w H.out)
    have hkl := (findM_lt hfd).1
    have hal := at_lt hkl
    have hxk := ho.kd _ (getD_in_os hkl)
    have hfe : Hid (fieldM os p kind i = if kind ≠ 0 ∧ (os.getD k default).kind ≠ kind then (0, 70) else if i < 0 ∨ ((os.getD k default).f.length : Int) ≤ i then (0, 2) else ((k : Int), 0)) := by unfold Hid fieldM; rw [hfd]
    obtain ⟨x, hx⟩ : ∃ x, x = os.getD k default := ⟨_, rfl⟩
    rw [← hx] at C hal hxk hfe
    obtain ⟨a, ha⟩ : ∃ a, a = atO os k := ⟨_, rfl⟩
    rw [← ha] at C hal
    obtain ⟨xk, xf⟩ := x
    simp only at C hal hxk hfe
    obtain ⟨fl, hfl⟩ : ∃ q, q = xf.length := ⟨_, rfl⟩
    rw [← hfl] at C hal hfe
    unfold Z64 at hk hi
    clear hx ha hfl hfd hkl H
    by_cases h1 : kind ≠ 0 ∧ xk ≠ kind
    · have e1 := hfe.out.trans (if_pos h1)
      rw [e1]
      obtain ⟨h2, h3⟩ := h1
      have ek : (kind != xk) = true := by simp; omega
      have ek0 : (kind != 0) = true := by simp; omega
      clear hf hfe e1
      go_enter Tryz.func111, Tryz.ntmps111
      go_wp2_with (go_at_call 91; (with_reducible refine C.out.mono ?_); rintro e W1 ⟨rfl, hw1⟩; rw [hw1]; clear hw1)
      go_ret2
      exact ⟨rfl, rfl⟩
    · by_cases h2 : i < 0 ∨ (fl : Int) ≤ i
      · have e1 := hfe.out.trans ((if_neg h1).trans (if_pos h2))
        rw [e1]
        clear hf hfe e1
        by_cases hk0 : kind = 0
        · subst hk0
          by_cases h3 : i < 0
          · go_enter Tryz.func111, Tryz.ntmps111
            go_wp2_with (go_at_call 91; (with_reducible refine C.out.mono ?_); rintro e W1 ⟨rfl, hw1⟩; rw [hw1]; clear hw1)
            go_ret2
            exact ⟨rfl, rfl⟩
          · have h4 : (fl : Int) ≤ i := by omega
            go_enter Tryz.func111, Tryz.ntmps111
            go_wp2_with (go_at_call 91; (with_reducible refine C.out.mono ?_); rintro e W1 ⟨rfl, hw1⟩; rw [hw1]; clear hw1)
            go_ret2
            exact ⟨rfl, rfl⟩
        · obtain rfl : kind = xk := by omega
          have ek : (kind != kind) = false := by simp
          have ek0 : (kind != 0) = true := by simp; omega
          by_cases h3 : i < 0
          · go_enter Tryz.func111, Tryz.ntmps111
            go_wp2_with (go_at_call 91; (with_reducible refine C.out.mono ?_); rintro e W1 ⟨rfl, hw1⟩; rw [hw1]; clear hw1)
            go_ret2
            exact ⟨rfl, rfl⟩
          · have h4 : (fl : Int) ≤ i := by omega
            go_enter Tryz.func111, Tryz.ntmps111
            go_wp2_with (go_at_call 91; (with_reducible refine C.out.mono ?_); rintro e W1 ⟨rfl, hw1⟩; rw [hw1]; clear hw1)
            go_ret2
            exact ⟨rfl, rfl⟩
      · exact absurd (by rw [hfe.out, if_neg h1, if_neg h2]) hf
theorem pget_any (ho : OsOk os) (p kind i : Int) (hp : U64 p) (hk : Z64 kind) (hi : Z64 i) (w : World) (h : PH B v N (wordsL os) F w) :
    Calls Tryz.prog 93 #[v, .int .u64 p, .int .i64 kind, .int .i64 i] w fun e w' => e = .returned (.tuple #[.int .u64 (getM os p kind i).1, .int .i64 (getM os p kind i).2]) ∧ Below w.heap.size w w' := by
  by_cases hf : (fieldM os p kind i).2 = 0
  · obtain ⟨k, e1, hkl, hfd, h0, h1⟩ := fieldM_ok hf
    have C := hid (q_field ho hp hk hi e1 w h)
    have e2 : getM os p kind i = ((os.getD k default).f.getD i.toNat 0, 0) := by unfold getM; rw [if_pos hf, e1]; rfl
    rw [e2]
    have hal := at_lt hkl
    obtain ⟨j, rfl⟩ : ∃ j : Nat, i = (j : Int) := ⟨i.toNat, by omega⟩
    rw [Int.toNat_natCast]
    have e3 := word_field (os := os) (k := k) (j := j) hkl (by omega)
    obtain ⟨gh, gw, n, rest, rfl, hp⟩ := h.opened
    have c0 := hp.c0
    have cw := hp.word' (i := atO os k + 1 + j) (by rw [wordsL_length]; omega)
    rw [e3] at cw
    have hul := hp.used_le
    have hnn := hp.nn
    have hbd := hp.bd
    rw [wordsL_length] at hul hbd
    obtain ⟨z, hz⟩ : ∃ z, z = (os.getD k default).f.getD j 0 := ⟨_, rfl⟩
    rw [← hz] at cw ⊢
    obtain ⟨a, ha⟩ : ∃ a, a = atO os k := ⟨_, rfl⟩
    rw [← ha] at C cw hal
    have hlt : a + 1 + j < n := by omega
    have e4 : ((a : Int) + 1 + j) = ((a + 1 + j : Nat) : Int) := by omega
    rw [e4] at C
    obtain ⟨q, hq⟩ : ∃ q, q = a + 1 + j := ⟨_, rfl⟩
    rw [← hq] at C cw hlt
    simp only
    clear h hp hz ha e1 e2 e3 e4 hf hfd hkl hk hi h0 h1 hal hq
    go_enter Tryz.func93, Tryz.ntmps93
    go_wp2_with (go_at_call 111; (with_reducible refine C.out.mono ?_); rintro e W1 ⟨rfl, hw1⟩; rw [hw1]; clear hw1)
    go_ret2
    exact ⟨rfl, Below.refl _ _⟩
  · have C := hid (q_nofield ho hp hk hi hf w h)
    have e2 : getM os p kind i = (0, (fieldM os p kind i).2) := by unfold getM; rw [if_neg hf]
    rw [e2]
    obtain ⟨gh, rfl⟩ := h.ptr
    obtain ⟨q, hq⟩ : ∃ q, q = (fieldM os p kind i).2 := ⟨_, rfl⟩
    rw [← hq] at C hf ⊢
    simp only
    have ek : (q != 0) = true := by simp; omega
    clear h hq e2
    go_enter Tryz.func93, Tryz.ntmps93
    go_wp2_with (go_at_call 111; (with_reducible refine C.out.mono ?_); rintro e W1 ⟨rfl, hw1⟩; rw [hw1]; clear hw1)
    go_ret2
    exact ⟨rfl, Below.refl _ _⟩
theorem q_ishead (z : Int) (hz : U64 z) (w : World) : Calls Tryz.prog 87 #[.int .u64 z] w fun e w' => e = .returned (.bool (isHd z)) ∧ w' = w := by
  have C := hid (headof_any z hz w)
  have e0 : isR 8 z = isHd z := rfl
  rw [e0] at C
  obtain ⟨b, hb⟩ : ∃ b, b = isHd z := ⟨_, rfl⟩
  obtain ⟨kd, hkd⟩ : ∃ k, k = typR z := ⟨_, rfl⟩
  obtain ⟨sz, hsz⟩ : ∃ k, k = hasR 8 z := ⟨_, rfl⟩
  rw [← hb, ← hkd, ← hsz] at C
  rw [← hb]
  clear hb hkd hsz e0
  go_enter Tryz.func87, Tryz.ntmps87
  go_wp2_with (go_at_call 94; (with_reducible refine C.out.mono ?_); rintro e W1 ⟨rfl, hw1⟩; rw [hw1]; clear hw1)
  go_ret
  exact ⟨rfl, rfl⟩
theorem istype_any (k : Int) (hk : Z64 k) (w : World) : Calls Tryz.prog 85 #[.int .i64 k] w fun e w' => e = .returned (.bool (!decide (k < 1 ∨ 22 < k))) ∧ w' = w := by
  by_cases h1 : k < 1
  · have hd : decide (k < 1 ∨ 22 < k) = true := decide_eq_true (.inl h1)
    rw [hd]
    go_enter Tryz.func85, Tryz.ntmps85
    go_wp2
    go_ret
    exact ⟨rfl, rfl⟩
  · by_cases h2 : 22 < k
    · have hd : decide (k < 1 ∨ 22 < k) = true := decide_eq_true (.inr h2)
      rw [hd]
      have e1 : decide (k ≤ 22) = false := decide_eq_false (by omega)
      clear hd
      go_enter Tryz.func85, Tryz.ntmps85
      go_wp2
      go_ret
      exact ⟨rfl, rfl⟩
    · have hd : decide (k < 1 ∨ 22 < k) = false := decide_eq_false (by omega)
      rw [hd]
      have e1 : decide (k ≤ 22) = true := decide_eq_true (by omega)
      clear hd
      go_enter Tryz.func85, Tryz.ntmps85
      go_wp2
      go_ret
      exact ⟨rfl, rfl⟩
theorem words_set {k j : Nat} (h : k < os.length) (hj : j < (os.getD k default).f.length) (z : Int) : wordsL (os.set k (setF (os.getD k default) j z)) = (wordsL os).set (atO os k + 1 + j) z := by
  have e1 : os = os.take k ++ (os.getD k default :: os.drop (k + 1)) := by
    have := (List.take_append_drop k os).symm
    rw [List.drop_eq_getElem_cons h] at this
    rw [List.getD_eq_getElem?_getD, List.getElem?_eq_getElem h]; exact this
  have hkl : (os.take k).length = k := by rw [List.length_take]; omega
  have e2 : os.set k (setF (os.getD k default) j z) = os.take k ++ (setF (os.getD k default) j z :: os.drop (k + 1)) := by
    rw [List.set_eq_take_append_cons_drop, if_pos h]
  have hat : (wordsL (os.take k)).length = atO os k := by rw [wordsL_length]; rfl
  rw [e2]
  conv => rhs; rw [e1]
  rw [wordsL_append, wordsL_append, List.set_append_right _ _ (by rw [hat]; unfold atO; rw [← e1]; omega)]
  have hat2 : atO (os.take k ++ (os.getD k default :: os.drop (k + 1))) k = atO os k := by rw [← e1]
  rw [hat2, hat, show atO os k + 1 + j - atO os k = j + 1 by omega]
  simp only [wordsL, List.set_cons_succ, setF, List.length_set]
  rw [List.set_append_left _ _ hj]
end
end Go.Proofs.YtdekkieajffblaaGreat

set_option linter.unusedVariables false
set_option linter.unusedSimpArgs false
set_option maxRecDepth 100000
namespace Go.Proofs.YtdekkieajffblaaGreat
open Go.RowKit

theorem q_any_at {fl : List Int} {q : Nat} (hq : q < fl.length) (hz : isHd (fl.getD q 0) = true) : fl.any isHd = true :=
  List.any_eq_true.2 ⟨_, getD_in_f hq, hz⟩
set_option maxHeartbeats 2000000 in
theorem index_any (ao : Option Addr) (n cap : Nat) (fl : List Int) (w : World) (R : URow w ao n cap fl) :
    Calls Tryz.prog 106 #[.slice ao n cap, .func (.func 87) #[] #[]] w fun e w' => ∃ r : Int, e = .returned (.int .i64 r) ∧ fl.any isHd = decide (0 ≤ r) ∧ w' = w := by
  have HR := hid R
  have hf := R.fits
  have hm := R.most
  have hln := R.len
  unfold maxLen at hm
  clear R
  go_enter Tryz.func106, Tryz.ntmps106
  go_wp2_with fail
  go_loop [8] (fun i => ∃ q : Nat, q ≤ n ∧ i = .int .i64 q ∧ Hid ((fl.take q).any isHd = false)) (fun i => n - (intOf i).toNat)
  case atStart => exact ⟨0, Nat.zero_le _, rfl, by simp [Hid]⟩
  case round =>
    obtain ⟨q, hq, rfl, hI⟩ := hrel
    by_cases hlt : q < n
    · obtain ⟨b, o, rfl, hlb, hcc⟩ := HR.out.some (by omega)
      have hc := hcc q hlt
      have hzu := HR.out.bd _ (getD_in_f (l := fl) (i := q) (by omega))
      obtain ⟨z, hz⟩ : ∃ z, z = fl.getD q 0 := ⟨_, rfl⟩
      rw [← hz] at hc hzu
      have HZ := hid hz
      have C := hid (q_ishead z hzu w)
      obtain ⟨bb, hbb⟩ : ∃ x, x = isHd z := ⟨_, rfl⟩
      rw [← hbb] at C
      have HBB := hid hbb
      clear hcc hz hzu hbb
      cases bb
      · go_wp2_with (go_at_call 87; (with_reducible refine C.out.mono ?_); rintro e W1 ⟨rfl, hw1⟩; rw [hw1]; clear hw1)
        exact ⟨⟨q + 1, by omega, by go_num, any_take hI.out (by omega) (by rw [← HZ.out]; exact HBB.out.symm)⟩, by simp [intOf] <;> omega⟩
      · go_wp2_with (go_at_call 87; (with_reducible refine C.out.mono ?_); rintro e W1 ⟨rfl, hw1⟩; rw [hw1]; clear hw1)
        go_ret
        exact ⟨q, rfl, by rw [q_any_at (q := q) (by omega) (by rw [← HZ.out]; exact HBB.out.symm), decide_eq_true (by omega)], rfl⟩
    · obtain rfl : q = n := by omega
      go_wp2_with fail
      go_ret
      refine ⟨-1, rfl, ?_, rfl⟩
      have := hI.out
      rw [List.take_of_length_le (by omega)] at this
      rw [this]; rfl
theorem contains_any (ao : Option Addr) (n cap : Nat) (fl : List Int) (w : World) (R : URow w ao n cap fl) :
    Calls Tryz.prog 86 #[.slice ao n cap, .func (.func 87) #[] #[]] w fun e w' => e = .returned (.bool (fl.any isHd)) ∧ w' = w := by
  have C := hid (index_any ao n cap fl w R)
  clear R
  obtain ⟨b, hb⟩ : ∃ b, b = fl.any isHd := ⟨_, rfl⟩
  rw [← hb] at C ⊢
  clear hb
  go_enter Tryz.func86, Tryz.ntmps86
  go_wp2_with (go_at_call 106; (with_reducible refine C.out.mono ?_); rintro e W1 ⟨r, rfl, hr, hw1⟩; rw [hw1]; clear hw1; have HR := hid hr; clear hr)
  go_ret
  refine ⟨?_, rfl⟩
  rw [HR.out]; rfl
section
variable {B gh gw n : Nat} {N : Int} {ws rest : List Int} {F : Nat → Prop} {w : World}
theorem layfull (kind size : Int) (hs : N - (ws.length : Nat) ≤ size) (h : PO B gh gw n N ws rest F w) :
    Calls Tryz.prog 88 #[.pointer (some ⟨gh, 0, none⟩), .int .i64 kind, .int .i64 size] w fun e w' => e = .returned (.tuple #[.int .u64 0, .slice none 0 0, .int .i64 3]) ∧ Below w.heap.size w w' := by
  have C := hid (proom_any w h.shut)
  have e1 : decide (N - (ws.length : Nat) ≤ size) = true := decide_eq_true hs
  clear h
  go_enter Tryz.func88, Tryz.ntmps88
  go_wp2_with (go_at_call 107; (with_reducible refine C.out.mono ?_); rintro e W1 ⟨rfl, b1⟩; have HB := hid b1; clear b1)
  go_ret3
  exact ⟨rfl, HB.out⟩
/-- What laying a head leaves. -/
def LayPost (gh gw n u size : Nat) (pt hd : Int) (ws rest : List Int) (F : Nat → Prop) (w : World) (e : Ending) (w' : World) : Prop :=
  (∃ off cap, e = .returned (.tuple #[.int .u64 pt, .slice (some ⟨gw, off, none⟩) size cap, .int .i64 0]) ∧ (0 < size → off = u + 1) ∧ size ≤ cap ∧ cap ≤ 4194304) ∧
    w'.heap[gh]? = some (.cells #[.slice (some ⟨gw, 0, none⟩) n n, .int .i64 ((u + 1 + size : Nat) : Int)] 65 (0, 0)) ∧ w'.heap[gw]? = some (.cells (uz (ws ++ (hd :: rest.tail))).toArray 35 (0, 0)) ∧ Mod F w w'
set_option maxHeartbeats 4000000 in
theorem layhead (kind : Int) (size : Nat) (hk : 1 ≤ kind ∧ kind ≤ 22) (hs : (size : Int) < N - (ws.length : Nat)) (h : PO B gh gw n N ws rest F w) :
    Calls Tryz.prog 88 #[.pointer (some ⟨gh, 0, none⟩), .int .i64 kind, .int .i64 size] w fun e w' => LayPost gh gw n ws.length size (wordR 2 (ws.length : Nat) 0) (wordR 8 size kind) ws rest F w e w' := by
  have HP := hid h
  have C := hid (proom_any w h.shut)
  have e1 : decide (N - (ws.length : Nat) ≤ (size : Int)) = false := decide_eq_false (by omega)
  have hbd := h.bd
  have hnn := h.nn
  subst hnn
  have hul := h.used_le
  have CH := hid (fun wx => head_any (size : Int) kind (by unfold Z64; omega) (by unfold Z64; omega) wx)
  have CP := hid (fun wx => ptr_any (ws.length : Nat) (by unfold Z64; omega) wx)
  obtain ⟨hd, hhd⟩ : ∃ x, x = wordR 8 size kind := ⟨_, rfl⟩
  obtain ⟨pt, hpt⟩ : ∃ x, x = wordR 2 (ws.length : Nat) 0 := ⟨_, rfl⟩
  rw [← hhd] at CH ⊢
  rw [← hpt] at CP ⊢
  obtain ⟨b1, hb1⟩ : ∃ x, x = rightB 8 size kind := ⟨_, rfl⟩
  obtain ⟨b2, hb2⟩ : ∃ x, x = rightB 2 (ws.length : Nat) 0 := ⟨_, rfl⟩
  rw [← hb1] at CH
  rw [← hb2] at CP
  have hne := h.ne
  have HNE := hid hne
  obtain ⟨u, hu⟩ : ∃ u, u = ws.length := ⟨_, rfl⟩
  have hrow : Hid (∀ wx : World, wx.heap[gw]? = some (.cells (uz (ws ++ rest)).toArray 35 (0, 0)) → (wx.setCell ⟨gw, u, none⟩ (.int .u64 hd)).heap[gw]? = some (.cells (uz (ws ++ (hd :: rest.tail))).toArray 35 (0, 0))) := fun wx hwx => by
    rw [blk_set (i := u) hwx (.int .u64 hd)]
    have hl := h.len
    rw [List.length_append] at hl
    cases rest with
    | nil => simp at hl; omega
    | cons y r =>
      have : (uz (ws ++ y :: r)).toArray.setIfInBounds u (.int .u64 hd) = (uz (ws ++ (hd :: r))).toArray := by
        rw [hu]
        simp [uz, List.map_append, List.set_append_right]
      rw [this]; rfl
  have HU := hid hu
  rw [← hu] at C CP e1 hs hbd hul ⊢
  clear h hhd hpt hb1 hb2 hu hne
  go_enter Tryz.func88, Tryz.ntmps88
  go_wp2_with (first
    | (go_at_call 107; (with_reducible refine C.out.mono ?_); rintro e W1 ⟨rfl, b1⟩; have HB := hid b1; have HP1 := hid (HP.out.on b1); have c0 := HP1.out.c0; have c1 := HP1.out.c1; rw [← HU.out] at c1; clear b1)
    | (go_at_call 108; (with_reducible refine (CP.out _).mono ?_); rintro e W2 ⟨rfl, hw2⟩; rw [hw2]; clear hw2))
  have HP2 := hid (HP1.out.on (Bd W1 1))
  have hun : u < n := by omega
  have hun2 : (u : Int) < (n : Int) := by omega
  have hS0 : W1.drew.cell? ⟨gh, 0, none⟩ = some (.slice (some ⟨gw, 0, none⟩) n n) ∧ W1.drew.cell? ⟨gh, 1, none⟩ = some (.int .i64 (u : Nat)) := ⟨c0, c1⟩
  refine wp_region_held_drew (S := fun wx => wx.cell? ⟨gh, 0, none⟩ = some (.slice (some ⟨gw, 0, none⟩) n n) ∧ wx.cell? ⟨gh, 1, none⟩ = some (.int .i64 (u : Nat))) (by kernel_rfl) hS0 (fun hHeld => ?_)
  refine htake 0 (some 25) (.pointer (some ⟨gh, 0, none⟩)) rfl rfl (by kernel_rfl) (by kernel_rfl) (by kernel_rfl) (fun _ _ _ h => h) (Or.inl ⟨by rfl, fun wx hSw => ?_⟩) (by assumption) ?_
  · go_simp
  simp only [Act.put, List.setIfInBounds_toArray, List.set_cons_zero, List.set_cons_succ]
  refine htake 1 (some 26) (.pointer (some ⟨gh, 0, none⟩)) rfl rfl (by kernel_rfl) (by kernel_rfl) (by kernel_rfl) (fun _ _ _ h => h) (Or.inl ⟨by rfl, fun wx hSw => ?_⟩) (by assumption) ?_
  · go_simp
  simp only [Act.put, List.setIfInBounds_toArray, List.set_cons_zero, List.set_cons_succ]
  refine htake 2 (some 27) (.pointer (some ⟨gh, 0, none⟩)) rfl rfl (by kernel_rfl) (by kernel_rfl) (by kernel_rfl) (fun _ _ _ h => h) (Or.inl ⟨by rfl, fun wx hSw => ?_⟩) (by assumption) ?_
  · go_simp
  simp only [Act.put, List.setIfInBounds_toArray, List.set_cons_zero, List.set_cons_succ]
  refine htake 3 (some 28) (.slice (some ⟨gw, 0, none⟩) n n) rfl rfl (by kernel_rfl) (by kernel_rfl) (by kernel_rfl) (fun _ _ _ h => h) (Or.inl ⟨by rfl, fun wx hSw => ?_⟩) (by assumption) ?_
  · obtain ⟨s1, s2⟩ := hSw; go_simp
  simp only [Act.put, List.setIfInBounds_toArray, List.set_cons_zero, List.set_cons_succ]
  refine htake 4 (some 29) (.pointer (some ⟨gh, 0, none⟩)) rfl rfl (by kernel_rfl) (by kernel_rfl) (by kernel_rfl) (fun _ _ _ h => h) (Or.inl ⟨by rfl, fun wx hSw => ?_⟩) (by assumption) ?_
  · go_simp
  simp only [Act.put, List.setIfInBounds_toArray, List.set_cons_zero, List.set_cons_succ]
  refine htake 5 (some 30) (.pointer (some ⟨gh, 0, none⟩)) rfl rfl (by kernel_rfl) (by kernel_rfl) (by kernel_rfl) (fun _ _ _ h => h) (Or.inl ⟨by rfl, fun wx hSw => ?_⟩) (by assumption) ?_
  · go_simp
  simp only [Act.put, List.setIfInBounds_toArray, List.set_cons_zero, List.set_cons_succ]
  refine htake 6 (some 31) (.pointer (some ⟨gh, 1, none⟩)) rfl rfl (by kernel_rfl) (by kernel_rfl) (by kernel_rfl) (fun _ _ _ h => h) (Or.inl ⟨by rfl, fun wx hSw => ?_⟩) (by assumption) ?_
  · go_simp
  simp only [Act.put, List.setIfInBounds_toArray, List.set_cons_zero, List.set_cons_succ]
  refine htake 7 (some 32) (.int .i64 (u : Nat)) rfl rfl (by kernel_rfl) (by kernel_rfl) (by kernel_rfl) (fun _ _ _ h => h) (Or.inl ⟨by rfl, fun wx hSw => ?_⟩) (by assumption) ?_
  · obtain ⟨s1, s2⟩ := hSw; go_simp
  simp only [Act.put, List.setIfInBounds_toArray, List.set_cons_zero, List.set_cons_succ]
  refine htake 8 (some 33) (.int .i64 kind) rfl rfl (by kernel_rfl) (by kernel_rfl) (by kernel_rfl) (fun _ _ _ h => h) (Or.inl ⟨by rfl, fun wx hSw => ?_⟩) (by assumption) ?_
  · go_simp
  simp only [Act.put, List.setIfInBounds_toArray, List.set_cons_zero, List.set_cons_succ]
  refine htake 9 (some 34) (.int .i64 (size : Nat)) rfl rfl (by kernel_rfl) (by kernel_rfl) (by kernel_rfl) (fun _ _ _ h => h) (Or.inl ⟨by rfl, fun wx hSw => ?_⟩) (by assumption) ?_
  · go_simp
  simp only [Act.put, List.setIfInBounds_toArray, List.set_cons_zero, List.set_cons_succ]
  clear hHeld c0 c1
  refine hone 10 _ rfl (by kernel_rfl) (fun K hK => ?_)
  go_simp
  go_at_call 109
  refine (CH.out _).mono ?_
  rintro e W3 ⟨rfl, hw3⟩
  rw [hw3]
  clear hw3 W3
  refine hK.out _ _ hS0 (fun hHeld => ?_)
  clear hK K
  try simp only [Act.put, List.setIfInBounds_toArray, List.set_cons_zero, List.set_cons_succ]
  refine htake 11 (some 24) (.tuple #[.int .u64 hd, .bool b1]) rfl rfl (by kernel_rfl) (by kernel_rfl) (by kernel_rfl) (fun _ _ _ h => h) (Or.inl ⟨by rfl, fun wx hSw => ?_⟩) (by assumption) ?_
  · go_simp
  simp only [Act.put, List.setIfInBounds_toArray, List.set_cons_zero, List.set_cons_succ]
  refine htake 12 (some 36) (.int .u64 hd) rfl rfl (by kernel_rfl) (by kernel_rfl) (by kernel_rfl) (fun _ _ _ h => h) (Or.inl ⟨by rfl, fun wx hSw => ?_⟩) (by assumption) ?_
  · go_simp
  simp only [Act.put, List.setIfInBounds_toArray, List.set_cons_zero, List.set_cons_succ]
  refine htake 13 (some 37) (.bool b1) rfl rfl (by kernel_rfl) (by kernel_rfl) (by kernel_rfl) (fun _ _ _ h => h) (Or.inl ⟨by rfl, fun wx hSw => ?_⟩) (by assumption) ?_
  · go_simp
  simp only [Act.put, List.setIfInBounds_toArray, List.set_cons_zero, List.set_cons_succ]
  refine htake 14 (some 38) (.pointer (some ⟨gw, u, none⟩)) rfl rfl (by kernel_rfl) (by kernel_rfl) (by kernel_rfl) (fun _ _ _ h => h) (Or.inl ⟨by rfl, fun wx hSw => ?_⟩) (by assumption) ?_
  · go_simp
  simp only [Act.put, List.setIfInBounds_toArray, List.set_cons_zero, List.set_cons_succ]
  have cw := HP1.out.word (i := u) (by omega)
  have fw := blk_free HP1.out.row u
  refine hone 15 _ rfl (by kernel_rfl) (fun K hK => ?_)
  go_simp
  refine hK.out _ _ ⟨?_, ?_⟩ (fun _ => ?_)
  · exact (World.cell?_of_block (w := W1) (a := ⟨gh, 0, none⟩) (Below.heap_setCell W1 ⟨gw, u, none⟩ (.int .u64 hd) gh HNE.out)).trans hS0.1
  · exact (World.cell?_of_block (w := W1) (a := ⟨gh, 1, none⟩) (Below.heap_setCell W1 ⟨gw, u, none⟩ (.int .u64 hd) gh HNE.out)).trans hS0.2
  clear hK K cw fw
  have hg3 : Hid ((W1.setCell ⟨gw, u, none⟩ (.int .u64 hd)).drew.heap[gh]? = some (.cells #[.slice (some ⟨gw, 0, none⟩) n n, .int .i64 (u : Nat)] 65 (0, 0))) := (Below.heap_setCell _ _ _ _ HNE.out).trans (by rw [HU.out]; exact HP1.out.box)
  have hr3 : Hid ((W1.setCell ⟨gw, u, none⟩ (.int .u64 hd)).drew.heap[gw]? = _) := hrow.out _ HP1.out.row
  have hm3 : Hid (Mod F w ((W1.setCell ⟨gw, u, none⟩ (.int .u64 hd)).drew)) := ((Mod.of_below F HB.out).setCell (p := ⟨gw, u, none⟩) (.inl ((HP.out.ff gw).2 (.inr rfl))) (.int .u64 hd)).trans (Mod.of_below F (Bd _ 1)) (fun b _ h => h)
  refine wpAnyH_done (by kernel_rfl) ?_ _
  obtain ⟨W3, hW3⟩ : ∃ W, W = (W1.setCell ⟨gw, u, none⟩ (.int .u64 hd)).drew := ⟨_, rfl⟩
  rw [← hW3] at hg3 hr3 hm3 ⊢
  clear hW3 hS0 hrow
  have c1 : W3.cell? ⟨gh, 1, none⟩ = some (.int .i64 (u : Nat)) := blk_cell hg3.out 1
  have f1 := blk_free hg3.out 1
  have hb4 : Hid ((W3.setCell ⟨gh, 1, none⟩ (.int .i64 (u + 1 + size))).heap[gh]? = some (.cells #[.slice (some ⟨gw, 0, none⟩) n n, .int .i64 (u + 1 + size)] 65 (0, 0))) := by
    unfold Hid
    rw [blk_set (i := 1) hg3.out]; rfl
  have d0 : (W3.setCell ⟨gh, 1, none⟩ (.int .i64 (u + 1 + size))).cell? ⟨gh, 0, none⟩ = some (.slice (some ⟨gw, 0, none⟩) n n) := blk_cell hb4.out 0
  have d1 : (W3.setCell ⟨gh, 1, none⟩ (.int .i64 (u + 1 + size))).cell? ⟨gh, 1, none⟩ = some (.int .i64 (u + 1 + size)) := blk_cell hb4.out 1
  go_wp2_with fail
  have ht : ((u : Int) + 1).toNat = u + 1 := by omega
  have ht2 : ((u : Int) + 1 + size).toNat = u + 1 + size := by omega
  have hend : Hid (∀ q, (W3.setCell ⟨gh, 1, none⟩ (.int .i64 (u + 1 + size))).heap[gh]? = some (.cells #[.slice (some ⟨gw, 0, none⟩) n n, .int .i64 ((u + 1 + size : Nat) : Int)] 65 (0, 0)) ∧ (W3.setCell ⟨gh, 1, none⟩ (.int .i64 (u + 1 + size))).heap[gw]? = some (.cells (uz (ws ++ (hd :: rest.tail))).toArray 35 (0, 0)) ∧ Mod F w ((W3.setCell ⟨gh, 1, none⟩ (.int .i64 (u + 1 + size))).drewN q)) := fun q =>
    ⟨hb4.out, (Below.heap_setCell W3 ⟨gh, 1, none⟩ (.int .i64 (u + 1 + size)) gw (fun e => HNE.out e.symm)).trans hr3.out, (hm3.out.setCell (p := ⟨gh, 1, none⟩) (.inl ((HP.out.ff gh).2 (.inl rfl))) (.int .i64 (u + 1 + size))).trans (Mod.of_below F (Bd _ _)) (fun b _ h => h)⟩
  have hbig : Hid (size ≤ n - (u + 1) ∧ n - (u + 1) ≤ 4194304) := by unfold Hid; omega
  by_cases hc : n ≤ u + 1
  · have hz : Hid (size = 0) := by unfold Hid; omega
    go_quiet (fail)
    go_wp2
    go_ret3
    exact ⟨⟨0, _, rfl, fun h => by have := hz.out; omega, by have := hz.out; omega, by omega⟩, hend.out _⟩
  · go_quiet (fail)
    go_wp2
    go_ret3
    exact ⟨⟨u + 1, _, rfl, fun _ => rfl, hbig.out⟩, hend.out _⟩
end
end Go.Proofs.YtdekkieajffblaaGreat
