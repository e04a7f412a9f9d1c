/-
  Walk: GcAll.
-/
import Derived.Test.YthgkonjglappjaaU12
set_option linter.unusedVariables false
set_option linter.unusedSimpArgs false
set_option maxRecDepth 100000
namespace Go.Proofs.Ythgkonjglappjaa
open Go.RowKit

theorem rep_get {n i : Nat} {b : Bool} : (List.replicate n b).getD i false = (decide (i < n) && b) := by
  rw [List.getD_eq_getElem?_getD, List.getElem?_replicate]
  split
  · rename_i h; simp [h]
  · rename_i h; simp [h]
theorem keep_rep (os : List Ob) (b : Bool) : keepL os (List.replicate os.length b) = if b then os else [] := by
  induction os with
  | nil => cases b <;> rfl
  | cons x l ih =>
    rw [List.length_cons, List.replicate_succ]
    cases b
    · simpa [keepL] using ih
    · simpa [keepL] using ih
theorem lv_ptrs {os : List Ob} (hu : usedL os ≤ 1099511627776) : lvL os (ptrsL os) = List.replicate os.length true := by
  refine (lv_all (by simp) (fun i hi => ?_) (fun r _ i hi => ?_) (fun i _ z _ j hj => ?_)).symm
  · rw [rep_get] at hi
    have h : i < os.length := by simpa using hi
    refine .root (r := wordR 2 (atO os i : Nat) 0) ?_ (find_ptr h hu)
    unfold ptrsL
    exact List.mem_map.2 ⟨i, List.mem_range.2 h, rfl⟩
  · rw [rep_get]; have := (findM_lt hi).1; simp [this]
  · rw [rep_get]; have := (findM_lt hj).1; simp [this]
theorem lv_nil (os : List Ob) : lvL os [] = List.replicate os.length false := by
  refine (lv_all (by simp) (fun i hi => ?_) (fun r hr => by cases hr) (fun i hi => ?_)).symm
  · rw [rep_get] at hi; simp at hi
  · rw [rep_get] at hi; simp at hi
theorem to_rep {os : List Ob} {k : Nat} (h : k ≤ os.length) : toM os (List.replicate os.length true) k = atO os k := by
  unfold toM atO
  rw [List.take_replicate, Nat.min_eq_left h]
  have := keep_rep (os.take k) true
  rw [List.length_take, Nat.min_eq_left h] at this
  rw [this]; rfl
theorem moved_rep {os : List Ob} (hu : usedL os ≤ 1099511627776) {z : Int} (hz : U64 z) : movedM os (List.replicate os.length true) z = z := by
  unfold movedM
  cases hf : findM os z with
  | none => rfl
  | some k =>
    have h1 := findM_lt hf
    simp only
    rw [rep_get]
    simp only [h1.1, decide_true, Bool.and_self, if_true]
    rw [to_rep (Nat.le_of_lt h1.1)]
    have h2 : (ofR z).1 = 2 := by
      unfold findM at hf
      split at hf
      · assumption
      · cases hf
    have h3 := place_word hz h2
    have h4 := at_lt h1.1
    unfold wordR wrdB
    rw [if_pos (by unfold rightB; simp; omega)]
    simp only [show (2 : Int) ≠ 1 from by decide, if_true, if_false]
    omega
theorem map_id' {l : List Int} {f : Int → Int} (h : ∀ z ∈ l, f z = z) : l.map f = l := by
  induction l with
  | nil => rfl
  | cons x l ih => rw [List.map_cons, h x List.mem_cons_self, ih (fun z hz => h z (List.mem_cons_of_mem _ hz))]
theorem coll_all {os : List Ob} (ho : OsOk os) (hu : usedL os ≤ 1099511627776) : collO os (lvL os (ptrsL os)) = os ∧ collR os (lvL os (ptrsL os)) (ptrsL os) = ptrsL os := by
  rw [lv_ptrs hu]
  constructor
  · unfold collO
    rw [keep_rep, if_pos rfl]
    have : ∀ x ∈ os, movOb os (List.replicate os.length true) x = x := fun x hx => by
      unfold movOb
      rw [map_id' (fun z hz => moved_rep hu (ho.uf x hx z hz))]
    clear hu ho
    generalize List.replicate os.length true = l at this
    have key : ∀ (a : List Ob), (∀ x ∈ a, movOb os l x = x) → a.map (movOb os l) = a := fun a => by
      induction a with
      | nil => intro _; rfl
      | cons x a ih => intro h; rw [List.map_cons, h x List.mem_cons_self, ih (fun y hy => h y (List.mem_cons_of_mem _ hy))]
    exact key os this
  · unfold collR
    exact map_id' (fun z hz => moved_rep hu (by unfold ptrsL at hz; obtain ⟨i, _, rfl⟩ := List.mem_map.1 hz; exact wordR_rng _ _ _))
theorem coll_nil (os : List Ob) : collO os (lvL os []) = [] := by
  rw [lv_nil]; unfold collO; rw [keep_rep]; rfl
theorem ptrs_length (os : List Ob) : (ptrsL os).length = os.length := by unfold ptrsL; simp
set_option maxHeartbeats 8000000 in
theorem gcAll_walk (ao : Option Addr) (n cap : Nat) (xs : List Oj) (w : World) (R : ORow w ao n cap xs) :
    Calls Try.prog 8 #[.slice ao n cap] w fun e w' => e = .returned (.bool true) ∧ Below w.heap.size w w' := by
  have Q : FRow w none 0 0 [] := ⟨rfl, Nat.le_refl _, by unfold maxLen; omega, fun _ => rfl, fun _ h => (by cases h), .inl rfl⟩
  have C0 := hid (fewg_any ao n cap xs none 0 0 [] w R Q)
  have CA := hid gawake_any
  obtain ⟨fb, hfb⟩ : ∃ b, b = fewG xs [] := ⟨_, rfl⟩
  rw [← hfb] at C0
  cases fb
  · clear hfb
    go_enter Try.func8, Try.ntmps8
    go_wp2_with (go_at_call 9; (refine C0.out.mono ?_); rintro e w9 ⟨rfl, hw9⟩; rw [hw9]; clear hw9)
    go_ret
    exact ⟨rfl, Below.refl _ _⟩
  have hus := made_used hfb.symm
  have C1 := hid (made_any ao n cap xs none 0 0 [] w R Q hfb.symm)
  clear hfb R Q
  obtain ⟨os, hos⟩ : ∃ os, os = madeL xs := ⟨_, rfl⟩
  rw [← hos] at hus C1
  clear hos
  have hol := len_le_used os
  go_enter Try.func8, Try.ntmps8
  go_wp2_with (first
    | (go_at_call 9; (refine C0.out.mono ?_); rintro e w9 ⟨rfl, hw9⟩; rw [hw9]; clear hw9)
    | (go_at_call 10; (refine C1.out.mono ?_); rintro e W1 ⟨v, F, g, vL, ls, ra, rc, rfl, hmx, hU, hra, b1⟩; obtain ⟨gh, rfl⟩ := hmx.ph.ptr; have HMX := hid hmx; have HB1 := hid b1; clear hmx hU hra b1))
  with_reducible refine (pobjects_any HMX.out.okP W1 HMX.out.ph).mono ?_
  rintro e W2 ⟨oa, oc, rfl, hU2, ha2, b2⟩
  have HM2 := hid (HMX.out.on b2)
  have HU2 := hid hU2
  have HGF : Hid (∀ a, oa = some a → ¬ F a.block) := fun a ha e => by have h1 := ha2 a ha; have h2 := (HMX.out.ph.ge _ e).2; omega
  have HB2 := hid (Bt HB1.out b2)
  clear hU2 ha2 b2
  have HCO := hid (coll_all HMX.out.okP (by omega))
  have CC := hid (pcollect_any HM2.out.okP oa os.length oc (ptrsL os) W2 HM2.out.ph HU2.out HM2.out.bw HGF.out (by omega))
  rw [HCO.out.1, HCO.out.2] at CC
  go_wp2_with fail
  with_reducible refine CC.out.mono ?_
  rintro e W3 ⟨sa, sc, rfl, hU3, _, F3, hp3, hf3, _, hm3⟩
  have HP3 := hid hp3
  have HS3 := hid hU3
  have HU3 := hid (HU2.out.mod hm3 HGF.out)
  have HRH3 := hid (HM2.out.rh.mod hm3 (fun b hb hf => HM2.out.dj b hf hb))
  have HB3 : Hid (Below w.heap.size w W3) := HB2.out.trans (hm3.below (fun b hb => (HM2.out.ph.ge b hb).1) HM2.out.bw)
  clear hU3 hp3 hf3 hm3 CC
  have CW : Hid (∀ wx, Below W3.heap.size W3 wx → _) := fun wx hb => words_any wx (HP3.out.keep (fun b hf => hb.block b (HP3.out.ge b hf).2)) (by rw [wordsL_length]; omega)
  have CX : Hid (∀ wx, Below W3.heap.size W3 wx → Calls Try.prog 15 #[.pointer (some ⟨g, 0, none⟩)] wx fun e w' => ∃ ao cap, e = .returned (.slice ao (wordsL os).length cap) ∧ URow w' ao (wordsL os).length cap (wordsL os) ∧ Below wx.heap.size wx w') := fun wx hb => by
    refine (rwords_any wx (HRH3.out.on hb)).mono ?_
    rintro e w' ⟨ao, cap, rfl, h1, _, h3⟩
    rw [HMX.out.mp, ← wordsL_length] at h1 ⊢
    exact ⟨ao, cap, rfl, h1, h3⟩
  have CS : Hid (∀ l a1 n c1 a2 c2 wx, URow wx a1 n c1 l → URow wx a2 n c2 l → Calls Try.prog 13 #[.slice a1 n c1, .slice a2 n c2] wx fun e w' => e = .returned (.bool true) ∧ Below wx.heap.size wx w') := fun l a1 n c1 a2 c2 wx h1 h2 => by
    have := samew_any a1 _ c1 _ a2 _ c2 _ wx h1 h2
    rw [decide_eq_true rfl] at this; exact this
  have CN : Hid (∀ wx F', PH w.heap.size (.pointer (some ⟨gh, 0, none⟩)) 4000 (wordsL os) F' wx → w.heap.size ≤ wx.heap.size → Calls Try.prog 11 #[.pointer (some ⟨gh, 0, none⟩), .slice none 0 0] wx fun e w' => ∃ ao cap, e = .returned (.slice ao 0 cap) ∧ ∃ F4, PH w.heap.size (.pointer (some ⟨gh, 0, none⟩)) 4000 [] F4 w' ∧ Below w.heap.size wx w') := fun wx F' h hB => by
    refine (pcollect_any HMX.out.okP none 0 0 [] wx h ⟨rfl, Nat.le_refl _, by unfold maxLen; omega, fun _ => rfl, fun _ h => (by cases h), .inl rfl⟩ hB (fun a ha => by cases ha) (by omega)).mono ?_
    rintro e w' ⟨ao, cap, rfl, _, _, F4, h1, _, _, h4⟩
    rw [coll_nil] at h1
    exact ⟨ao, cap, rfl, F4, h1, h4.below (fun b hb => (h.ge b hb).1) hB⟩
  obtain ⟨wl, hwl⟩ : ∃ l, l = (wordsL os).length := ⟨_, rfl⟩
  rw [← hwl] at CW CX
  clear hwl
  go_wp2_with fail
  with_reducible refine (CS.out _ _ _ _ _ _ _ HS3.out HU3.out).mono ?_
  rintro e W4 ⟨rfl, b4⟩
  have HB4 := hid b4
  clear b4
  go_wp2_with (first
    | (go_at_call 14; (with_reducible refine (CW.out _ HB4.out).mono ?_); rintro e W6 ⟨a6, c6, rfl, hu6, _, b6⟩; have HB6 := hid (Bt HB4.out b6); have HU6 := hid hu6; clear b6 hu6)
    | (go_at_call 15; (with_reducible refine (CX.out _ HB6.out).mono ?_); rintro e W7 ⟨a7, c7, rfl, hu7, b7⟩; have HB7 := hid (Bt HB6.out b7); have HU7 := hid hu7; have HU6b := hid (HU6.out.on b7); clear b7 hu7))
  with_reducible refine (CS.out _ _ _ _ _ _ _ HU6b.out HU7.out).mono ?_
  rintro e W8 ⟨rfl, b8⟩
  have HB8 := hid (Bt HB7.out b8)
  have HP8 := hid (HP3.out.keep (fun b hf => HB8.out.block b (HP3.out.ge b hf).2))
  have HB9 := hid (Bt HB3.out HB8.out)
  clear b8
  have CQ := hid (CN.out W8 F3 HP8.out HB9.out.size)
  go_wp2_with (first
    | (go_at_call 11; (with_reducible refine CQ.out.mono ?_); rintro e W10 ⟨na, nc, rfl, F4, hp10, b10⟩; have HP10 := hid hp10; have HB10 := hid (HB9.out.trans b10); have C10 := hid (pused_any W10 hp10); clear hp10 b10)
    | (go_at_call 26; (with_reducible refine C10.out.mono ?_); rintro e W11 ⟨rfl, b11⟩; have HB11 := hid (Bt HB10.out b11); clear b11)
    | (go_at_call 16; (refine (CA.out _).mono ?_); rintro e w9 ⟨rfl, b9⟩))
  all_goals go_ret
  all_goals exact ⟨rfl, Bt HB11.out b9⟩
end Go.Proofs.Ythgkonjglappjaa
