/-
  The program's heap: is a field a head; laying a head.
-/
import Derived.Test.YtdekkieajffblaaV9b
set_option linter.unusedVariables false
set_option linter.unusedSimpArgs false
set_option maxRecDepth 100000
namespace Go.Proofs.Ytdekkieajffblaa
open Go.RowKit

theorem q_any_at {fl : List Int} {q : Nat} (hq : q < fl.length) (hz : isHd (fl.getD q 0) = true) : fl.any isHd = true :=
  List.any_eq_true.2 ⟨_, getD_in_f hq, hz⟩
set_option maxHeartbeats 2000000 in
theorem index_any (ao : Option Addr) (n cap : Nat) (fl : List Int) (w : World) (R : URow w ao n cap fl) :
    Calls Try.prog 94 #[.slice ao n cap, .func (.func 78) #[] #[]] w fun e w' => ∃ r : Int, e = .returned (.int .i64 r) ∧ fl.any isHd = decide (0 ≤ r) ∧ w' = w := by
  have HR := hid R
  have hf := R.fits
  have hm := R.most
  have hln := R.len
  unfold maxLen at hm
  clear R
  go_enter Try.func94, Try.ntmps94
  go_wp2_with fail
  go_loop [8] (fun i => ∃ q : Nat, q ≤ n ∧ i = .int .i64 q ∧ Hid ((fl.take q).any isHd = false)) (fun i => n - (intOf i).toNat)
  case atStart => exact ⟨0, Nat.zero_le _, rfl, by simp [Hid]⟩
  case round =>
    obtain ⟨q, hq, rfl, hI⟩ := hrel
    by_cases hlt : q < n
    · obtain ⟨b, o, rfl, hlb, hcc⟩ := HR.out.some (by omega)
      have hc := hcc q hlt
      have hzu := HR.out.bd _ (getD_in_f (l := fl) (i := q) (by omega))
      obtain ⟨z, hz⟩ : ∃ z, z = fl.getD q 0 := ⟨_, rfl⟩
      rw [← hz] at hc hzu
      have HZ := hid hz
      have C := hid (q_ishead z hzu w)
      obtain ⟨bb, hbb⟩ : ∃ x, x = isHd z := ⟨_, rfl⟩
      rw [← hbb] at C
      have HBB := hid hbb
      clear hcc hz hzu hbb
      cases bb
      · go_wp2_with (go_at_call 78; (with_reducible refine C.out.mono ?_); rintro e W1 ⟨rfl, hw1⟩; rw [hw1]; clear hw1)
        exact ⟨⟨q + 1, by omega, by go_num, any_take hI.out (by omega) (by rw [← HZ.out]; exact HBB.out.symm)⟩, by simp [intOf] <;> omega⟩
      · go_wp2_with (go_at_call 78; (with_reducible refine C.out.mono ?_); rintro e W1 ⟨rfl, hw1⟩; rw [hw1]; clear hw1)
        go_ret
        exact ⟨q, rfl, by rw [q_any_at (q := q) (by omega) (by rw [← HZ.out]; exact HBB.out.symm), decide_eq_true (by omega)], rfl⟩
    · obtain rfl : q = n := by omega
      go_wp2_with fail
      go_ret
      refine ⟨-1, rfl, ?_, rfl⟩
      have := hI.out
      rw [List.take_of_length_le (by omega)] at this
      rw [this]; rfl
theorem contains_any (ao : Option Addr) (n cap : Nat) (fl : List Int) (w : World) (R : URow w ao n cap fl) :
    Calls Try.prog 77 #[.slice ao n cap, .func (.func 78) #[] #[]] w fun e w' => e = .returned (.bool (fl.any isHd)) ∧ w' = w := by
  have C := hid (index_any ao n cap fl w R)
  clear R
  obtain ⟨b, hb⟩ : ∃ b, b = fl.any isHd := ⟨_, rfl⟩
  rw [← hb] at C ⊢
  clear hb
  go_enter Try.func77, Try.ntmps77
  go_wp2_with (go_at_call 94; (with_reducible refine C.out.mono ?_); rintro e W1 ⟨r, rfl, hr, hw1⟩; rw [hw1]; clear hw1; have HR := hid hr; clear hr)
  go_ret
  refine ⟨?_, rfl⟩
  rw [HR.out]; rfl
section
variable {B gh gw n : Nat} {N : Int} {ws rest : List Int} {F : Nat → Prop} {w : World}
theorem layfull (kind size : Int) (hs : N - (ws.length : Nat) ≤ size) (h : PO B gh gw n N ws rest F w) :
    Calls Try.prog 79 #[.pointer (some ⟨gh, 0, none⟩), .int .i64 kind, .int .i64 size] w fun e w' => e = .returned (.tuple #[.int .u64 0, .slice none 0 0, .int .i64 3]) ∧ Below w.heap.size w w' := by
  have C := hid (proom_any w h.shut)
  have e1 : decide (N - (ws.length : Nat) ≤ size) = true := decide_eq_true hs
  clear h
  go_enter Try.func79, Try.ntmps79
  go_wp2_with (go_at_call 18; (with_reducible refine C.out.mono ?_); rintro e W1 ⟨rfl, b1⟩; have HB := hid b1; clear b1)
  go_ret3
  exact ⟨rfl, HB.out⟩
/-- What laying a head leaves. -/
def LayPost (gh gw n u size : Nat) (pt hd : Int) (ws rest : List Int) (F : Nat → Prop) (w : World) (e : Ending) (w' : World) : Prop :=
  (∃ off cap, e = .returned (.tuple #[.int .u64 pt, .slice (some ⟨gw, off, none⟩) size cap, .int .i64 0]) ∧ (0 < size → off = u + 1) ∧ size ≤ cap ∧ cap ≤ 4194304) ∧
    w'.heap[gh]? = some (.cells #[.slice (some ⟨gw, 0, none⟩) n n, .int .i64 ((u + 1 + size : Nat) : Int)] 59 (0, 0)) ∧ w'.heap[gw]? = some (.cells (uz (ws ++ (hd :: rest.tail))).toArray 39 (0, 0)) ∧ Mod F w w'
set_option maxHeartbeats 4000000 in
theorem layhead (kind : Int) (size : Nat) (hk : 1 ≤ kind ∧ kind ≤ 22) (hs : (size : Int) < N - (ws.length : Nat)) (h : PO B gh gw n N ws rest F w) :
    Calls Try.prog 79 #[.pointer (some ⟨gh, 0, none⟩), .int .i64 kind, .int .i64 size] w fun e w' => LayPost gh gw n ws.length size (wordR 2 (ws.length : Nat) 0) (wordR 8 size kind) ws rest F w e w' := by
  have HP := hid h
  have C := hid (proom_any w h.shut)
  have e1 : decide (N - (ws.length : Nat) ≤ (size : Int)) = false := decide_eq_false (by omega)
  have hbd := h.bd
  have hnn := h.nn
  subst hnn
  have hul := h.used_le
  have CH := hid (fun wx => head_any (size : Int) kind (by unfold Z64; omega) (by unfold Z64; omega) wx)
  have CP := hid (fun wx => ptr_any (ws.length : Nat) (by unfold Z64; omega) wx)
  obtain ⟨hd, hhd⟩ : ∃ x, x = wordR 8 size kind := ⟨_, rfl⟩
  obtain ⟨pt, hpt⟩ : ∃ x, x = wordR 2 (ws.length : Nat) 0 := ⟨_, rfl⟩
  rw [← hhd] at CH ⊢
  rw [← hpt] at CP ⊢
  obtain ⟨b1, hb1⟩ : ∃ x, x = rightB 8 size kind := ⟨_, rfl⟩
  obtain ⟨b2, hb2⟩ : ∃ x, x = rightB 2 (ws.length : Nat) 0 := ⟨_, rfl⟩
  rw [← hb1] at CH
  rw [← hb2] at CP
  have hne := h.ne
  have HNE := hid hne
  obtain ⟨u, hu⟩ : ∃ u, u = ws.length := ⟨_, rfl⟩
  have hrow : Hid (∀ wx : World, wx.heap[gw]? = some (.cells (uz (ws ++ rest)).toArray 39 (0, 0)) → (wx.setCell ⟨gw, u, none⟩ (.int .u64 hd)).heap[gw]? = some (.cells (uz (ws ++ (hd :: rest.tail))).toArray 39 (0, 0))) := fun wx hwx => by
    rw [blk_set (i := u) hwx (.int .u64 hd)]
    have hl := h.len
    rw [List.length_append] at hl
    cases rest with
    | nil => simp at hl; omega
    | cons y r =>
      have : (uz (ws ++ y :: r)).toArray.setIfInBounds u (.int .u64 hd) = (uz (ws ++ (hd :: r))).toArray := by
        rw [hu]
        simp [uz, List.map_append, List.set_append_right]
      rw [this]; rfl
  have HU := hid hu
  rw [← hu] at C CP e1 hs hbd hul ⊢
  clear h hhd hpt hb1 hb2 hu hne
  go_enter Try.func79, Try.ntmps79
  go_wp2_with (first
    | (go_at_call 18; (with_reducible refine C.out.mono ?_); rintro e W1 ⟨rfl, b1⟩; have HB := hid b1; have HP1 := hid (HP.out.on b1); have c0 := HP1.out.c0; have c1 := HP1.out.c1; rw [← HU.out] at c1; clear b1)
    | (go_at_call 95; (with_reducible refine (CP.out _).mono ?_); rintro e W2 ⟨rfl, hw2⟩; rw [hw2]; clear hw2))
  have HP2 := hid (HP1.out.on (Bd W1 1))
  have hun : u < n := by omega
  have hun2 : (u : Int) < (n : Int) := by omega
  have hS0 : W1.drew.cell? ⟨gh, 0, none⟩ = some (.slice (some ⟨gw, 0, none⟩) n n) ∧ W1.drew.cell? ⟨gh, 1, none⟩ = some (.int .i64 (u : Nat)) := ⟨c0, c1⟩
  refine wp_region_held_drew (S := fun wx => wx.cell? ⟨gh, 0, none⟩ = some (.slice (some ⟨gw, 0, none⟩) n n) ∧ wx.cell? ⟨gh, 1, none⟩ = some (.int .i64 (u : Nat))) (by kernel_rfl) hS0 (fun hHeld => ?_)
  refine htake 0 (some 25) (.pointer (some ⟨gh, 0, none⟩)) rfl rfl (by kernel_rfl) (by kernel_rfl) (by kernel_rfl) (fun _ _ _ h => h) (Or.inl ⟨by rfl, fun wx hSw => ?_⟩) (by assumption) ?_
  · go_simp
  simp only [Act.put, List.setIfInBounds_toArray, List.set_cons_zero, List.set_cons_succ]
  refine htake 1 (some 26) (.pointer (some ⟨gh, 0, none⟩)) rfl rfl (by kernel_rfl) (by kernel_rfl) (by kernel_rfl) (fun _ _ _ h => h) (Or.inl ⟨by rfl, fun wx hSw => ?_⟩) (by assumption) ?_
  · go_simp
  simp only [Act.put, List.setIfInBounds_toArray, List.set_cons_zero, List.set_cons_succ]
  refine htake 2 (some 27) (.pointer (some ⟨gh, 0, none⟩)) rfl rfl (by kernel_rfl) (by kernel_rfl) (by kernel_rfl) (fun _ _ _ h => h) (Or.inl ⟨by rfl, fun wx hSw => ?_⟩) (by assumption) ?_
  · go_simp
  simp only [Act.put, List.setIfInBounds_toArray, List.set_cons_zero, List.set_cons_succ]
  refine htake 3 (some 28) (.slice (some ⟨gw, 0, none⟩) n n) rfl rfl (by kernel_rfl) (by kernel_rfl) (by kernel_rfl) (fun _ _ _ h => h) (Or.inl ⟨by rfl, fun wx hSw => ?_⟩) (by assumption) ?_
  · obtain ⟨s1, s2⟩ := hSw; go_simp
  simp only [Act.put, List.setIfInBounds_toArray, List.set_cons_zero, List.set_cons_succ]
  refine htake 4 (some 29) (.pointer (some ⟨gh, 0, none⟩)) rfl rfl (by kernel_rfl) (by kernel_rfl) (by kernel_rfl) (fun _ _ _ h => h) (Or.inl ⟨by rfl, fun wx hSw => ?_⟩) (by assumption) ?_
  · go_simp
  simp only [Act.put, List.setIfInBounds_toArray, List.set_cons_zero, List.set_cons_succ]
  refine htake 5 (some 30) (.pointer (some ⟨gh, 0, none⟩)) rfl rfl (by kernel_rfl) (by kernel_rfl) (by kernel_rfl) (fun _ _ _ h => h) (Or.inl ⟨by rfl, fun wx hSw => ?_⟩) (by assumption) ?_
  · go_simp
  simp only [Act.put, List.setIfInBounds_toArray, List.set_cons_zero, List.set_cons_succ]
  refine htake 6 (some 31) (.pointer (some ⟨gh, 1, none⟩)) rfl rfl (by kernel_rfl) (by kernel_rfl) (by kernel_rfl) (fun _ _ _ h => h) (Or.inl ⟨by rfl, fun wx hSw => ?_⟩) (by assumption) ?_
  · go_simp
  simp only [Act.put, List.setIfInBounds_toArray, List.set_cons_zero, List.set_cons_succ]
  refine htake 7 (some 32) (.int .i64 (u : Nat)) rfl rfl (by kernel_rfl) (by kernel_rfl) (by kernel_rfl) (fun _ _ _ h => h) (Or.inl ⟨by rfl, fun wx hSw => ?_⟩) (by assumption) ?_
  · obtain ⟨s1, s2⟩ := hSw; go_simp
  simp only [Act.put, List.setIfInBounds_toArray, List.set_cons_zero, List.set_cons_succ]
  refine htake 8 (some 33) (.int .i64 kind) rfl rfl (by kernel_rfl) (by kernel_rfl) (by kernel_rfl) (fun _ _ _ h => h) (Or.inl ⟨by rfl, fun wx hSw => ?_⟩) (by assumption) ?_
  · go_simp
  simp only [Act.put, List.setIfInBounds_toArray, List.set_cons_zero, List.set_cons_succ]
  refine htake 9 (some 34) (.int .i64 (size : Nat)) rfl rfl (by kernel_rfl) (by kernel_rfl) (by kernel_rfl) (fun _ _ _ h => h) (Or.inl ⟨by rfl, fun wx hSw => ?_⟩) (by assumption) ?_
  · go_simp
  simp only [Act.put, List.setIfInBounds_toArray, List.set_cons_zero, List.set_cons_succ]
  clear hHeld c0 c1
  refine hone 10 _ rfl (by kernel_rfl) (fun K hK => ?_)
  go_simp
  go_at_call 96
  refine (CH.out _).mono ?_
  rintro e W3 ⟨rfl, hw3⟩
  rw [hw3]
  clear hw3 W3
  refine hK.out _ _ hS0 (fun hHeld => ?_)
  clear hK K
  try simp only [Act.put, List.setIfInBounds_toArray, List.set_cons_zero, List.set_cons_succ]
  refine htake 11 (some 24) (.tuple #[.int .u64 hd, .bool b1]) rfl rfl (by kernel_rfl) (by kernel_rfl) (by kernel_rfl) (fun _ _ _ h => h) (Or.inl ⟨by rfl, fun wx hSw => ?_⟩) (by assumption) ?_
  · go_simp
  simp only [Act.put, List.setIfInBounds_toArray, List.set_cons_zero, List.set_cons_succ]
  refine htake 12 (some 36) (.int .u64 hd) rfl rfl (by kernel_rfl) (by kernel_rfl) (by kernel_rfl) (fun _ _ _ h => h) (Or.inl ⟨by rfl, fun wx hSw => ?_⟩) (by assumption) ?_
  · go_simp
  simp only [Act.put, List.setIfInBounds_toArray, List.set_cons_zero, List.set_cons_succ]
  refine htake 13 (some 37) (.bool b1) rfl rfl (by kernel_rfl) (by kernel_rfl) (by kernel_rfl) (fun _ _ _ h => h) (Or.inl ⟨by rfl, fun wx hSw => ?_⟩) (by assumption) ?_
  · go_simp
  simp only [Act.put, List.setIfInBounds_toArray, List.set_cons_zero, List.set_cons_succ]
  refine htake 14 (some 38) (.pointer (some ⟨gw, u, none⟩)) rfl rfl (by kernel_rfl) (by kernel_rfl) (by kernel_rfl) (fun _ _ _ h => h) (Or.inl ⟨by rfl, fun wx hSw => ?_⟩) (by assumption) ?_
  · go_simp
  simp only [Act.put, List.setIfInBounds_toArray, List.set_cons_zero, List.set_cons_succ]
  have cw := HP1.out.word (i := u) (by omega)
  have fw := blk_free HP1.out.row u
  refine hone 15 _ rfl (by kernel_rfl) (fun K hK => ?_)
  go_simp
  refine hK.out _ _ ⟨?_, ?_⟩ (fun _ => ?_)
  · exact (World.cell?_of_block (w := W1) (a := ⟨gh, 0, none⟩) (Below.heap_setCell W1 ⟨gw, u, none⟩ (.int .u64 hd) gh HNE.out)).trans hS0.1
  · exact (World.cell?_of_block (w := W1) (a := ⟨gh, 1, none⟩) (Below.heap_setCell W1 ⟨gw, u, none⟩ (.int .u64 hd) gh HNE.out)).trans hS0.2
  clear hK K cw fw
  have hg3 : Hid ((W1.setCell ⟨gw, u, none⟩ (.int .u64 hd)).drew.heap[gh]? = some (.cells #[.slice (some ⟨gw, 0, none⟩) n n, .int .i64 (u : Nat)] 59 (0, 0))) := (Below.heap_setCell _ _ _ _ HNE.out).trans (by rw [HU.out]; exact HP1.out.box)
  have hr3 : Hid ((W1.setCell ⟨gw, u, none⟩ (.int .u64 hd)).drew.heap[gw]? = _) := hrow.out _ HP1.out.row
  have hm3 : Hid (Mod F w ((W1.setCell ⟨gw, u, none⟩ (.int .u64 hd)).drew)) := ((Mod.of_below F HB.out).setCell (p := ⟨gw, u, none⟩) (.inl ((HP.out.ff gw).2 (.inr rfl))) (.int .u64 hd)).trans (Mod.of_below F (Bd _ 1)) (fun b _ h => h)
  refine wpAnyH_done (by kernel_rfl) ?_ _
  obtain ⟨W3, hW3⟩ : ∃ W, W = (W1.setCell ⟨gw, u, none⟩ (.int .u64 hd)).drew := ⟨_, rfl⟩
  rw [← hW3] at hg3 hr3 hm3 ⊢
  clear hW3 hS0 hrow
  have c1 : W3.cell? ⟨gh, 1, none⟩ = some (.int .i64 (u : Nat)) := blk_cell hg3.out 1
  have f1 := blk_free hg3.out 1
  have hb4 : Hid ((W3.setCell ⟨gh, 1, none⟩ (.int .i64 (u + 1 + size))).heap[gh]? = some (.cells #[.slice (some ⟨gw, 0, none⟩) n n, .int .i64 (u + 1 + size)] 59 (0, 0))) := by
    unfold Hid
    rw [blk_set (i := 1) hg3.out]; rfl
  have d0 : (W3.setCell ⟨gh, 1, none⟩ (.int .i64 (u + 1 + size))).cell? ⟨gh, 0, none⟩ = some (.slice (some ⟨gw, 0, none⟩) n n) := blk_cell hb4.out 0
  have d1 : (W3.setCell ⟨gh, 1, none⟩ (.int .i64 (u + 1 + size))).cell? ⟨gh, 1, none⟩ = some (.int .i64 (u + 1 + size)) := blk_cell hb4.out 1
  go_wp2_with fail
  have ht : ((u : Int) + 1).toNat = u + 1 := by omega
  have ht2 : ((u : Int) + 1 + size).toNat = u + 1 + size := by omega
  have hend : Hid (∀ q, (W3.setCell ⟨gh, 1, none⟩ (.int .i64 (u + 1 + size))).heap[gh]? = some (.cells #[.slice (some ⟨gw, 0, none⟩) n n, .int .i64 ((u + 1 + size : Nat) : Int)] 59 (0, 0)) ∧ (W3.setCell ⟨gh, 1, none⟩ (.int .i64 (u + 1 + size))).heap[gw]? = some (.cells (uz (ws ++ (hd :: rest.tail))).toArray 39 (0, 0)) ∧ Mod F w ((W3.setCell ⟨gh, 1, none⟩ (.int .i64 (u + 1 + size))).drewN q)) := fun q =>
    ⟨hb4.out, (Below.heap_setCell W3 ⟨gh, 1, none⟩ (.int .i64 (u + 1 + size)) gw (fun e => HNE.out e.symm)).trans hr3.out, (hm3.out.setCell (p := ⟨gh, 1, none⟩) (.inl ((HP.out.ff gh).2 (.inl rfl))) (.int .i64 (u + 1 + size))).trans (Mod.of_below F (Bd _ _)) (fun b _ h => h)⟩
  have hbig : Hid (size ≤ n - (u + 1) ∧ n - (u + 1) ≤ 4194304) := by unfold Hid; omega
  by_cases hc : n ≤ u + 1
  · have hz : Hid (size = 0) := by unfold Hid; omega
    go_quiet (fail)
    go_wp2
    go_ret3
    exact ⟨⟨0, _, rfl, fun h => by have := hz.out; omega, by have := hz.out; omega, by omega⟩, hend.out _⟩
  · go_quiet (fail)
    go_wp2
    go_ret3
    exact ⟨⟨u + 1, _, rfl, fun _ => rfl, hbig.out⟩, hend.out _⟩
end
end Go.Proofs.Ytdekkieajffblaa
