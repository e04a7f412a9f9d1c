/-
  The program's heap: New, Fill.
-/
import Derived.Test.YthiniidgklilnaaV9d
set_option linter.unusedVariables false
set_option linter.unusedSimpArgs false
set_option maxRecDepth 100000
namespace Go.Proofs.Ythiniidgklilnaa
open Go.RowKit

def NewP (n : Int) (w : World) (e : Ending) (w' : World) : Prop := if n < 1 ∨ 4194304 < n then e = .returned (.tuple #[.pointer none, .int .i64 1]) ∧ w' = w else ∃ v F, e = .returned (.tuple #[v, .int .i64 0]) ∧ PH w.heap.size v n [] F w' ∧ Below w.heap.size w w'
set_option maxHeartbeats 4000000 in
theorem pnew_is (n : Int) (hn : Z64 n) (w : World) : Calls Try.prog 5 #[.int .i64 n] w fun e w' => NewP n w e w' := by
  by_cases h1 : n < 1
  · go_enter Try.func5, Try.ntmps5
    go_wp2
    go_ret2
    unfold NewP
    rw [if_pos (.inl h1)]
    exact ⟨rfl, rfl⟩
  by_cases h2 : 4194304 < n
  · go_enter Try.func5, Try.ntmps5
    go_wp2
    go_ret2
    unfold NewP
    rw [if_pos (.inr h2)]
    exact ⟨rfl, rfl⟩
  · obtain ⟨k, rfl⟩ : ∃ k : Nat, n = (k : Int) := ⟨n.toNat, by omega⟩
    have hmk := fun wx => run_make_row' (P := Try.prog) 32 34 (.int .u64 0) 8 Try.underlying32 info_word rfl .i64 .i64 k (by omega) (by omega) wx
    clear hn
    go_enter Try.func5, Try.ntmps5
    go_wp2
    go_ret2
    unfold NewP
    rw [if_neg (by omega)]
    obtain ⟨W1, hW1⟩ : ∃ W, W = w.alloc (.cells (madeCells #[.int .u64 0] k) 34) := ⟨_, rfl⟩
    rw [← hW1]
    have b1 : Below w.heap.size w W1 := by rw [hW1]; exact Ba _ _
    have r1 : W1.heap[w.heap.size]? = some (.cells (madeCells #[.int .u64 0] k) 34 (0, 0)) := by rw [hW1]; exact blk_new _ _ _
    have s1 : W1.heap.size = w.heap.size + 1 := by rw [hW1, size_alloc]
    have em : madeCells #[.int .u64 0] k = (uz ([] ++ List.replicate k 0)).toArray := by
      rw [← Array.toArray_toList (xs := madeCells #[.int .u64 0] k), toList_madeCells_one]; simp [uz]
    refine ⟨.pointer (some ⟨w.heap.size + 1, 0, none⟩), fun b => b = W1.heap.size ∨ b = w.heap.size, rfl, ⟨⟨W1.heap.size, w.heap.size, k, List.replicate k 0, by rw [s1], ?_, rfl, ?_, by simp, by omega, by omega, Nat.le_refl _, fun b => Iff.rfl⟩, by simp; omega, fun z hz => by cases hz⟩, Bt b1 (Ba _ _)⟩
    · exact blk_new _ _ _
    · rw [← em]; exact ((Ba W1 _).block w.heap.size (by omega)).trans r1
theorem pnew_any (n : Int) (hn : Z64 n) (w : World) :
    Calls Try.prog 5 #[.int .i64 n] w fun e w' => if n < 1 ∨ 4194304 < n then e = .returned (.tuple #[.pointer none, .int .i64 1]) ∧ w' = w else ∃ v F, e = .returned (.tuple #[v, .int .i64 0]) ∧ PH w.heap.size v n [] F w' ∧ Below w.heap.size w w' := pnew_is n hn w
section
variable {B : Nat} {v : Value} {N : Int} {F : Nat → Prop} {os : List Ob}
/-- What the program's Fill answers; the objects behind it. -/
def fillP (os : List Ob) (N kind n z : Int) : Int × Int :=
  if kind < 1 ∨ 22 < kind then (0, 70) else if n < 0 ∨ 4194304 < n then (0, 1) else allocM os N kind (List.replicate n.toNat z)
def fillQ (os : List Ob) (N kind n z : Int) : List Ob := if (fillP os N kind n z).2 = 0 then os ++ [⟨kind, List.replicate n.toNat z⟩] else os
theorem rep_any (n : Nat) (z : Int) : (List.replicate n z).any isHd = (decide (0 < n) && isHd z) := by
  induction n with
  | zero => simp
  | succ k ih => simp [List.replicate_succ, ih]
set_option maxHeartbeats 8000000 in
theorem pfill_any (ho : OsOk os) (kind n z : Int) (hk : Z64 kind) (hn : Z64 n) (hz : U64 z) (w : World) (h : PH B v N (wordsL os) F w) (hB : B ≤ w.heap.size) :
    Calls Try.prog 21 #[v, .int .i64 kind, .int .i64 n, .int .u64 z] w fun e w' => e = .returned (.tuple #[.int .u64 (fillP os N kind n z).1, .int .i64 (fillP os N kind n z).2]) ∧ PPost B v N F w (wordsL (fillQ os N kind n z)) w' := by
  have C1 := hid (istype_any kind hk w)
  have C2 := hid (q_ishead z hz w)
  have same : Hid (∀ W, Below w.heap.size w W → PPost B v N F w (wordsL os) W) := fun W hb => ⟨F, h.keep (fun b hf => hb.block b (h.ge b hf).2), fun b hb => .inl hb, Mod.of_below F hb⟩
  have HZ := hid hz
  unfold Z64 at hn
  by_cases h1 : kind < 1 ∨ 22 < kind
  · have e1 : fillP os N kind n z = (0, 70) := by unfold fillP; rw [if_pos h1]
    have e2 : fillQ os N kind n z = os := by unfold fillQ; rw [e1]; rfl
    rw [e1, e2]
    rw [decide_eq_true h1] at C1
    obtain ⟨gh, rfl⟩ := h.ptr
    simp only
    clear h hB h1 e1 e2 hk
    go_enter Try.func21, Try.ntmps21
    go_wp2_with (go_at_call 33; (with_reducible refine C1.out.mono ?_); rintro e W1 ⟨rfl, hw1⟩; rw [hw1]; clear hw1)
    go_ret2
    exact ⟨rfl, same.out _ (Below.refl _ _)⟩
  rw [decide_eq_false h1] at C1
  by_cases h2 : n < 0 ∨ 4194304 < n
  · have e1 : fillP os N kind n z = (0, 1) := by unfold fillP; rw [if_neg h1, if_pos h2]
    have e2 : fillQ os N kind n z = os := by unfold fillQ; rw [e1]; rfl
    rw [e1, e2]
    obtain ⟨gh, rfl⟩ := h.ptr
    simp only
    clear h hB h1 e1 e2 hk
    by_cases h3 : n < 0
    · go_enter Try.func21, Try.ntmps21
      go_wp2_with (go_at_call 33; (with_reducible refine C1.out.mono ?_); rintro e W1 ⟨rfl, hw1⟩; rw [hw1]; clear hw1)
      go_ret2
      exact ⟨rfl, same.out _ (Below.refl _ _)⟩
    · have h4 : 4194304 < n := by omega
      go_enter Try.func21, Try.ntmps21
      go_wp2_with (go_at_call 33; (with_reducible refine C1.out.mono ?_); rintro e W1 ⟨rfl, hw1⟩; rw [hw1]; clear hw1)
      go_ret2
      exact ⟨rfl, same.out _ (Below.refl _ _)⟩
  obtain ⟨k, rfl⟩ : ∃ k : Nat, n = (k : Int) := ⟨n.toNat, by omega⟩
  have hkb : k ≤ 4194304 := by omega
  have e0 : fillP os N kind k z = allocM os N kind (List.replicate k z) := by unfold fillP; rw [if_neg h1, if_neg h2, Int.toNat_natCast]
  have e0' : fillQ os N kind k z = allocO os N kind (List.replicate k z) := by unfold fillQ allocO; rw [e0, Int.toNat_natCast]
  rw [e0, e0']
  have hkk : 1 ≤ kind ∧ kind ≤ 22 := by omega
  obtain ⟨gh, gw, nn, rest, rfl, hp⟩ := h.opened
  have HP := hid hp
  have hlr : (List.replicate k z).length = k := List.length_replicate
  by_cases h3 : (0 < k) ∧ isHd z = true
  · have e1 : allocM os N kind (List.replicate k z) = (0, 1) := by unfold allocM; rw [if_neg h1, if_pos (by rw [rep_any, decide_eq_true h3.1, h3.2]; rfl)]
    have e2 : allocO os N kind (List.replicate k z) = os := by unfold allocO; rw [e1]; rfl
    rw [e1, e2]
    have h4 := h3.1
    rw [h3.2] at C2
    simp only
    clear h hp hB h1 h2 h3 e1 e2 e0 e0' hk hn
    go_enter Try.func21, Try.ntmps21
    go_wp2_with (first
      | (go_at_call 33; (with_reducible refine C1.out.mono ?_); rintro e W1 ⟨rfl, hw1⟩; rw [hw1]; clear hw1)
      | (go_at_call 27; (with_reducible refine C2.out.mono ?_); rintro e W1 ⟨rfl, hw1⟩; rw [hw1]; clear hw1))
    go_ret2
    exact ⟨rfl, same.out _ (Below.refl _ _)⟩
  have hany : (List.replicate k z).any isHd = false := by
    rw [rep_any]
    cases hb : isHd z
    · simp
    · have : ¬ 0 < k := fun h => h3 ⟨h, hb⟩
      rw [decide_eq_false this]; rfl
  have hhz : k = 0 ∨ isHd z = false := by
    cases hb : isHd z
    · exact .inr rfl
    · exact .inl (by have : ¬ 0 < k := fun h => h3 ⟨h, hb⟩; omega)
  by_cases h5 : N - (usedL os : Nat) < 1 + (k : Nat)
  · have e1 : allocM os N kind (List.replicate k z) = (0, 3) := by unfold allocM; rw [if_neg h1, hany, hlr, if_pos h5]; rfl
    have e2 : allocO os N kind (List.replicate k z) = os := by unfold allocO; rw [e1]; rfl
    rw [e1, e2]
    have C3 := hid (layfull kind k (by rw [wordsL_length]; omega) hp)
    simp only
    have HH := hid hhz
    clear h hp hB h1 h2 h3 h5 e1 e2 e0 e0' hk hn hhz hany hlr
    by_cases h8 : 0 < k
    · have h6 : isHd z = false := HH.out.resolve_left (by omega)
      rw [h6] at C2
      go_enter Try.func21, Try.ntmps21
      go_wp2_with (first
        | (go_at_call 33; (with_reducible refine C1.out.mono ?_); rintro e W1 ⟨rfl, hw1⟩; rw [hw1]; clear hw1)
        | (go_at_call 27; (with_reducible refine C2.out.mono ?_); rintro e W1 ⟨rfl, hw1⟩; rw [hw1]; clear hw1)
        | (go_at_call 35; (with_reducible refine C3.out.mono ?_); rintro e W1 ⟨rfl, b1⟩; have HB1 := hid b1; clear b1))
      go_loopw [41] (fun i wr => i = .int .i64 0 ∧ Hid (wr = W1)) (fun _ _ => 0)
      case atStart => exact ⟨rfl, rfl⟩
      case round =>
        obtain ⟨rfl, hI⟩ := hrel
        go_wp2_with fail
        go_ret2
        rw [hI.out]
        exact ⟨rfl, same.out _ HB1.out⟩
    · have hk1 : decide (0 < k) = false := decide_eq_false h8
      have hk2 : decide ((0 : Int) < k) = false := decide_eq_false (by omega)
      have HK8 := hid h8
      clear h8
      go_enter Try.func21, Try.ntmps21
      go_wp2_with (first
        | (go_at_call 33; (with_reducible refine C1.out.mono ?_); rintro e W1 ⟨rfl, hw1⟩; rw [hw1]; clear hw1)
        | (go_at_call 35; (with_reducible refine C3.out.mono ?_); rintro e W1 ⟨rfl, b1⟩; have HB1 := hid b1; clear b1))
      go_loopw [41] (fun i wr => i = .int .i64 0 ∧ Hid (wr = W1)) (fun _ _ => 0)
      case atStart => exact ⟨rfl, rfl⟩
      case round =>
        obtain ⟨rfl, hI⟩ := hrel
        go_wp2_with fail
        go_ret2
        rw [hI.out]
        exact ⟨rfl, same.out _ HB1.out⟩
  · have e1 : allocM os N kind (List.replicate k z) = (wordR 2 (usedL os : Nat) 0, 0) := by unfold allocM; rw [if_neg h1, hany, hlr, if_neg h5]; rfl
    have e2 := alloc_words (os := os) (N := N) kind (List.replicate k z) (by rw [e1])
    rw [e1, e2, hlr]
    have hs : (k : Int) < N - ((wordsL os).length : Nat) := by rw [wordsL_length]; omega
    have C3 := hid (layhead kind k hkk hs hp)
    have HS := hid hs
    rw [wordsL_length] at C3
    obtain ⟨pt, hpt⟩ : ∃ x, x = wordR 2 (usedL os : Nat) 0 := ⟨_, rfl⟩
    rw [← hpt] at C3 ⊢
    obtain ⟨hd, hhd⟩ : ∃ x, x = wordR 8 (k : Nat) kind := ⟨_, rfl⟩
    have hhu : Hid (U64 hd) := by unfold Hid; rw [hhd]; exact wordR_rng _ _ _
    rw [← hhd] at C3 ⊢
    have HL := hid hlr
    obtain ⟨A, hA⟩ : ∃ A, A = wordsL os ++ [hd] := ⟨_, rfl⟩
    have hAl : Hid (A.length = usedL os + 1) := by unfold Hid; rw [hA]; simp [wordsL_length]
    have hC : Hid (k ≤ rest.tail.length) := by
      unfold Hid
      have := hp.len
      have := hp.nn
      rw [List.length_append, wordsL_length] at *
      rw [List.length_tail]; omega
    have hfd : Hid (∀ W1 W2 : World, W1.heap[gh]? = some (.cells #[.slice (some ⟨gw, 0, none⟩) nn nn, .int .i64 ((usedL os + 1 + k : Nat) : Int)] 51 (0, 0)) → Mod F w W1 → W2.heap[gw]? = some (.cells (uz (A ++ (List.replicate k z ++ rest.tail.drop k))).toArray 34 (0, 0)) → Mod (fun b => b = gw) W1 W2 → PPost B (.pointer (some ⟨gh, 0, none⟩)) N F w (wordsL os ++ hd :: List.replicate k z) W2) := fun W1 W2 g1 g2 g3 g4 => by
      have hgh := (Array.getElem?_eq_some_iff.1 g1).1
      have q := lay_shut (w' := W2) HP.out (hd := hd) (fl := List.replicate k z) (by rw [HL.out]; exact HS.out) hhu.out (fun y hy => by rw [List.eq_of_mem_replicate hy]; exact HZ.out) ((g4.block gh hgh HP.out.ne).trans (by rw [g1, wordsL_length, HL.out])) (by rw [g3, hA, HL.out]; simp)
      exact ⟨F, q.shut, fun b hb => .inl hb, g2.trans g4 (fun b _ e => by rw [e]; exact (HP.out.ff gw).2 (.inr rfl))⟩
    have hst : Hid (∀ (W1 : World), W1.heap[gw]? = some (.cells (uz (wordsL os ++ (hd :: rest.tail))).toArray 34 (0, 0)) → W1.heap[gw]? = some (.cells (uz (A ++ (List.replicate 0 z ++ rest.tail.drop 0))).toArray 34 (0, 0))) := fun W1 g => by rw [g, hA]; simp
    have hHA := hid hA
    simp only
    have HH := hid hhz
    clear h hp hB h1 h2 h3 h5 e1 e2 e0 e0' hk hn hhz hany hlr hpt hhd hA
    unfold LayPost at C3
    obtain ⟨RT, hRT⟩ : ∃ r, r = rest.tail := ⟨_, rfl⟩
    rw [← hRT] at C3 hfd hst hC
    clear hRT
    have go : Hid (∀ (W1 wr : World) (q : Nat), q < k → wr.heap[gw]? = some (.cells (uz (A ++ (List.replicate q z ++ RT.drop q))).toArray 34 (0, 0)) → (wr.setCell ⟨gw, usedL os + 1 + q, none⟩ (.int .u64 z)).heap[gw]? = some (.cells (uz (A ++ (List.replicate (q + 1) z ++ RT.drop (q + 1)))).toArray 34 (0, 0))) := fun W1 wr q hq g => by
      rw [blk_set (i := usedL os + 1 + q) g (.int .u64 z)]
      have hc := hC.out
      have e1 : RT.drop q = RT[q]'(by omega) :: RT.drop (q + 1) := List.drop_eq_getElem_cons (by omega)
      rw [e1, ← hAl.out]
      have e2 : ∀ x : List Int, (uz (A ++ (List.replicate q z ++ x))).length = A.length + q + x.length := fun x => by simp [uz]; omega
      have : (uz (A ++ (List.replicate q z ++ RT[q]'(by omega) :: RT.drop (q + 1)))).toArray.setIfInBounds (A.length + q) (.int .u64 z) = (uz (A ++ (List.replicate (q + 1) z ++ RT.drop (q + 1)))).toArray := by
        rw [List.setIfInBounds_toArray]
        congr 1
        rw [uz_append, List.set_append_right _ _ (by rw [uz_length]; omega), uz_append, uz_append, List.set_append_right _ _ (by rw [uz_length, uz_length, List.length_replicate]; omega)]
        rw [uz_length, uz_length, List.length_replicate, show A.length + q - A.length - q = 0 by omega]
        rw [show uz (RT[q]'(by omega) :: RT.drop (q + 1)) = .int .u64 (RT[q]'(by omega)) :: uz (RT.drop (q + 1)) from rfl, List.set_cons_zero, List.replicate_succ']
        simp only [uz, List.map_append, List.map_cons, List.map_nil, List.append_assoc, List.cons_append, List.nil_append]
      rw [this]
    have hcell : Hid (∀ (wr : World) (q : Nat), q < k → wr.heap[gw]? = some (.cells (uz (A ++ (List.replicate q z ++ RT.drop q))).toArray 34 (0, 0)) → ∃ y, wr.cell? ⟨gw, usedL os + 1 + q, none⟩ = some (.int .u64 y)) := fun wr q hq g => by
      have hl : usedL os + 1 + q < (A ++ (List.replicate q z ++ RT.drop q)).length := by have hc := hC.out; have ha := hAl.out; simp; omega
      refine ⟨(A ++ (List.replicate q z ++ RT.drop q)).getD (usedL os + 1 + q) 0, (blk_cell g _).trans ?_⟩
      rw [List.getElem?_toArray, uz_get hl]
    by_cases h8 : 0 < k
    · have h6 : isHd z = false := HH.out.resolve_left (by omega)
      rw [h6] at C2
      go_enter Try.func21, Try.ntmps21
      go_wp2_with (first
        | (go_at_call 33; (with_reducible refine C1.out.mono ?_); rintro e W1 ⟨rfl, hw1⟩; rw [hw1]; clear hw1)
        | (go_at_call 27; (with_reducible refine C2.out.mono ?_); rintro e W1 ⟨rfl, hw1⟩; rw [hw1]; clear hw1)
        | (go_at_call 35; (with_reducible refine C3.out.mono ?_); rintro e W1 ⟨⟨off, c1, rfl, ho1, ho2, ho3⟩, g1, g2, g3⟩; obtain rfl := ho1 h8; have HG1 := hid g1; have HG2 := hid (hst.out W1 g2); have HG3 := hid g3; clear g1 g2 g3 ho1))
      go_loopw [41] (fun i wr => ∃ q : Nat, q ≤ k ∧ i = .int .i64 q ∧ Hid (wr.heap[gw]? = some (.cells (uz (A ++ (List.replicate q z ++ RT.drop q))).toArray 34 (0, 0)) ∧ Mod (fun b => b = gw) W1 wr)) (fun i _ => k - (intOf i).toNat)
      case atStart => exact ⟨0, Nat.zero_le _, rfl, HG2.out, Mod.refl _ _⟩
      case round =>
        obtain ⟨q, hq, rfl, hI⟩ := hrel
        by_cases hlt : q < k
        · obtain ⟨y, cy⟩ := hcell.out wr q hlt hI.out.1
          have fy := blk_free hI.out.1 (usedL os + 1 + q)
          have HN := hid (go.out W1 wr q hlt hI.out.1)
          have HM := hid (hI.out.2.setCell (p := ⟨gw, usedL os + 1 + q, none⟩) (.inl rfl) (.int .u64 z))
          go_wp2_with fail
          exact ⟨⟨q + 1, by omega, by go_num, HN.out, HM.out⟩, by simp [intOf] <;> omega⟩
        · obtain rfl : q = k := by omega
          go_wp2_with fail
          go_ret2
          exact ⟨rfl, hfd.out W1 wr HG1.out HG3.out hI.out.1 hI.out.2⟩
    · have hk1 : decide (0 < k) = false := decide_eq_false h8
      have hk2 : decide ((0 : Int) < k) = false := decide_eq_false (by omega)
      have HK8 := hid h8
      clear h8
      go_enter Try.func21, Try.ntmps21
      go_wp2_with (first
        | (go_at_call 33; (with_reducible refine C1.out.mono ?_); rintro e W1 ⟨rfl, hw1⟩; rw [hw1]; clear hw1)
        | (go_at_call 35; (with_reducible refine C3.out.mono ?_); rintro e W1 ⟨⟨off, c1, rfl, ho1, ho2, ho3⟩, g1, g2, g3⟩; have HG1 := hid g1; have HG2 := hid (hst.out W1 g2); have HG3 := hid g3; clear g1 g2 g3 ho1))
      go_loopw [41] (fun i wr => ∃ q : Nat, q ≤ k ∧ i = .int .i64 q ∧ Hid (wr.heap[gw]? = some (.cells (uz (A ++ (List.replicate q z ++ RT.drop q))).toArray 34 (0, 0)) ∧ Mod (fun b => b = gw) W1 wr)) (fun i _ => k - (intOf i).toNat)
      case atStart => exact ⟨0, Nat.zero_le _, rfl, HG2.out, Mod.refl _ _⟩
      case round =>
        obtain ⟨q, hq, rfl, hI⟩ := hrel
        obtain rfl : q = k := by have := HK8.out; omega
        go_wp2_with fail
        go_ret2
        exact ⟨rfl, hfd.out W1 wr HG1.out HG3.out hI.out.1 hI.out.2⟩
end
end Go.Proofs.Ythiniidgklilnaa
