/-
  The program's heap: Objects.
-/
import Derived.Test.YthgkonjglappjaaV9c
import Derived.Laws.CopyRow
import Derived.Laws.IdiomCopy
set_option linter.unusedVariables false
set_option linter.unusedSimpArgs false
set_option maxRecDepth 100000
namespace Go.Proofs.Ythgkonjglappjaa
open Go.RowKit

theorem word_one : (Try.prog.info? 46).map (·.size) = some 1 := by
  have hi := info_word
  cases h : Try.prog.info? 46 with
  | none => rw [h] at hi; cases hi
  | some i => rw [h] at hi; simp at hi; simp [hi.2.1]
/-- copy of words into a row. -/
theorem copy_words {w : World} {gw off cap : Nat} {A C fl : List Int} (hr : w.heap[gw]? = some (.cells (uz (A ++ C)).toArray 46 (0, 0))) (hoff : 0 < fl.length → off = A.length) (hC : fl.length ≤ C.length)
    {ao : Option Addr} {n c : Nat} (R : URow w ao n c fl) :
    ∃ w', (∀ ty, (Builtin.copy_ #[27, 27] ty #[.slice (some ⟨gw, off, none⟩) n cap, .slice ao n c]).run Try.prog w = .ok (goInt n) w') ∧ w'.heap[gw]? = some (.cells (uz (A ++ (fl ++ C.drop fl.length))).toArray 46 (0, 0)) ∧ Mod (fun b => b = gw) w w' := by
  by_cases h0 : fl.length = 0
  · have hn : n = 0 := by rw [← R.len]; exact h0
    subst hn
    have hf : fl = [] := List.length_eq_zero_iff.1 h0
    subst hf
    exact ⟨w, fun ty => run_copy_none w _ _ ty 46 _ _ 0 cap 0 c Try.underlying27 word_one rfl, by simpa using hr, Mod.refl _ _⟩
  · have ho := hoff (by omega)
    subst ho
    obtain ⟨b, o, rfl, hlb, hcc⟩ := R.some (by have := R.len; omega)
    have hlen : (uz fl).length = n := by rw [uz_length, R.len]
    have hsz : (uz (A ++ C)).toArray.size = A.length + C.length := by simp [uz]
    have hrun := fun ty => run_copy_row (P := Try.prog) w 27 27 ty 46 gw A.length n cap ⟨b, o, none⟩ n c (uz (A ++ C)).toArray 46 (uz fl) Try.underlying27 word_one hr (by rw [hlen]; exact (Nat.min_self n).symm)
      (fun j v hj => by
        have hjl : j < fl.length := by
          have := (List.getElem?_eq_some_iff.1 hj).1
          rwa [uz_length] at this
        rw [uz_get hjl] at hj
        cases hj
        have := hcc j (by have := R.len; omega)
        unfold Addr.add
        by_cases hj0 : j = 0
        · subst hj0; simpa using this
        · rw [if_neg hj0]; exact this)
      (by rw [hsz, uz_length]; omega)
      (fun v hv => by unfold uz at hv; obtain ⟨z, _, rfl⟩ := List.mem_map.1 hv; rfl)
    refine ⟨_, fun ty => by have := hrun ty; rw [hlen] at this; exact this, ?_, ?_⟩
    · rw [setRow_heap w gw _ _ _ _ hr]
      have e1 : (uz (A ++ C)).toArray.toList.take A.length ++ uz fl ++ (uz (A ++ C)).toArray.toList.drop (A.length + n) = uz (A ++ (fl ++ C.drop fl.length)) := by
        have h1 : (uz (A ++ C)).toArray.toList = uz A ++ uz C := by rw [← uz_append]
        have h2 : (uz A).length = A.length := uz_length A
        rw [h1, ← h2, List.take_left, List.drop_append, uz_append, uz_append, R.len]
        have h3 : (uz A).drop ((uz A).length + n) = [] := List.drop_eq_nil_of_le (by omega)
        have h4 : (uz A).length + n - (uz A).length = n := by omega
        have h5 : (uz C).drop n = uz (C.drop n) := by unfold uz; rw [List.map_drop]
        rw [h3, h4, List.nil_append, h5, List.append_assoc]
      rw [e1]
    · refine ⟨rfl, rfl, rfl, ?_, fun j _ hj => setRow_other w gw j _ hj⟩
      simp [World.setRow]
section
variable {B gh gw n : Nat} {N : Int} {ws rest : List Int} {F : Nat → Prop} {w : World}
/-- An object more. -/
theorem lay_shut {w' : World} (h : PO B gh gw n N ws rest F w) {hd : Int} {fl : List Int} (hs : (fl.length : Int) < N - (ws.length : Nat)) (hhd : U64 hd) (hfl : ∀ z ∈ fl, U64 z)
    (hb : w'.heap[gh]? = some (.cells #[.slice (some ⟨gw, 0, none⟩) n n, .int .i64 ((ws.length + 1 + fl.length : Nat) : Int)] 86 (0, 0)))
    (hr : w'.heap[gw]? = some (.cells (uz (ws ++ (hd :: (fl ++ rest.tail.drop fl.length)))).toArray 46 (0, 0))) :
    PO B gh gw n N (ws ++ hd :: fl) (rest.tail.drop fl.length) F w' := by
  have hl := h.len
  have hnn := h.nn
  rw [List.length_append] at hl
  have hrt : rest.tail.length = rest.length - 1 := List.length_tail
  have e0 : (ws ++ hd :: fl).length = ws.length + 1 + fl.length := by rw [List.length_append, List.length_cons]; omega
  refine { h with box := ?_, row := ?_, len := ?_, bd := ?_, u := ?_ }
  · rw [e0]; exact hb
  · rw [hr]; simp
  · rw [List.length_append, e0, List.length_drop]; omega
  · rw [e0]; have := h.bd; omega
  · intro z hz
    rcases List.mem_append.1 hz with hz | hz
    · exact h.u z hz
    · rcases List.mem_cons.1 hz with rfl | hz
      · exact hhd
      · exact hfl z hz
end
section
variable {B : Nat} {v : Value} {N : Int} {F : Nat → Prop} {os : List Ob}
theorem alloc_words (kind : Int) (fl : List Int) (h : (allocM os N kind fl).2 = 0) : wordsL (allocO os N kind fl) = wordsL os ++ wordR 8 (fl.length : Nat) kind :: fl := by
  unfold allocO; rw [if_pos h, wordsL_append]; simp [wordsL]
set_option maxHeartbeats 8000000 in
theorem palloc_any (ho : OsOk os) (kind : Int) (hk : Z64 kind) (ao : Option Addr) (n cap : Nat) (fl : List Int) (w : World) (h : PH B v N (wordsL os) F w) (R : URow w ao n cap fl) (hB : B ≤ w.heap.size) (ha : ∀ a, ao = some a → ¬ F a.block) (hsm : n ≤ 100) :
    Calls Try.prog 41 #[v, .int .i64 kind, .slice ao n cap] w fun e w' => e = .returned (.tuple #[.int .u64 (allocM os N kind fl).1, .int .i64 (allocM os N kind fl).2]) ∧ PPost B v N F w (wordsL (allocO os N kind fl)) w' := by
  have C1 := hid (istype_any kind hk w)
  have C2 := hid (contains_any ao n cap fl w R)
  have hlen := R.len
  have same : Hid (∀ W, Below w.heap.size w W → PPost B v N F w (wordsL os) W) := fun W hb => ⟨F, h.keep (fun b hf => hb.block b (h.ge b hf).2), fun b hb => .inl hb, Mod.of_below F hb⟩
  have hfits := R.fits
  have hmost := R.most
  unfold maxLen at hmost
  have HR := hid R
  have HA := hid ha
  have HB := hid hB
  by_cases h1 : kind < 1 ∨ 22 < kind
  · have e1 : allocM os N kind fl = (0, 70) := by unfold allocM; rw [if_pos h1]
    have e2 : allocO os N kind fl = os := by unfold allocO; rw [e1]; rfl
    rw [e1, e2]
    rw [decide_eq_true h1] at C1
    obtain ⟨gh, rfl⟩ := h.ptr
    simp only
    clear h R ha hB h1 e1 e2 hk
    go_enter Try.func41, Try.ntmps41
    go_wp2_with (go_at_call 49; (with_reducible refine C1.out.mono ?_); rintro e W1 ⟨rfl, hw1⟩; rw [hw1]; clear hw1)
    go_ret2
    exact ⟨rfl, same.out _ (Below.refl _ _)⟩
  rw [decide_eq_false h1] at C1
  by_cases h2 : fl.any isHd = true
  · have e1 : allocM os N kind fl = (0, 1) := by unfold allocM; rw [if_neg h1, if_pos h2]
    have e2 : allocO os N kind fl = os := by unfold allocO; rw [e1]; rfl
    rw [e1, e2]
    rw [h2] at C2
    obtain ⟨gh, rfl⟩ := h.ptr
    simp only
    clear h R ha hB h1 h2 e1 e2 hk
    go_enter Try.func41, Try.ntmps41
    go_wp2_with (first
      | (go_at_call 49; (with_reducible refine C1.out.mono ?_); rintro e W1 ⟨rfl, hw1⟩; rw [hw1]; clear hw1)
      | (go_at_call 64; (with_reducible refine C2.out.mono ?_); rintro e W1 ⟨rfl, hw1⟩; rw [hw1]; clear hw1))
    go_ret2
    exact ⟨rfl, same.out _ (Below.refl _ _)⟩
  have h2' : fl.any isHd = false := by simpa using h2
  rw [h2'] at C2
  obtain ⟨gh, gw, nn, rest, rfl, hp⟩ := h.opened
  have HP := hid hp
  by_cases h3 : N - (usedL os : Nat) < 1 + (fl.length : Nat)
  · have e1 : allocM os N kind fl = (0, 3) := by unfold allocM; rw [if_neg h1, if_neg h2, if_pos h3]
    have e2 : allocO os N kind fl = os := by unfold allocO; rw [e1]; rfl
    rw [e1, e2]
    have C3 := hid (layfull kind n (by rw [wordsL_length]; omega) hp)
    have hcp := fun wx ty => run_copy_none (P := Try.prog) wx 27 27 ty 46 none ao 0 0 n cap Try.underlying27 word_one (Nat.min_eq_right (Nat.zero_le _))
    simp only
    clear h hp R ha hB h1 h2 h2' h3 e1 e2 hk
    go_enter Try.func41, Try.ntmps41
    go_wp2_with (first
      | (go_at_call 49; (with_reducible refine C1.out.mono ?_); rintro e W1 ⟨rfl, hw1⟩; rw [hw1]; clear hw1)
      | (go_at_call 64; (with_reducible refine C2.out.mono ?_); rintro e W1 ⟨rfl, hw1⟩; rw [hw1]; clear hw1)
      | (go_at_call 50; (with_reducible refine C3.out.mono ?_); rintro e W1 ⟨rfl, b1⟩; have HB1 := hid b1; clear b1))
    go_ret2
    exact ⟨rfl, same.out _ HB1.out⟩
  · have e1 : allocM os N kind fl = (wordR 2 (usedL os : Nat) 0, 0) := by unfold allocM; rw [if_neg h1, if_neg h2, if_neg h3]
    have e2 := alloc_words (os := os) (N := N) kind fl (by rw [e1])
    rw [e1, e2]
    have hs : (n : Int) < N - ((wordsL os).length : Nat) := by rw [wordsL_length]; omega
    have C3 := hid (layhead kind n (by omega) hs hp)
    have HS := hid hs
    rw [wordsL_length] at C3
    obtain ⟨pt, hpt⟩ : ∃ x, x = wordR 2 (usedL os : Nat) 0 := ⟨_, rfl⟩
    rw [← hpt] at C3 ⊢
    rw [hlen]
    obtain ⟨hd, hhd⟩ : ∃ x, x = wordR 8 (n : Nat) kind := ⟨_, rfl⟩
    have hhu : Hid (U64 hd) := by unfold Hid; rw [hhd]; exact wordR_rng _ _ _
    rw [← hhd] at C3 ⊢
    have HL := hid hlen
    have hfd : Hid (∀ W1 W2 : World, W1.heap[gh]? = some (.cells #[.slice (some ⟨gw, 0, none⟩) nn nn, .int .i64 ((usedL os + 1 + n : Nat) : Int)] 86 (0, 0)) → Mod F w W1 → W2.heap[gw]? = some (.cells (uz ((wordsL os ++ [hd]) ++ (fl ++ rest.tail.drop fl.length))).toArray 46 (0, 0)) → Mod (fun b => b = gw) W1 W2 → PPost B (.pointer (some ⟨gh, 0, none⟩)) N F w (wordsL os ++ hd :: fl) W2) := fun W1 W2 g1 g2 g3 g4 => by
      have hgh := (Array.getElem?_eq_some_iff.1 g1).1
      have q := lay_shut (w' := W2) HP.out (hd := hd) (fl := fl) (by rw [HL.out]; exact HS.out) hhu.out HR.out.bd ((g4.block gh hgh HP.out.ne).trans (by rw [g1, wordsL_length, HL.out])) (by rw [g3]; simp)
      exact ⟨F, q.shut, fun b hb => .inl hb, g2.trans g4 (fun b _ e => by rw [e]; exact (HP.out.ff gw).2 (.inr rfl))⟩
    have hC : Hid (fl.length ≤ rest.tail.length) := by
      unfold Hid
      have := hp.len
      have := hp.nn
      rw [List.length_append, wordsL_length] at *
      rw [List.length_tail]; omega
    have hcpy : Hid (∀ W1 : World, W1.heap[gw]? = some (.cells (uz (wordsL os ++ (hd :: rest.tail))).toArray 46 (0, 0)) → Mod F w W1 → ∀ off c1, (0 < n → off = usedL os + 1) → ∃ w', (∀ ty, (Builtin.copy_ #[27, 27] ty #[.slice (some ⟨gw, off, none⟩) n c1, .slice ao n cap]).run Try.prog W1 = .ok (goInt n) w') ∧ w'.heap[gw]? = some (.cells (uz ((wordsL os ++ [hd]) ++ (fl ++ rest.tail.drop fl.length))).toArray 46 (0, 0)) ∧ Mod (fun b => b = gw) W1 w') := fun W1 g1 g2 off c1 ho => by
      refine copy_words (A := wordsL os ++ [hd]) (C := rest.tail) (by rw [g1]; simp) (fun h0 => ?_) hC.out (HR.out.keep g2.size (fun hne a ha' => ?_))
      · rw [ho (by rw [← HL.out]; exact h0)]; simp [wordsL_length]
      · rcases HR.out.rd with e | ⟨b, o, e, hlb, _⟩
        · exact absurd e hne
        · rw [e] at ha'; cases ha'
          exact g2.block b hlb (HA.out _ e)
    simp only
    clear h hp R ha hB h1 h2 h2' h3 e1 e2 hk hpt hhd hlen hs
    unfold LayPost at C3
    go_enter Try.func41, Try.ntmps41
    go_wp2_with (first
      | (go_at_call 49; (with_reducible refine C1.out.mono ?_); rintro e W1 ⟨rfl, hw1⟩; rw [hw1]; clear hw1)
      | (go_at_call 64; (with_reducible refine C2.out.mono ?_); rintro e W1 ⟨rfl, hw1⟩; rw [hw1]; clear hw1)
      | (go_at_call 50; (with_reducible refine C3.out.mono ?_); rintro e W1 ⟨⟨off, c1, rfl, ho1, ho2, ho3⟩, g1, g2, g3⟩; obtain ⟨W2, hrun, k1, k2⟩ := hcpy.out W1 g2 g3 off c1 ho1; have HE := hid (hfd.out W1 W2 g1 g3 k1 k2); clear g1 g2 g3 k1 k2 ho1))
    go_ret2
    exact ⟨rfl, HE.out⟩
end
end Go.Proofs.Ythgkonjglappjaa

set_option linter.unusedVariables false
set_option linter.unusedSimpArgs false
set_option maxRecDepth 100000
namespace Go.Proofs.Ythgkonjglappjaa
open Go.RowKit

def NewP (n : Int) (w : World) (e : Ending) (w' : World) : Prop := if n < 1 ∨ 4194304 < n then e = .returned (.tuple #[.pointer none, .int .i64 1]) ∧ w' = w else ∃ v F, e = .returned (.tuple #[v, .int .i64 0]) ∧ PH w.heap.size v n [] F w' ∧ Below w.heap.size w w'
set_option maxHeartbeats 4000000 in
theorem pnew_is (n : Int) (hn : Z64 n) (w : World) : Calls Try.prog 27 #[.int .i64 n] w fun e w' => NewP n w e w' := by
  by_cases h1 : n < 1
  · go_enter Try.func27, Try.ntmps27
    go_wp2
    go_ret2
    unfold NewP
    rw [if_pos (.inl h1)]
    exact ⟨rfl, rfl⟩
  by_cases h2 : 4194304 < n
  · go_enter Try.func27, Try.ntmps27
    go_wp2
    go_ret2
    unfold NewP
    rw [if_pos (.inr h2)]
    exact ⟨rfl, rfl⟩
  · obtain ⟨k, rfl⟩ : ∃ k : Nat, n = (k : Int) := ⟨n.toNat, by omega⟩
    have hmk := fun wx => run_make_row' (P := Try.prog) 27 46 (.int .u64 0) 8 Try.underlying27 info_word rfl .i64 .i64 k (by omega) (by omega) wx
    clear hn
    go_enter Try.func27, Try.ntmps27
    go_wp2
    go_ret2
    unfold NewP
    rw [if_neg (by omega)]
    obtain ⟨W1, hW1⟩ : ∃ W, W = w.alloc (.cells (madeCells #[.int .u64 0] k) 46) := ⟨_, rfl⟩
    rw [← hW1]
    have b1 : Below w.heap.size w W1 := by rw [hW1]; exact Ba _ _
    have r1 : W1.heap[w.heap.size]? = some (.cells (madeCells #[.int .u64 0] k) 46 (0, 0)) := by rw [hW1]; exact blk_new _ _ _
    have s1 : W1.heap.size = w.heap.size + 1 := by rw [hW1, size_alloc]
    have em : madeCells #[.int .u64 0] k = (uz ([] ++ List.replicate k 0)).toArray := by
      rw [← Array.toArray_toList (xs := madeCells #[.int .u64 0] k), toList_madeCells_one]; simp [uz]
    refine ⟨.pointer (some ⟨w.heap.size + 1, 0, none⟩), fun b => b = W1.heap.size ∨ b = w.heap.size, rfl, ⟨⟨W1.heap.size, w.heap.size, k, List.replicate k 0, by rw [s1], ?_, rfl, ?_, by simp, by omega, by omega, Nat.le_refl _, fun b => Iff.rfl⟩, by simp; omega, fun z hz => by cases hz⟩, Bt b1 (Ba _ _)⟩
    · exact blk_new _ _ _
    · rw [← em]; exact ((Ba W1 _).block w.heap.size (by omega)).trans r1
theorem pnew_any (n : Int) (hn : Z64 n) (w : World) :
    Calls Try.prog 27 #[.int .i64 n] w fun e w' => if n < 1 ∨ 4194304 < n then e = .returned (.tuple #[.pointer none, .int .i64 1]) ∧ w' = w else ∃ v F, e = .returned (.tuple #[v, .int .i64 0]) ∧ PH w.heap.size v n [] F w' ∧ Below w.heap.size w w' := pnew_is n hn w
section
variable {B : Nat} {v : Value} {N : Int} {F : Nat → Prop} {os : List Ob}
/-- What the program's Fill answers; the objects behind it. -/
def fillP (os : List Ob) (N kind n z : Int) : Int × Int :=
  if kind < 1 ∨ 22 < kind then (0, 70) else if n < 0 ∨ 4194304 < n then (0, 1) else allocM os N kind (List.replicate n.toNat z)
def fillQ (os : List Ob) (N kind n z : Int) : List Ob := if (fillP os N kind n z).2 = 0 then os ++ [⟨kind, List.replicate n.toNat z⟩] else os
theorem rep_any (n : Nat) (z : Int) : (List.replicate n z).any isHd = (decide (0 < n) && isHd z) := by
  induction n with
  | zero => simp
  | succ k ih => simp [List.replicate_succ, ih]
set_option maxHeartbeats 8000000 in
theorem pfill_any (ho : OsOk os) (kind n z : Int) (hk : Z64 kind) (hn : Z64 n) (hz : U64 z) (w : World) (h : PH B v N (wordsL os) F w) (hB : B ≤ w.heap.size) :
    Calls Try.prog 29 #[v, .int .i64 kind, .int .i64 n, .int .u64 z] w fun e w' => e = .returned (.tuple #[.int .u64 (fillP os N kind n z).1, .int .i64 (fillP os N kind n z).2]) ∧ PPost B v N F w (wordsL (fillQ os N kind n z)) w' := by
  have C1 := hid (istype_any kind hk w)
  have C2 := hid (q_ishead z hz w)
  have same : Hid (∀ W, Below w.heap.size w W → PPost B v N F w (wordsL os) W) := fun W hb => ⟨F, h.keep (fun b hf => hb.block b (h.ge b hf).2), fun b hb => .inl hb, Mod.of_below F hb⟩
  have HZ := hid hz
  unfold Z64 at hn
  by_cases h1 : kind < 1 ∨ 22 < kind
  · have e1 : fillP os N kind n z = (0, 70) := by unfold fillP; rw [if_pos h1]
    have e2 : fillQ os N kind n z = os := by unfold fillQ; rw [e1]; rfl
    rw [e1, e2]
    rw [decide_eq_true h1] at C1
    obtain ⟨gh, rfl⟩ := h.ptr
    simp only
    clear h hB h1 e1 e2 hk
    go_enter Try.func29, Try.ntmps29
    go_wp2_with (go_at_call 49; (with_reducible refine C1.out.mono ?_); rintro e W1 ⟨rfl, hw1⟩; rw [hw1]; clear hw1)
    go_ret2
    exact ⟨rfl, same.out _ (Below.refl _ _)⟩
  rw [decide_eq_false h1] at C1
  by_cases h2 : n < 0 ∨ 4194304 < n
  · have e1 : fillP os N kind n z = (0, 1) := by unfold fillP; rw [if_neg h1, if_pos h2]
    have e2 : fillQ os N kind n z = os := by unfold fillQ; rw [e1]; rfl
    rw [e1, e2]
    obtain ⟨gh, rfl⟩ := h.ptr
    simp only
    clear h hB h1 e1 e2 hk
    by_cases h3 : n < 0
    · go_enter Try.func29, Try.ntmps29
      go_wp2_with (go_at_call 49; (with_reducible refine C1.out.mono ?_); rintro e W1 ⟨rfl, hw1⟩; rw [hw1]; clear hw1)
      go_ret2
      exact ⟨rfl, same.out _ (Below.refl _ _)⟩
    · have h4 : 4194304 < n := by omega
      go_enter Try.func29, Try.ntmps29
      go_wp2_with (go_at_call 49; (with_reducible refine C1.out.mono ?_); rintro e W1 ⟨rfl, hw1⟩; rw [hw1]; clear hw1)
      go_ret2
      exact ⟨rfl, same.out _ (Below.refl _ _)⟩
  obtain ⟨k, rfl⟩ : ∃ k : Nat, n = (k : Int) := ⟨n.toNat, by omega⟩
  have hkb : k ≤ 4194304 := by omega
  have e0 : fillP os N kind k z = allocM os N kind (List.replicate k z) := by unfold fillP; rw [if_neg h1, if_neg h2, Int.toNat_natCast]
  have e0' : fillQ os N kind k z = allocO os N kind (List.replicate k z) := by unfold fillQ allocO; rw [e0, Int.toNat_natCast]
  rw [e0, e0']
  have hkk : 1 ≤ kind ∧ kind ≤ 22 := by omega
  obtain ⟨gh, gw, nn, rest, rfl, hp⟩ := h.opened
  have HP := hid hp
  have hlr : (List.replicate k z).length = k := List.length_replicate
  by_cases h3 : (0 < k) ∧ isHd z = true
  · have e1 : allocM os N kind (List.replicate k z) = (0, 1) := by unfold allocM; rw [if_neg h1, if_pos (by rw [rep_any, decide_eq_true h3.1, h3.2]; rfl)]
    have e2 : allocO os N kind (List.replicate k z) = os := by unfold allocO; rw [e1]; rfl
    rw [e1, e2]
    have h4 := h3.1
    rw [h3.2] at C2
    simp only
    clear h hp hB h1 h2 h3 e1 e2 e0 e0' hk hn
    go_enter Try.func29, Try.ntmps29
    go_wp2_with (first
      | (go_at_call 49; (with_reducible refine C1.out.mono ?_); rintro e W1 ⟨rfl, hw1⟩; rw [hw1]; clear hw1)
      | (go_at_call 46; (with_reducible refine C2.out.mono ?_); rintro e W1 ⟨rfl, hw1⟩; rw [hw1]; clear hw1))
    go_ret2
    exact ⟨rfl, same.out _ (Below.refl _ _)⟩
  have hany : (List.replicate k z).any isHd = false := by
    rw [rep_any]
    cases hb : isHd z
    · simp
    · have : ¬ 0 < k := fun h => h3 ⟨h, hb⟩
      rw [decide_eq_false this]; rfl
  have hhz : k = 0 ∨ isHd z = false := by
    cases hb : isHd z
    · exact .inr rfl
    · exact .inl (by have : ¬ 0 < k := fun h => h3 ⟨h, hb⟩; omega)
  by_cases h5 : N - (usedL os : Nat) < 1 + (k : Nat)
  · have e1 : allocM os N kind (List.replicate k z) = (0, 3) := by unfold allocM; rw [if_neg h1, hany, hlr, if_pos h5]; rfl
    have e2 : allocO os N kind (List.replicate k z) = os := by unfold allocO; rw [e1]; rfl
    rw [e1, e2]
    have C3 := hid (layfull kind k (by rw [wordsL_length]; omega) hp)
    simp only
    have HH := hid hhz
    clear h hp hB h1 h2 h3 h5 e1 e2 e0 e0' hk hn hhz hany hlr
    by_cases h8 : 0 < k
    · have h6 : isHd z = false := HH.out.resolve_left (by omega)
      rw [h6] at C2
      go_enter Try.func29, Try.ntmps29
      go_wp2_with (first
        | (go_at_call 49; (with_reducible refine C1.out.mono ?_); rintro e W1 ⟨rfl, hw1⟩; rw [hw1]; clear hw1)
        | (go_at_call 46; (with_reducible refine C2.out.mono ?_); rintro e W1 ⟨rfl, hw1⟩; rw [hw1]; clear hw1)
        | (go_at_call 50; (with_reducible refine C3.out.mono ?_); rintro e W1 ⟨rfl, b1⟩; have HB1 := hid b1; clear b1))
      go_loopw [41] (fun i wr => i = .int .i64 0 ∧ Hid (wr = W1)) (fun _ _ => 0)
      case atStart => exact ⟨rfl, rfl⟩
      case round =>
        obtain ⟨rfl, hI⟩ := hrel
        go_wp2_with fail
        go_ret2
        rw [hI.out]
        exact ⟨rfl, same.out _ HB1.out⟩
    · have hk1 : decide (0 < k) = false := decide_eq_false h8
      have hk2 : decide ((0 : Int) < k) = false := decide_eq_false (by omega)
      have HK8 := hid h8
      clear h8
      go_enter Try.func29, Try.ntmps29
      go_wp2_with (first
        | (go_at_call 49; (with_reducible refine C1.out.mono ?_); rintro e W1 ⟨rfl, hw1⟩; rw [hw1]; clear hw1)
        | (go_at_call 50; (with_reducible refine C3.out.mono ?_); rintro e W1 ⟨rfl, b1⟩; have HB1 := hid b1; clear b1))
      go_loopw [41] (fun i wr => i = .int .i64 0 ∧ Hid (wr = W1)) (fun _ _ => 0)
      case atStart => exact ⟨rfl, rfl⟩
      case round =>
        obtain ⟨rfl, hI⟩ := hrel
        go_wp2_with fail
        go_ret2
        rw [hI.out]
        exact ⟨rfl, same.out _ HB1.out⟩
  · have e1 : allocM os N kind (List.replicate k z) = (wordR 2 (usedL os : Nat) 0, 0) := by unfold allocM; rw [if_neg h1, hany, hlr, if_neg h5]; rfl
    have e2 := alloc_words (os := os) (N := N) kind (List.replicate k z) (by rw [e1])
    rw [e1, e2, hlr]
    have hs : (k : Int) < N - ((wordsL os).length : Nat) := by rw [wordsL_length]; omega
    have C3 := hid (layhead kind k hkk hs hp)
    have HS := hid hs
    rw [wordsL_length] at C3
    obtain ⟨pt, hpt⟩ : ∃ x, x = wordR 2 (usedL os : Nat) 0 := ⟨_, rfl⟩
    rw [← hpt] at C3 ⊢
    obtain ⟨hd, hhd⟩ : ∃ x, x = wordR 8 (k : Nat) kind := ⟨_, rfl⟩
    have hhu : Hid (U64 hd) := by unfold Hid; rw [hhd]; exact wordR_rng _ _ _
    rw [← hhd] at C3 ⊢
    have HL := hid hlr
    obtain ⟨A, hA⟩ : ∃ A, A = wordsL os ++ [hd] := ⟨_, rfl⟩
    have hAl : Hid (A.length = usedL os + 1) := by unfold Hid; rw [hA]; simp [wordsL_length]
    have hC : Hid (k ≤ rest.tail.length) := by
      unfold Hid
      have := hp.len
      have := hp.nn
      rw [List.length_append, wordsL_length] at *
      rw [List.length_tail]; omega
    have hfd : Hid (∀ W1 W2 : World, W1.heap[gh]? = some (.cells #[.slice (some ⟨gw, 0, none⟩) nn nn, .int .i64 ((usedL os + 1 + k : Nat) : Int)] 86 (0, 0)) → Mod F w W1 → W2.heap[gw]? = some (.cells (uz (A ++ (List.replicate k z ++ rest.tail.drop k))).toArray 46 (0, 0)) → Mod (fun b => b = gw) W1 W2 → PPost B (.pointer (some ⟨gh, 0, none⟩)) N F w (wordsL os ++ hd :: List.replicate k z) W2) := fun W1 W2 g1 g2 g3 g4 => by
      have hgh := (Array.getElem?_eq_some_iff.1 g1).1
      have q := lay_shut (w' := W2) HP.out (hd := hd) (fl := List.replicate k z) (by rw [HL.out]; exact HS.out) hhu.out (fun y hy => by rw [List.eq_of_mem_replicate hy]; exact HZ.out) ((g4.block gh hgh HP.out.ne).trans (by rw [g1, wordsL_length, HL.out])) (by rw [g3, hA, HL.out]; simp)
      exact ⟨F, q.shut, fun b hb => .inl hb, g2.trans g4 (fun b _ e => by rw [e]; exact (HP.out.ff gw).2 (.inr rfl))⟩
    have hst : Hid (∀ (W1 : World), W1.heap[gw]? = some (.cells (uz (wordsL os ++ (hd :: rest.tail))).toArray 46 (0, 0)) → W1.heap[gw]? = some (.cells (uz (A ++ (List.replicate 0 z ++ rest.tail.drop 0))).toArray 46 (0, 0))) := fun W1 g => by rw [g, hA]; simp
    have hHA := hid hA
    simp only
    have HH := hid hhz
    clear h hp hB h1 h2 h3 h5 e1 e2 e0 e0' hk hn hhz hany hlr hpt hhd hA
    unfold LayPost at C3
    obtain ⟨RT, hRT⟩ : ∃ r, r = rest.tail := ⟨_, rfl⟩
    rw [← hRT] at C3 hfd hst hC
    clear hRT
    have go : Hid (∀ (W1 wr : World) (q : Nat), q < k → wr.heap[gw]? = some (.cells (uz (A ++ (List.replicate q z ++ RT.drop q))).toArray 46 (0, 0)) → (wr.setCell ⟨gw, usedL os + 1 + q, none⟩ (.int .u64 z)).heap[gw]? = some (.cells (uz (A ++ (List.replicate (q + 1) z ++ RT.drop (q + 1)))).toArray 46 (0, 0))) := fun W1 wr q hq g => by
      rw [blk_set (i := usedL os + 1 + q) g (.int .u64 z)]
      have hc := hC.out
      have e1 : RT.drop q = RT[q]'(by omega) :: RT.drop (q + 1) := List.drop_eq_getElem_cons (by omega)
      rw [e1, ← hAl.out]
      have e2 : ∀ x : List Int, (uz (A ++ (List.replicate q z ++ x))).length = A.length + q + x.length := fun x => by simp [uz]; omega
      have : (uz (A ++ (List.replicate q z ++ RT[q]'(by omega) :: RT.drop (q + 1)))).toArray.setIfInBounds (A.length + q) (.int .u64 z) = (uz (A ++ (List.replicate (q + 1) z ++ RT.drop (q + 1)))).toArray := by
        rw [List.setIfInBounds_toArray]
        congr 1
        rw [uz_append, List.set_append_right _ _ (by rw [uz_length]; omega), uz_append, uz_append, List.set_append_right _ _ (by rw [uz_length, uz_length, List.length_replicate]; omega)]
        rw [uz_length, uz_length, List.length_replicate, show A.length + q - A.length - q = 0 by omega]
        rw [show uz (RT[q]'(by omega) :: RT.drop (q + 1)) = .int .u64 (RT[q]'(by omega)) :: uz (RT.drop (q + 1)) from rfl, List.set_cons_zero, List.replicate_succ']
        simp only [uz, List.map_append, List.map_cons, List.map_nil, List.append_assoc, List.cons_append, List.nil_append]
      rw [this]
    have hcell : Hid (∀ (wr : World) (q : Nat), q < k → wr.heap[gw]? = some (.cells (uz (A ++ (List.replicate q z ++ RT.drop q))).toArray 46 (0, 0)) → ∃ y, wr.cell? ⟨gw, usedL os + 1 + q, none⟩ = some (.int .u64 y)) := fun wr q hq g => by
      have hl : usedL os + 1 + q < (A ++ (List.replicate q z ++ RT.drop q)).length := by have hc := hC.out; have ha := hAl.out; simp; omega
      refine ⟨(A ++ (List.replicate q z ++ RT.drop q)).getD (usedL os + 1 + q) 0, (blk_cell g _).trans ?_⟩
      rw [List.getElem?_toArray, uz_get hl]
    by_cases h8 : 0 < k
    · have h6 : isHd z = false := HH.out.resolve_left (by omega)
      rw [h6] at C2
      go_enter Try.func29, Try.ntmps29
      go_wp2_with (first
        | (go_at_call 49; (with_reducible refine C1.out.mono ?_); rintro e W1 ⟨rfl, hw1⟩; rw [hw1]; clear hw1)
        | (go_at_call 46; (with_reducible refine C2.out.mono ?_); rintro e W1 ⟨rfl, hw1⟩; rw [hw1]; clear hw1)
        | (go_at_call 50; (with_reducible refine C3.out.mono ?_); rintro e W1 ⟨⟨off, c1, rfl, ho1, ho2, ho3⟩, g1, g2, g3⟩; obtain rfl := ho1 h8; have HG1 := hid g1; have HG2 := hid (hst.out W1 g2); have HG3 := hid g3; clear g1 g2 g3 ho1))
      go_loopw [41] (fun i wr => ∃ q : Nat, q ≤ k ∧ i = .int .i64 q ∧ Hid (wr.heap[gw]? = some (.cells (uz (A ++ (List.replicate q z ++ RT.drop q))).toArray 46 (0, 0)) ∧ Mod (fun b => b = gw) W1 wr)) (fun i _ => k - (intOf i).toNat)
      case atStart => exact ⟨0, Nat.zero_le _, rfl, HG2.out, Mod.refl _ _⟩
      case round =>
        obtain ⟨q, hq, rfl, hI⟩ := hrel
        by_cases hlt : q < k
        · obtain ⟨y, cy⟩ := hcell.out wr q hlt hI.out.1
          have fy := blk_free hI.out.1 (usedL os + 1 + q)
          have HN := hid (go.out W1 wr q hlt hI.out.1)
          have HM := hid (hI.out.2.setCell (p := ⟨gw, usedL os + 1 + q, none⟩) (.inl rfl) (.int .u64 z))
          go_wp2_with fail
          exact ⟨⟨q + 1, by omega, by go_num, HN.out, HM.out⟩, by simp [intOf] <;> omega⟩
        · obtain rfl : q = k := by omega
          go_wp2_with fail
          go_ret2
          exact ⟨rfl, hfd.out W1 wr HG1.out HG3.out hI.out.1 hI.out.2⟩
    · have hk1 : decide (0 < k) = false := decide_eq_false h8
      have hk2 : decide ((0 : Int) < k) = false := decide_eq_false (by omega)
      have HK8 := hid h8
      clear h8
      go_enter Try.func29, Try.ntmps29
      go_wp2_with (first
        | (go_at_call 49; (with_reducible refine C1.out.mono ?_); rintro e W1 ⟨rfl, hw1⟩; rw [hw1]; clear hw1)
        | (go_at_call 50; (with_reducible refine C3.out.mono ?_); rintro e W1 ⟨⟨off, c1, rfl, ho1, ho2, ho3⟩, g1, g2, g3⟩; have HG1 := hid g1; have HG2 := hid (hst.out W1 g2); have HG3 := hid g3; clear g1 g2 g3 ho1))
      go_loopw [41] (fun i wr => ∃ q : Nat, q ≤ k ∧ i = .int .i64 q ∧ Hid (wr.heap[gw]? = some (.cells (uz (A ++ (List.replicate q z ++ RT.drop q))).toArray 46 (0, 0)) ∧ Mod (fun b => b = gw) W1 wr)) (fun i _ => k - (intOf i).toNat)
      case atStart => exact ⟨0, Nat.zero_le _, rfl, HG2.out, Mod.refl _ _⟩
      case round =>
        obtain ⟨q, hq, rfl, hI⟩ := hrel
        obtain rfl : q = k := by have := HK8.out; omega
        go_wp2_with fail
        go_ret2
        exact ⟨rfl, hfd.out W1 wr HG1.out HG3.out hI.out.1 hI.out.2⟩
end
end Go.Proofs.Ythgkonjglappjaa

set_option linter.unusedVariables false
set_option linter.unusedSimpArgs false
set_option maxRecDepth 100000
namespace Go.Proofs.Ythgkonjglappjaa
open Go.RowKit

theorem ptrs_len (os : List Ob) : (ptrsL os).length = os.length := by unfold ptrsL; simp
theorem ptrs_at {os : List Ob} {k : Nat} (h : k < os.length) : (ptrsL os).take (k + 1) = (ptrsL os).take k ++ [wordR 2 (atO os k : Nat) 0] := by
  rw [List.take_succ_eq_append_getElem (by rw [ptrs_len]; exact h)]
  congr 2
  unfold ptrsL; simp
theorem ptrs_get {os : List Ob} {i : Nat} (h : i < os.length) : (ptrsL os).getD i 0 = wordR 2 (atO os i : Nat) 0 := by
  unfold ptrsL
  rw [List.getD_eq_getElem?_getD, List.getElem?_map, List.getElem?_range h]; rfl
/-- So many objects begin ahead of a place. -/
def Ahead (os : List Ob) (q k : Nat) : Prop := k ≤ os.length ∧ (∀ j, j < k → atO os j < q) ∧ (k < os.length → q ≤ atO os k)
theorem Ahead.zero (os : List Ob) : Ahead os 0 0 := ⟨Nat.zero_le _, fun j hj => by omega, fun _ => Nat.zero_le _⟩
theorem Ahead.yes {os : List Ob} {q k j : Nat} (h : Ahead os q k) (hj : j < os.length) (e : q = atO os j) : j = k ∧ Ahead os (q + 1) (k + 1) := by
  obtain ⟨h1, h2, h3⟩ := h
  have hjk : k ≤ j := Nat.le_of_not_lt (fun hlt => by have := h2 j hlt; omega)
  have hkj : j = k := by
    rcases Nat.lt_or_ge k j with hlt | hge
    · have := at_mono (os := os) (j := k) (k := j) (by omega) (by omega)
      have := h3 (by omega)
      omega
    · omega
  subst hkj
  refine ⟨rfl, by omega, fun i hi => ?_, fun hlt => ?_⟩
  · by_cases e' : i = j
    · rw [e', ← e]; omega
    · have := h2 i (by omega); omega
  · have := at_mono (os := os) (j := j) (k := j + 1) (by omega) (by omega)
    omega
theorem Ahead.no {os : List Ob} {q k : Nat} (h : Ahead os q k) (hn : ¬ ∃ j, j < os.length ∧ q = atO os j) : Ahead os (q + 1) k := by
  obtain ⟨h1, h2, h3⟩ := h
  refine ⟨h1, fun j hj => by have := h2 j hj; omega, fun hlt => ?_⟩
  have := h3 hlt
  have : q ≠ atO os k := fun e => hn ⟨k, hlt, e⟩
  omega
theorem Ahead.all {os : List Ob} {k : Nat} (h : Ahead os (usedL os) k) : k = os.length := by
  obtain ⟨h1, h2, h3⟩ := h
  rcases Nat.lt_or_ge k os.length with hlt | hge
  · have := h3 hlt
    have := at_lt hlt
    omega
  · omega
set_option maxHeartbeats 8000000 in
theorem pobjects_any {B : Nat} {v : Value} {N : Int} {F : Nat → Prop} {os : List Ob} (ho : OsOk os) (w : World) (h : PH B v N (wordsL os) F w) : Calls Try.prog 22 #[v] w fun e w' => ∃ ao cap, e = .returned (.slice ao os.length cap) ∧ URow w' ao os.length cap (ptrsL os) ∧ (∀ a, ao = some a → w.heap.size ≤ a.block) ∧ Below w.heap.size w w' := by
  have CU := hid (q_used w h)
  have hbd := h.bd
  rw [wordsL_length] at hbd CU
  obtain ⟨gh, gw, n, rest, rfl, hp⟩ := h.opened
  have HP := hid hp
  have hnn := hp.nn
  subst hnn
  obtain ⟨U, hU⟩ : ∃ u, u = usedL os := ⟨_, rfl⟩
  have HU := hid hU
  rw [← hU] at CU hbd
  have HO := hid ho
  clear h hp hU ho
  have hend : Hid (∀ (x : Value) (wr : World) (k : Nat), Ahead os U k → wr.ownsRow w.heap.size 46 1 x k (uz ((ptrsL os).take k)) → ∃ ao cap, x = .slice ao os.length cap ∧ URow wr ao os.length cap (ptrsL os) ∧ (∀ a, ao = some a → w.heap.size ≤ a.block)) := fun x wr k ha hr => by
    rw [HU.out] at ha
    have hk := ha.all
    subst hk
    rw [List.take_of_length_le (by rw [ptrs_len]; exact Nat.le_refl _)] at hr
    have hr2 := hr
    rw [← ptrs_len] at hr2
    obtain ⟨ao, cap, hv, hu⟩ := urow_own hr2 (fun z hz => by unfold ptrsL at hz; obtain ⟨i, _, rfl⟩ := List.mem_map.1 hz; exact wordR_rng _ _ _)
    rw [ptrs_len] at hv hu
    refine ⟨ao, cap, hv, hu, fun a ha => (hr.lt a.block (by rw [hv, ha]; rfl)).1⟩
  go_enter Try.func22, Try.ntmps22
  go_wp2_with (go_at_call 26; (with_reducible refine CU.out.mono ?_); rintro e W1 ⟨rfl, hw1⟩; rw [hw1]; clear hw1)
  go_loopw [3, 9] (fun x i wr => ∃ q : Nat, q ≤ U ∧ i = .int .i64 q ∧ Hid (∃ k, Ahead os q k ∧ wr.ownsRow w.heap.size 46 1 x k (uz ((ptrsL os).take k)) ∧ Below w.heap.size w wr)) (fun _ i _ => U - (intOf i).toNat)
  case atStart => exact ⟨0, Nat.zero_le _, rfl, 0, Ahead.zero os, by simpa [uz] using World.ownsRow_nil _ _ _ _, Below.refl _ _⟩
  case round =>
    obtain ⟨q, hq, rfl, hI⟩ := hrel
    obtain ⟨k, ha, hr, hb⟩ := hI.out
    have HAA := hid ha
    have HRR := hid hr
    have HBB := hid hb
    clear hI ha hr hb
    by_cases hlt : q < U
    · have hp := HP.out.on HBB.out
      have c0 := hp.c0
      have hlw : q < (wordsL os).length := by rw [wordsL_length, ← HU.out]; exact hlt
      have cw := hp.word' hlw
      have hul := hp.used_le
      rw [wordsL_length, ← HU.out] at hul
      have hzu := hp.u _ (getD_in_f hlw)
      have hiff := head_iff HO.out (by rw [← HU.out]; omega) (i := q) (by rw [← HU.out]; exact hlt)
      obtain ⟨z, hz⟩ : ∃ z, z = (wordsL os).getD q 0 := ⟨_, rfl⟩
      rw [← hz] at cw hzu hiff
      have C2 := hid (q_ishead z hzu wr)
      have HIFF := hid hiff
      obtain ⟨b, hbb⟩ : ∃ b, b = isHd z := ⟨_, rfl⟩
      rw [← hbb] at C2
      have HBV := hid hbb
      clear hp hlw hzu hz hbb hiff
      have hkq : Hid (k ≤ 4194304) := by
        unfold Hid
        have h1 := HAA.out.1
        have := len_le_used os
        have := HU.out
        omega
      cases b
      · have HN : Hid (Ahead os (q + 1) k) := HAA.out.no (fun ⟨j, h1, h2⟩ => by
          have := HIFF.out.2 ⟨j, h1, h2⟩
          have h3 := HBV.out
          unfold isHd at h3
          rw [decide_eq_true this] at h3
          cases h3)
        go_wp2_with (go_at_call 46; (with_reducible refine C2.out.mono ?_); rintro e W2 ⟨rfl, hw2⟩; rw [hw2]; clear hw2)
        exact ⟨⟨q + 1, by omega, by go_num, k, HN.out, HRR.out, HBB.out⟩, by simp [intOf] <;> omega⟩
      · obtain ⟨j, hj, hje⟩ := HIFF.out.1 (of_decide_eq_true HBV.out.symm)
        obtain ⟨hjk, hN⟩ := HAA.out.yes hj hje
        subst hjk
        have HN := hid hN
        have C3 := hid (ptr_any (q : Int) (by unfold Z64; omega) wr)
        obtain ⟨X, hX⟩ : ∃ X, X = wordR 2 (q : Nat) 0 := ⟨_, rfl⟩
        have hXu : U64 X := by rw [hX]; exact wordR_rng _ _ _
        obtain ⟨rb, hrb⟩ : ∃ r, r = rightB 2 (q : Nat) 0 := ⟨_, rfl⟩
        rw [← hX, ← hrb] at C3
        have HT : Hid ((ptrsL os).take (j + 1) = (ptrsL os).take j ++ [X]) := by unfold Hid; rw [ptrs_at hj, ← hje, hX]
        obtain ⟨L, hL⟩ : ∃ l, l = (ptrsL os).take j := ⟨_, rfl⟩
        rw [← hL] at HRR HT
        have HO1 := hid (uown_on HRR.out (Ba wr (.cells #[.int .u64 X] 46)))
        have HU1 := hid (urow_one (blk_new wr #[.int .u64 X] 46) hXu)
        have HB1 := hid (Bt HBB.out (Ba wr (.cells #[.int .u64 X] 46)))
        have HSz : Hid (w.heap.size ≤ (wr.alloc (.cells #[.int .u64 X] 46)).heap.size) := HB1.out.size
        have hjs : j ≤ 4194304 := hkq.out
        clear hX hrb hL hj hje hN hXu
        go_wp2_with (first
          | (go_at_call 46; (with_reducible refine C2.out.mono ?_); rintro e W2 ⟨rfl, hw2⟩; rw [hw2]; clear hw2)
          | (go_at_call 47; (with_reducible refine C3.out.mono ?_); rintro e W2 ⟨rfl, hw2⟩; rw [hw2]; clear hw2)
          | (at_builtin; refine appU rfl _ _ 27 rfl w.heap.size 46 Try.underlying27 info_word _ j L rfl HO1.out (some ⟨wr.heap.size, 0, none⟩) 1 1 [X] rfl HU1.out (by omega) HSz.out ?_; intro v' w5 ho5 hg5))
        refine ⟨⟨q + 1, by omega, by go_num, j + 1, HN.out, ?_, HB1.out.grown hg5 HSz.out (fun k hk => (HO1.out.lt k hk).1)⟩, by simp [intOf] <;> omega⟩
        rw [HT.out]; exact ho5
    · obtain rfl : q = U := by omega
      go_wp2_with fail
      go_ret
      obtain ⟨ao, cap, e1, e2, e3⟩ := hend.out _ _ _ HAA.out HRR.out
      exact ⟨ao, cap, congrArg Ending.returned e1, e2, e3, HBB.out⟩
end Go.Proofs.Ythgkonjglappjaa
