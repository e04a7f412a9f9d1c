/-
  Both heaps in one memory; objects behind Alloc, Fill, Set.
-/
import Derived.Test.YtdekkieajffblaaGreatV9c
import Derived.Laws.CopyRow
import Derived.Laws.IdiomCopy
set_option linter.unusedVariables false
set_option linter.unusedSimpArgs false
set_option maxRecDepth 100000
namespace Go.Proofs.YtdekkieajffblaaGreat
open Go.RowKit

theorem word_one : (Tryz.prog.info? 35).map (·.size) = some 1 := by
  have hi := info_word
  cases h : Tryz.prog.info? 35 with
  | none => rw [h] at hi; cases hi
  | some i => rw [h] at hi; simp at hi; simp [hi.2.1]
/-- copy of words into a row. -/
theorem copy_words {w : World} {gw off cap : Nat} {A C fl : List Int} (hr : w.heap[gw]? = some (.cells (uz (A ++ C)).toArray 35 (0, 0))) (hoff : 0 < fl.length → off = A.length) (hC : fl.length ≤ C.length)
    {ao : Option Addr} {n c : Nat} (R : URow w ao n c fl) :
    ∃ w', (∀ ty, (Builtin.copy_ #[33, 33] ty #[.slice (some ⟨gw, off, none⟩) n cap, .slice ao n c]).run Tryz.prog w = .ok (goInt n) w') ∧ w'.heap[gw]? = some (.cells (uz (A ++ (fl ++ C.drop fl.length))).toArray 35 (0, 0)) ∧ Mod (fun b => b = gw) w w' := by
  by_cases h0 : fl.length = 0
  · have hn : n = 0 := by rw [← R.len]; exact h0
    subst hn
    have hf : fl = [] := List.length_eq_zero_iff.1 h0
    subst hf
    exact ⟨w, fun ty => run_copy_none w _ _ ty 35 _ _ 0 cap 0 c Tryz.underlying33 word_one rfl, by simpa using hr, Mod.refl _ _⟩
  · have ho := hoff (by omega)
    subst ho
    obtain ⟨b, o, rfl, hlb, hcc⟩ := R.some (by have := R.len; omega)
    have hlen : (uz fl).length = n := by rw [uz_length, R.len]
    have hsz : (uz (A ++ C)).toArray.size = A.length + C.length := by simp [uz]
    have hrun := fun ty => run_copy_row (P := Tryz.prog) w 33 33 ty 35 gw A.length n cap ⟨b, o, none⟩ n c (uz (A ++ C)).toArray 35 (uz fl) Tryz.underlying33 word_one hr (by rw [hlen]; exact (Nat.min_self n).symm)
      (fun j v hj => by
        have hjl : j < fl.length := by
          have := (List.getElem?_eq_some_iff.1 hj).1
          rwa [uz_length] at this
        rw [uz_get hjl] at hj
        cases hj
        have := hcc j (by have := R.len; omega)
        unfold Addr.add
        by_cases hj0 : j = 0
        · subst hj0; simpa using this
        · rw [if_neg hj0]; exact this)
      (by rw [hsz, uz_length]; omega)
      (fun v hv => by unfold uz at hv; obtain ⟨z, _, rfl⟩ := List.mem_map.1 hv; rfl)
    refine ⟨_, fun ty => by have := hrun ty; rw [hlen] at this; exact this, ?_, ?_⟩
    · rw [setRow_heap w gw _ _ _ _ hr]
      have e1 : (uz (A ++ C)).toArray.toList.take A.length ++ uz fl ++ (uz (A ++ C)).toArray.toList.drop (A.length + n) = uz (A ++ (fl ++ C.drop fl.length)) := by
        have h1 : (uz (A ++ C)).toArray.toList = uz A ++ uz C := by rw [← uz_append]
        have h2 : (uz A).length = A.length := uz_length A
        rw [h1, ← h2, List.take_left, List.drop_append, uz_append, uz_append, R.len]
        have h3 : (uz A).drop ((uz A).length + n) = [] := List.drop_eq_nil_of_le (by omega)
        have h4 : (uz A).length + n - (uz A).length = n := by omega
        have h5 : (uz C).drop n = uz (C.drop n) := by unfold uz; rw [List.map_drop]
        rw [h3, h4, List.nil_append, h5, List.append_assoc]
      rw [e1]
    · refine ⟨rfl, rfl, rfl, ?_, fun j _ hj => setRow_other w gw j _ hj⟩
      simp [World.setRow]
section
variable {B gh gw n : Nat} {N : Int} {ws rest : List Int} {F : Nat → Prop} {w : World}
/-- An object more. -/
theorem lay_shut {w' : World} (h : PO B gh gw n N ws rest F w) {hd : Int} {fl : List Int} (hs : (fl.length : Int) < N - (ws.length : Nat)) (hhd : U64 hd) (hfl : ∀ z ∈ fl, U64 z)
    (hb : w'.heap[gh]? = some (.cells #[.slice (some ⟨gw, 0, none⟩) n n, .int .i64 ((ws.length + 1 + fl.length : Nat) : Int)] 65 (0, 0)))
    (hr : w'.heap[gw]? = some (.cells (uz (ws ++ (hd :: (fl ++ rest.tail.drop fl.length)))).toArray 35 (0, 0))) :
    PO B gh gw n N (ws ++ hd :: fl) (rest.tail.drop fl.length) F w' := by
  have hl := h.len
  have hnn := h.nn
  rw [List.length_append] at hl
  have hrt : rest.tail.length = rest.length - 1 := List.length_tail
  have e0 : (ws ++ hd :: fl).length = ws.length + 1 + fl.length := by rw [List.length_append, List.length_cons]; omega
  refine { h with box := ?_, row := ?_, len := ?_, bd := ?_, u := ?_ }
  · rw [e0]; exact hb
  · rw [hr]; simp
  · rw [List.length_append, e0, List.length_drop]; omega
  · rw [e0]; have := h.bd; omega
  · intro z hz
    rcases List.mem_append.1 hz with hz | hz
    · exact h.u z hz
    · rcases List.mem_cons.1 hz with rfl | hz
      · exact hhd
      · exact hfl z hz
end
section
variable {B : Nat} {v : Value} {N : Int} {F : Nat → Prop} {os : List Ob}
theorem alloc_words (kind : Int) (fl : List Int) (h : (allocM os N kind fl).2 = 0) : wordsL (allocO os N kind fl) = wordsL os ++ wordR 8 (fl.length : Nat) kind :: fl := by
  unfold allocO; rw [if_pos h, wordsL_append]; simp [wordsL]
set_option maxHeartbeats 8000000 in
theorem palloc_any (ho : OsOk os) (kind : Int) (hk : Z64 kind) (ao : Option Addr) (n cap : Nat) (fl : List Int) (w : World) (h : PH B v N (wordsL os) F w) (R : URow w ao n cap fl) (hB : B ≤ w.heap.size) (ha : ∀ a, ao = some a → ¬ F a.block) (hsm : n ≤ 1000000) :
    Calls Tryz.prog 58 #[v, .int .i64 kind, .slice ao n cap] w fun e w' => e = .returned (.tuple #[.int .u64 (allocM os N kind fl).1, .int .i64 (allocM os N kind fl).2]) ∧ PPost B v N F w (wordsL (allocO os N kind fl)) w' := by
  have C1 := hid (istype_any kind hk w)
  have C2 := hid (contains_any ao n cap fl w R)
  have hlen := R.len
  have same : Hid (∀ W, Below w.heap.size w W → PPost B v N F w (wordsL os) W) := fun W hb => ⟨F, h.keep (fun b hf => hb.block b (h.ge b hf).2), fun b hb => .inl hb, Mod.of_below F hb⟩
  have hfits := R.fits
  have hmost := R.most
  unfold maxLen at hmost
  have HR := hid R
  have HA := hid ha
  have HB := hid hB
  by_cases h1 : kind < 1 ∨ 22 < kind
  · have e1 : allocM os N kind fl = (0, 70) := by unfold allocM; rw [if_pos h1]
    have e2 : allocO os N kind fl = os := by unfold allocO; rw [e1]; rfl
    rw [e1, e2]
    rw [decide_eq_true h1] at C1
    obtain ⟨gh, rfl⟩ := h.ptr
    simp only
    clear h R ha hB h1 e1 e2 hk
    go_enter Tryz.func58, Tryz.ntmps58
    go_wp2_with (go_at_call 85; (with_reducible refine C1.out.mono ?_); rintro e W1 ⟨rfl, hw1⟩; rw [hw1]; clear hw1)
    go_ret2
    exact ⟨rfl, same.out _ (Below.refl _ _)⟩
  rw [decide_eq_false h1] at C1
  by_cases h2 : fl.any isHd = true
  · have e1 : allocM os N kind fl = (0, 1) := by unfold allocM; rw [if_neg h1, if_pos h2]
    have e2 : allocO os N kind fl = os := by unfold allocO; rw [e1]; rfl
    rw [e1, e2]
    rw [h2] at C2
    obtain ⟨gh, rfl⟩ := h.ptr
    simp only
    clear h R ha hB h1 h2 e1 e2 hk
    go_enter Tryz.func58, Tryz.ntmps58
    go_wp2_with (first
      | (go_at_call 85; (with_reducible refine C1.out.mono ?_); rintro e W1 ⟨rfl, hw1⟩; rw [hw1]; clear hw1)
      | (go_at_call 86; (with_reducible refine C2.out.mono ?_); rintro e W1 ⟨rfl, hw1⟩; rw [hw1]; clear hw1))
    go_ret2
    exact ⟨rfl, same.out _ (Below.refl _ _)⟩
  have h2' : fl.any isHd = false := by simpa using h2
  rw [h2'] at C2
  obtain ⟨gh, gw, nn, rest, rfl, hp⟩ := h.opened
  have HP := hid hp
  by_cases h3 : N - (usedL os : Nat) < 1 + (fl.length : Nat)
  · have e1 : allocM os N kind fl = (0, 3) := by unfold allocM; rw [if_neg h1, if_neg h2, if_pos h3]
    have e2 : allocO os N kind fl = os := by unfold allocO; rw [e1]; rfl
    rw [e1, e2]
    have C3 := hid (layfull kind n (by rw [wordsL_length]; omega) hp)
    have hcp := fun wx ty => run_copy_none (P := Tryz.prog) wx 33 33 ty 35 none ao 0 0 n cap Tryz.underlying33 word_one (Nat.min_eq_right (Nat.zero_le _))
    simp only
    clear h hp R ha hB h1 h2 h2' h3 e1 e2 hk
    go_enter Tryz.func58, Tryz.ntmps58
    go_wp2_with (first
      | (go_at_call 85; (with_reducible refine C1.out.mono ?_); rintro e W1 ⟨rfl, hw1⟩; rw [hw1]; clear hw1)
      | (go_at_call 86; (with_reducible refine C2.out.mono ?_); rintro e W1 ⟨rfl, hw1⟩; rw [hw1]; clear hw1)
      | (go_at_call 88; (with_reducible refine C3.out.mono ?_); rintro e W1 ⟨rfl, b1⟩; have HB1 := hid b1; clear b1))
    go_ret2
    exact ⟨rfl, same.out _ HB1.out⟩
  · have e1 : allocM os N kind fl = (wordR 2 (usedL os : Nat) 0, 0) := by unfold allocM; rw [if_neg h1, if_neg h2, if_neg h3]
    have e2 := alloc_words (os := os) (N := N) kind fl (by rw [e1])
    rw [e1, e2]
    have hs : (n : Int) < N - ((wordsL os).length : Nat) := by rw [wordsL_length]; omega
    have C3 := hid (layhead kind n (by omega) hs hp)
    have HS := hid hs
    rw [wordsL_length] at C3
    obtain ⟨pt, hpt⟩ : ∃ x, x = wordR 2 (usedL os : Nat) 0 := ⟨_, rfl⟩
    rw [← hpt] at C3 ⊢
    rw [hlen]
    obtain ⟨hd, hhd⟩ : ∃ x, x = wordR 8 (n : Nat) kind := ⟨_, rfl⟩
    have hhu : Hid (U64 hd) := by unfold Hid; rw [hhd]; exact wordR_rng _ _ _
    rw [← hhd] at C3 ⊢
    have HL := hid hlen
    have hfd : Hid (∀ W1 W2 : World, W1.heap[gh]? = some (.cells #[.slice (some ⟨gw, 0, none⟩) nn nn, .int .i64 ((usedL os + 1 + n : Nat) : Int)] 65 (0, 0)) → Mod F w W1 → W2.heap[gw]? = some (.cells (uz ((wordsL os ++ [hd]) ++ (fl ++ rest.tail.drop fl.length))).toArray 35 (0, 0)) → Mod (fun b => b = gw) W1 W2 → PPost B (.pointer (some ⟨gh, 0, none⟩)) N F w (wordsL os ++ hd :: fl) W2) := fun W1 W2 g1 g2 g3 g4 => by
      have hgh := (Array.getElem?_eq_some_iff.1 g1).1
      have q := lay_shut (w' := W2) HP.out (hd := hd) (fl := fl) (by rw [HL.out]; exact HS.out) hhu.out HR.out.bd ((g4.block gh hgh HP.out.ne).trans (by rw [g1, wordsL_length, HL.out])) (by rw [g3]; simp)
      exact ⟨F, q.shut, fun b hb => .inl hb, g2.trans g4 (fun b _ e => by rw [e]; exact (HP.out.ff gw).2 (.inr rfl))⟩
    have hC : Hid (fl.length ≤ rest.tail.length) := by
      unfold Hid
      have := hp.len
      have := hp.nn
      rw [List.length_append, wordsL_length] at *
      rw [List.length_tail]; omega
    have hcpy : Hid (∀ W1 : World, W1.heap[gw]? = some (.cells (uz (wordsL os ++ (hd :: rest.tail))).toArray 35 (0, 0)) → Mod F w W1 → ∀ off c1, (0 < n → off = usedL os + 1) → ∃ w', (∀ ty, (Builtin.copy_ #[33, 33] ty #[.slice (some ⟨gw, off, none⟩) n c1, .slice ao n cap]).run Tryz.prog W1 = .ok (goInt n) w') ∧ w'.heap[gw]? = some (.cells (uz ((wordsL os ++ [hd]) ++ (fl ++ rest.tail.drop fl.length))).toArray 35 (0, 0)) ∧ Mod (fun b => b = gw) W1 w') := fun W1 g1 g2 off c1 ho => by
      refine copy_words (A := wordsL os ++ [hd]) (C := rest.tail) (by rw [g1]; simp) (fun h0 => ?_) hC.out (HR.out.keep g2.size (fun hne a ha' => ?_))
      · rw [ho (by rw [← HL.out]; exact h0)]; simp [wordsL_length]
      · rcases HR.out.rd with e | ⟨b, o, e, hlb, _⟩
        · exact absurd e hne
        · rw [e] at ha'; cases ha'
          exact g2.block b hlb (HA.out _ e)
    simp only
    clear h hp R ha hB h1 h2 h2' h3 e1 e2 hk hpt hhd hlen hs
    unfold LayPost at C3
    go_enter Tryz.func58, Tryz.ntmps58
    go_wp2_with (first
      | (go_at_call 85; (with_reducible refine C1.out.mono ?_); rintro e W1 ⟨rfl, hw1⟩; rw [hw1]; clear hw1)
      | (go_at_call 86; (with_reducible refine C2.out.mono ?_); rintro e W1 ⟨rfl, hw1⟩; rw [hw1]; clear hw1)
      | (go_at_call 88; (with_reducible refine C3.out.mono ?_); rintro e W1 ⟨⟨off, c1, rfl, ho1, ho2, ho3⟩, g1, g2, g3⟩; obtain ⟨W2, hrun, k1, k2⟩ := hcpy.out W1 g2 g3 off c1 ho1; have HE := hid (hfd.out W1 W2 g1 g3 k1 k2); clear g1 g2 g3 k1 k2 ho1))
    go_ret2
    exact ⟨rfl, HE.out⟩
end
end Go.Proofs.YtdekkieajffblaaGreat

set_option linter.unusedVariables false
set_option linter.unusedSimpArgs false
set_option maxRecDepth 100000
namespace Go.Proofs.YtdekkieajffblaaGreat
open Go.RowKit

def NewP (n : Int) (w : World) (e : Ending) (w' : World) : Prop := if n < 1 ∨ 4194304 < n then e = .returned (.tuple #[.pointer none, .int .i64 1]) ∧ w' = w else ∃ v F, e = .returned (.tuple #[v, .int .i64 0]) ∧ PH w.heap.size v n [] F w' ∧ Below w.heap.size w w'
set_option maxHeartbeats 4000000 in
theorem pnew_is (n : Int) (hn : Z64 n) (w : World) : Calls Tryz.prog 6 #[.int .i64 n] w fun e w' => NewP n w e w' := by
  by_cases h1 : n < 1
  · go_enter Tryz.func6, Tryz.ntmps6
    go_wp2
    go_ret2
    unfold NewP
    rw [if_pos (.inl h1)]
    exact ⟨rfl, rfl⟩
  by_cases h2 : 4194304 < n
  · go_enter Tryz.func6, Tryz.ntmps6
    go_wp2
    go_ret2
    unfold NewP
    rw [if_pos (.inr h2)]
    exact ⟨rfl, rfl⟩
  · obtain ⟨k, rfl⟩ : ∃ k : Nat, n = (k : Int) := ⟨n.toNat, by omega⟩
    have hmk := fun wx => run_make_row' (P := Tryz.prog) 33 35 (.int .u64 0) 8 Tryz.underlying33 info_word rfl .i64 .i64 k (by omega) (by omega) wx
    clear hn
    go_enter Tryz.func6, Tryz.ntmps6
    go_wp2
    go_ret2
    unfold NewP
    rw [if_neg (by omega)]
    obtain ⟨W1, hW1⟩ : ∃ W, W = w.alloc (.cells (madeCells #[.int .u64 0] k) 35) := ⟨_, rfl⟩
    rw [← hW1]
    have b1 : Below w.heap.size w W1 := by rw [hW1]; exact Ba _ _
    have r1 : W1.heap[w.heap.size]? = some (.cells (madeCells #[.int .u64 0] k) 35 (0, 0)) := by rw [hW1]; exact blk_new _ _ _
    have s1 : W1.heap.size = w.heap.size + 1 := by rw [hW1, size_alloc]
    have em : madeCells #[.int .u64 0] k = (uz ([] ++ List.replicate k 0)).toArray := by
      rw [← Array.toArray_toList (xs := madeCells #[.int .u64 0] k), toList_madeCells_one]; simp [uz]
    refine ⟨.pointer (some ⟨w.heap.size + 1, 0, none⟩), fun b => b = W1.heap.size ∨ b = w.heap.size, rfl, ⟨⟨W1.heap.size, w.heap.size, k, List.replicate k 0, by rw [s1], ?_, rfl, ?_, by simp, by omega, by omega, Nat.le_refl _, fun b => Iff.rfl⟩, by simp; omega, fun z hz => by cases hz⟩, Bt b1 (Ba _ _)⟩
    · exact blk_new _ _ _
    · rw [← em]; exact ((Ba W1 _).block w.heap.size (by omega)).trans r1
theorem pnew_any (n : Int) (hn : Z64 n) (w : World) :
    Calls Tryz.prog 6 #[.int .i64 n] w fun e w' => if n < 1 ∨ 4194304 < n then e = .returned (.tuple #[.pointer none, .int .i64 1]) ∧ w' = w else ∃ v F, e = .returned (.tuple #[v, .int .i64 0]) ∧ PH w.heap.size v n [] F w' ∧ Below w.heap.size w w' := pnew_is n hn w
section
variable {B : Nat} {v : Value} {N : Int} {F : Nat → Prop} {os : List Ob}
/-- What the program's Fill answers; the objects behind it. -/
def fillP (os : List Ob) (N kind n z : Int) : Int × Int :=
  if kind < 1 ∨ 22 < kind then (0, 70) else if n < 0 ∨ 4194304 < n then (0, 1) else allocM os N kind (List.replicate n.toNat z)
def fillQ (os : List Ob) (N kind n z : Int) : List Ob := if (fillP os N kind n z).2 = 0 then os ++ [⟨kind, List.replicate n.toNat z⟩] else os
theorem rep_any (n : Nat) (z : Int) : (List.replicate n z).any isHd = (decide (0 < n) && isHd z) := by
  induction n with
  | zero => simp
  | succ k ih => simp [List.replicate_succ, ih]
end
end Go.Proofs.YtdekkieajffblaaGreat

set_option linter.unusedVariables false
set_option linter.unusedSimpArgs false
set_option maxRecDepth 100000
namespace Go.Proofs.YtdekkieajffblaaGreat
open Go.RowKit

theorem ptrs_len (os : List Ob) : (ptrsL os).length = os.length := by unfold ptrsL; simp
theorem ptrs_at {os : List Ob} {k : Nat} (h : k < os.length) : (ptrsL os).take (k + 1) = (ptrsL os).take k ++ [wordR 2 (atO os k : Nat) 0] := by
  rw [List.take_succ_eq_append_getElem (by rw [ptrs_len]; exact h)]
  congr 2
  unfold ptrsL; simp
theorem ptrs_get {os : List Ob} {i : Nat} (h : i < os.length) : (ptrsL os).getD i 0 = wordR 2 (atO os i : Nat) 0 := by
  unfold ptrsL
  rw [List.getD_eq_getElem?_getD, List.getElem?_map, List.getElem?_range h]; rfl
/-- So many objects begin ahead of a place. -/
def Ahead (os : List Ob) (q k : Nat) : Prop := k ≤ os.length ∧ (∀ j, j < k → atO os j < q) ∧ (k < os.length → q ≤ atO os k)
theorem Ahead.zero (os : List Ob) : Ahead os 0 0 := ⟨Nat.zero_le _, fun j hj => by omega, fun _ => Nat.zero_le _⟩
theorem Ahead.yes {os : List Ob} {q k j : Nat} (h : Ahead os q k) (hj : j < os.length) (e : q = atO os j) : j = k ∧ Ahead os (q + 1) (k + 1) := by
  obtain ⟨h1, h2, h3⟩ := h
  have hjk : k ≤ j := Nat.le_of_not_lt (fun hlt => by have := h2 j hlt; omega)
  have hkj : j = k := by
    rcases Nat.lt_or_ge k j with hlt | hge
    · have := at_mono (os := os) (j := k) (k := j) (by omega) (by omega)
      have := h3 (by omega)
      omega
    · omega
  subst hkj
  refine ⟨rfl, by omega, fun i hi => ?_, fun hlt => ?_⟩
  · by_cases e' : i = j
    · rw [e', ← e]; omega
    · have := h2 i (by omega); omega
  · have := at_mono (os := os) (j := j) (k := j + 1) (by omega) (by omega)
    omega
theorem Ahead.no {os : List Ob} {q k : Nat} (h : Ahead os q k) (hn : ¬ ∃ j, j < os.length ∧ q = atO os j) : Ahead os (q + 1) k := by
  obtain ⟨h1, h2, h3⟩ := h
  refine ⟨h1, fun j hj => by have := h2 j hj; omega, fun hlt => ?_⟩
  have := h3 hlt
  have : q ≠ atO os k := fun e => hn ⟨k, hlt, e⟩
  omega
theorem Ahead.all {os : List Ob} {k : Nat} (h : Ahead os (usedL os) k) : k = os.length := by
  obtain ⟨h1, h2, h3⟩ := h
  rcases Nat.lt_or_ge k os.length with hlt | hge
  · have := h3 hlt
    have := at_lt hlt
    omega
  · omega
end Go.Proofs.YtdekkieajffblaaGreat

set_option linter.unusedVariables false
set_option linter.unusedSimpArgs false
set_option maxRecDepth 100000
namespace Go.Proofs.YtdekkieajffblaaGreat
open Go.RowKit

/-- Both heaps in one memory; what the program's has may be ahead of the document's. -/
structure Mix (B : Nat) (v : Value) (g : Nat) (N : Int) (osP osR : List Ob) (w : World) : Prop where
  ex : ∃ F vL ls, PH B v N (wordsL osP) F w ∧ RH B g N vL ls w ∧ ls.map Prod.fst = osR ∧ ∀ b, F b → ¬ RF g vL ls b
  okP : OsOk osP
  okR : OsOk osR
  bw : B ≤ w.heap.size
section
variable {B g : Nat} {v : Value} {N : Int} {osP osR os' : List Ob} {w w' : World}
theorem Mix.on (h : Mix B v g N osP osR w) (hb : Below w.heap.size w w') : Mix B v g N osP osR w' := by
  obtain ⟨⟨F, vL, ls, h1, h2, h3, h4⟩, h5, h6, h7⟩ := h
  exact ⟨⟨F, vL, ls, h1.keep (fun b hf => hb.block b (h1.ge b hf).2), h2.on hb, h3, h4⟩, h5, h6, Nat.le_trans h7 hb.size⟩
theorem Mix.p {F : Nat → Prop} {vL : Value} {ls : List (Ob × Sl)} (h1 : PH B v N (wordsL osP) F w) (h2 : RH B g N vL ls w) (h3 : ls.map Prod.fst = osR) (h4 : ∀ b, F b → ¬ RF g vL ls b) (hR : OsOk osR) (hB : B ≤ w.heap.size) (ho : OsOk os') (hp : PPost B v N F w (wordsL os') w') : Mix B v g N os' osR w' ∧ Below B w w' := by
  obtain ⟨F', p1, p2, p3⟩ := hp
  refine ⟨⟨⟨F', vL, ls, p1, h2.mod p3 (fun b hb hf => h4 b hf hb), h3, fun b hb hr => ?_⟩, ho, hR, Nat.le_trans hB p3.size⟩, p3.below (fun b hb => (h1.ge b hb).1) hB⟩
  rcases p2 b hb with h' | h'
  · exact h4 b h' hr
  · have := (h2.foot_ge b hr).2; omega
theorem Mix.r {F : Nat → Prop} {vL : Value} {ls : List (Ob × Sl)} (h1 : PH B v N (wordsL osP) F w) (h2 : RH B g N vL ls w) (h4 : ∀ b, F b → ¬ RF g vL ls b) (hP : OsOk osP) (hB : B ≤ w.heap.size) (ho : OsOk os') (hp : RPost B g N vL ls w os' w') : Mix B v g N osP os' w' ∧ Below B w w' := by
  obtain ⟨vL', ls', p1, p2, p3, p4⟩ := hp
  refine ⟨⟨⟨F, vL', ls', h1.keep (fun b hb => p4.block b (h1.ge b hb).2 (h4 b hb)), p1, p2, fun b hb hr => ?_⟩, hP, ho, Nat.le_trans hB p4.size⟩, p4.below (fun b hb => (h2.foot_ge b hb).1) hB⟩
  rcases p3 b hr with h' | h'
  · exact h4 b hb h'
  · have := (h1.ge b hb).2; omega
end
theorem alloc_ok {os : List Ob} {N kind : Int} {fl : List Int} (h : OsOk os) (hf : ∀ z ∈ fl, U64 z) : OsOk (allocO os N kind fl) := by
  unfold allocO
  split
  · rename_i h0
    unfold allocM at h0
    split at h0
    · simp at h0
    rename_i hk
    split at h0
    · simp at h0
    rename_i hh
    have hany : fl.any isHd = false := by simpa using hh
    have hnh : ∀ z ∈ fl, isHd z = false := fun z hz => by
      rw [← Bool.not_eq_true]; intro e
      have := List.any_eq_true.2 ⟨z, hz, e⟩
      rw [hany] at this; cases this
    refine ⟨fun x hx => ?_, fun x hx => ?_, fun x hx => ?_⟩ <;> rcases List.mem_append.1 hx with hx | hx
    · exact h.kd x hx
    · obtain rfl := List.mem_singleton.1 hx; simp only; omega
    · exact h.uf x hx
    · obtain rfl := List.mem_singleton.1 hx; exact hf
    · exact h.nh x hx
    · obtain rfl := List.mem_singleton.1 hx; exact hnh
  · exact h
theorem fill_ok {os : List Ob} {N kind n z : Int} (h : OsOk os) (hz : U64 z) : OsOk (fillO os N kind n z) := by
  have key : fillO os N kind n z = os ∨ fillO os N kind n z = allocO os N kind (List.replicate n.toNat z) := by
    unfold fillO allocO fillM
    by_cases h1 : kind < 1 ∨ 22 < kind
    · left; rw [if_pos h1]; rfl
    · rw [if_neg h1]
      by_cases h2 : n < 0 ∨ 4194304 < n ∨ isHd z = true
      · left; rw [if_pos h2]; rfl
      · right; rw [if_neg h2]
  rcases key with e | e <;> rw [e]
  · exact h
  · exact alloc_ok h (fun y hy => by rw [List.eq_of_mem_replicate hy]; exact hz)
theorem fillQ_ok {os : List Ob} {N kind n z : Int} (h : OsOk os) (hz : U64 z) : OsOk (fillQ os N kind n z) := by
  have key : fillQ os N kind n z = os ∨ fillQ os N kind n z = allocO os N kind (List.replicate n.toNat z) := by
    unfold fillQ allocO fillP
    by_cases h1 : kind < 1 ∨ 22 < kind
    · left; rw [if_pos h1]; rfl
    · rw [if_neg h1]
      by_cases h2 : n < 0 ∨ 4194304 < n
      · left; rw [if_pos h2]; rfl
      · right; rw [if_neg h2]
  rcases key with e | e <;> rw [e]
  · exact h
  · exact alloc_ok h (fun y hy => by rw [List.eq_of_mem_replicate hy]; exact hz)
theorem set_ok {os : List Ob} {p kind i z : Int} (h : OsOk os) (hz : U64 z) : OsOk (setM os p kind i z).1 := by
  unfold setM
  split
  · exact h
  · split
    · exact h
    · rename_i h0 h8
      obtain ⟨n, e1, e2, _⟩ := fieldM_ok (by simpa using h0)
      rw [e1]
      simp only [Int.toNat_natCast]
      have hm : os.getD n default ∈ os := by rw [List.getD_eq_getElem?_getD, List.getElem?_eq_getElem e2]; exact List.getElem_mem e2
      refine ⟨fun x hx => ?_, fun x hx => ?_, fun x hx => ?_⟩ <;> rcases List.mem_or_eq_of_mem_set hx with hx | rfl
      · exact h.kd x hx
      · have := h.kd _ hm; exact this
      · exact h.uf x hx
      · intro y hy
        simp only [setF] at hy
        rcases List.mem_or_eq_of_mem_set hy with hy | rfl
        · exact h.uf _ hm y hy
        · exact hz
      · exact h.nh x hx
      · intro y hy
        simp only [setF] at hy
        rcases List.mem_or_eq_of_mem_set hy with hy | rfl
        · exact h.nh _ hm y hy
        · exact decide_eq_false h8
end Go.Proofs.YtdekkieajffblaaGreat
