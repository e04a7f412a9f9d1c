import Derived.Test.YticimejfjjmikaaGreatDoorV9d
import Derived.Test.YticimejfjjmikaaGreatDoorC3
set_option linter.unusedVariables false
set_option linter.unusedSimpArgs false
set_option maxRecDepth 100000
namespace Go.Proofs.YticimejfjjmikaaGreatDoor
open Go.RowKit
def NewP (n : Int) (w : World) (e : Ending) (w' : World) : Prop := if n < 1 \/ 4194304 < n then e = .returned (.tuple #[.pointer none, .int .i64 1]) /\ w' = w else ∃ v F, e = .returned (.tuple #[v, .int .i64 0]) /\ PH w.heap.size v n [] F w' /\ Below w.heap.size w w'
set_option maxHeartbeats 4000000 in
theorem pnew_is (n : Int) (hn : Z64 n) (w : World) : Calls Tryz.prog 29 #[.int .i64 n] w fun e w' => NewP n w e w' := by
 by_cases h1 : n < 1
 ·go_enter Tryz.func29, Tryz.ntmps29
  go_wp2
  go_ret2
  unfold NewP
  rw [if_pos (.inl h1)]
  exact ⟨rfl, rfl⟩
 by_cases h2 : 4194304 < n
 ·go_enter Tryz.func29, Tryz.ntmps29
  go_wp2
  go_ret2
  unfold NewP
  rw [if_pos (.inr h2)]
  exact ⟨rfl, rfl⟩
 ·obtain ⟨k, rfl⟩ : ∃ k : Nat, n = (k : Int) := ⟨n.toNat, by omega⟩
  have hmk := fun wx => run_make_row' (P := Tryz.prog) 23 44 (.int .u64 0) 8 Tryz.underlying23 info_word rfl .i64 .i64 k (by omega) (by omega) wx
  clear hn
  go_enter Tryz.func29, Tryz.ntmps29
  go_wp2
  go_ret2
  unfold NewP
  rw [if_neg (by omega)]
  obtain ⟨W1, hW1⟩ : ∃ W, W = w.alloc (.cells (madeCells #[.int .u64 0] k) 44) := ⟨_, rfl⟩
  rw [<- hW1]
  have b1 : Below w.heap.size w W1 := by rw [hW1]; exact Ba _ _
  have r1 : W1.heap[w.heap.size]? = some (.cells (madeCells #[.int .u64 0] k) 44 (0, 0)) := by rw [hW1]; exact blk_new _ _ _
  have s1 : W1.heap.size = w.heap.size + 1 := by rw [hW1, size_alloc]
  have em : madeCells #[.int .u64 0] k = (uz ([] ++ List.replicate k 0)).toArray := by
   rw [<- Array.toArray_toList (xs := madeCells #[.int .u64 0] k), toList_madeCells_one]; simp [uz]
  refine ⟨.pointer (some ⟨w.heap.size + 1, 0, none⟩), fun b => b = W1.heap.size \/ b = w.heap.size, rfl, ⟨⟨W1.heap.size, w.heap.size, k, List.replicate k 0, by rw [s1], ?_, rfl, ?_, by simp, by omega, by omega, Nat.le_refl _, fun b => Iff.rfl⟩, by simp; omega, fun z hz => by cases hz⟩, Bt b1 (Ba _ _)⟩
  ·exact blk_new _ _ _
  ·rw [<- em]; exact ((Ba W1 _).block w.heap.size (by omega)).trans r1
section
variable {B : Nat} {v : Value} {N : Int} {F : Nat -> Prop} {os : List Ob}
def fillP (os : List Ob) (N kind n z : Int) : Int × Int :=
 if kind < 1 \/ 22 < kind then (0, 70) else if n < 0 \/ 4194304 < n then (0, 1) else allocM os N kind (List.replicate n.toNat z)
def fillQ (os : List Ob) (N kind n z : Int) : List Ob := if (fillP os N kind n z).2 = 0 then os ++ [⟨kind, List.replicate n.toNat z⟩] else os
theorem rep_any (n : Nat) (z : Int) : (List.replicate n z).any isHd = (decide (0 < n) && isHd z) := by
 induction n with
 | zero => simp
 | succ k ih => simp [List.replicate_succ, ih]
set_option maxHeartbeats 8000000 in
theorem pfill_any (ho : OsOk os) (kind n z : Int) (hk : Z64 kind) (hn : Z64 n) (hz : U64 z) (w : World) (h : PH B v N (wordsL os) F w) (hB : B <= w.heap.size) :
  Calls Tryz.prog 34 #[v, .int .i64 kind, .int .i64 n, .int .u64 z] w fun e w' => e = .returned (.tuple #[.int .u64 (fillP os N kind n z).1, .int .i64 (fillP os N kind n z).2]) /\ PPost B v N F w (wordsL (fillQ os N kind n z)) w' := by
 have C1 := hid (istype_any kind hk w)
 have C2 := hid (q_ishead z hz w)
 have same : Hid (∀ W, Below w.heap.size w W -> PPost B v N F w (wordsL os) W) := fun W hb => ⟨F, h.keep (fun b hf => hb.block b (h.ge b hf).2), fun b hb => .inl hb, Mod.of_below F hb⟩
 have HZ := hid hz
 unfold Z64 at hn
 by_cases h1 : kind < 1 \/ 22 < kind
 ·have e1 : fillP os N kind n z = (0, 70) := by unfold fillP; rw [if_pos h1]
  have e2 : fillQ os N kind n z = os := by unfold fillQ; rw [e1]; rfl
  rw [e1, e2]
  rw [decide_eq_true h1] at C1
  obtain ⟨gh, rfl⟩ := h.ptr
  simp only
  clear h hB h1 e1 e2 hk
  go_enter Tryz.func34, Tryz.ntmps34
  go_wp2_with (go_at_call 65; (with_reducible refine C1.out.mono ?_); rintro e W1 ⟨rfl, hw1⟩; rw [hw1]; clear hw1)
  go_ret2
  exact ⟨rfl, same.out _ (Below.refl _ _)⟩
 rw [decide_eq_false h1] at C1
 by_cases h2 : n < 0 \/ 4194304 < n
 ·have e1 : fillP os N kind n z = (0, 1) := by unfold fillP; rw [if_neg h1, if_pos h2]
  have e2 : fillQ os N kind n z = os := by unfold fillQ; rw [e1]; rfl
  rw [e1, e2]
  obtain ⟨gh, rfl⟩ := h.ptr
  simp only
  clear h hB h1 e1 e2 hk
  by_cases h3 : n < 0
  ·go_enter Tryz.func34, Tryz.ntmps34
   go_wp2_with (go_at_call 65; (with_reducible refine C1.out.mono ?_); rintro e W1 ⟨rfl, hw1⟩; rw [hw1]; clear hw1)
   go_ret2
   exact ⟨rfl, same.out _ (Below.refl _ _)⟩
  ·have h4 : 4194304 < n := by omega
   go_enter Tryz.func34, Tryz.ntmps34
   go_wp2_with (go_at_call 65; (with_reducible refine C1.out.mono ?_); rintro e W1 ⟨rfl, hw1⟩; rw [hw1]; clear hw1)
   go_ret2
   exact ⟨rfl, same.out _ (Below.refl _ _)⟩
 obtain ⟨k, rfl⟩ : ∃ k : Nat, n = (k : Int) := ⟨n.toNat, by omega⟩
 have hkb : k <= 4194304 := by omega
 have e0 : fillP os N kind k z = allocM os N kind (List.replicate k z) := by unfold fillP; rw [if_neg h1, if_neg h2, Int.toNat_natCast]
 have e0' : fillQ os N kind k z = allocO os N kind (List.replicate k z) := by unfold fillQ allocO; rw [e0, Int.toNat_natCast]
 rw [e0, e0']
 have hkk : 1 <= kind /\ kind <= 22 := by omega
 obtain ⟨gh, gw, nn, rest, rfl, hp⟩ := h.opened
 have HP := hid hp
 have hlr : (List.replicate k z).length = k := List.length_replicate
 by_cases h3 : (0 < k) /\ isHd z = true
 ·have e1 : allocM os N kind (List.replicate k z) = (0, 1) := by unfold allocM; rw [if_neg h1, if_pos (by rw [rep_any, decide_eq_true h3.1, h3.2]; rfl)]
  have e2 : allocO os N kind (List.replicate k z) = os := by unfold allocO; rw [e1]; rfl
  rw [e1, e2]
  have h4 := h3.1
  rw [h3.2] at C2
  simp only
  clear h hp hB h1 h2 h3 e1 e2 e0 e0' hk hn
  go_enter Tryz.func34, Tryz.ntmps34
  go_wp2_with (first
   | (go_at_call 65; (with_reducible refine C1.out.mono ?_); rintro e W1 ⟨rfl, hw1⟩; rw [hw1]; clear hw1)
   | (go_at_call 66; (with_reducible refine C2.out.mono ?_); rintro e W1 ⟨rfl, hw1⟩; rw [hw1]; clear hw1))
  go_ret2
  exact ⟨rfl, same.out _ (Below.refl _ _)⟩
 have hany : (List.replicate k z).any isHd = false := by
  rw [rep_any]
  cases hb : isHd z
  ·simp
  ·have : ¬ 0 < k := fun h => h3 ⟨h, hb⟩
   rw [decide_eq_false this]; rfl
 have hhz : k = 0 \/ isHd z = false := by
  cases hb : isHd z
  ·exact .inr rfl
  ·exact .inl (by have : ¬ 0 < k := fun h => h3 ⟨h, hb⟩; omega)
 by_cases h5 : N - (usedL os : Nat) < 1 + (k : Nat)
 ·have e1 : allocM os N kind (List.replicate k z) = (0, 3) := by unfold allocM; rw [if_neg h1, hany, hlr, if_pos h5]; rfl
  have e2 : allocO os N kind (List.replicate k z) = os := by unfold allocO; rw [e1]; rfl
  rw [e1, e2]
  have C3 := hid (layfull kind k (by rw [wordsL_length]; omega) hp)
  simp only
  have HH := hid hhz
  clear h hp hB h1 h2 h3 h5 e1 e2 e0 e0' hk hn hhz hany hlr
  by_cases h8 : 0 < k
  ·have h6 : isHd z = false := HH.out.resolve_left (by omega)
   rw [h6] at C2
   go_enter Tryz.func34, Tryz.ntmps34
   go_wp2_with (first
    | (go_at_call 65; (with_reducible refine C1.out.mono ?_); rintro e W1 ⟨rfl, hw1⟩; rw [hw1]; clear hw1)
    | (go_at_call 66; (with_reducible refine C2.out.mono ?_); rintro e W1 ⟨rfl, hw1⟩; rw [hw1]; clear hw1)
    | (go_at_call 67; (with_reducible refine C3.out.mono ?_); rintro e W1 ⟨rfl, b1⟩; have HB1 := hid b1; clear b1))
   go_loopw [41] (fun i wr => i = .int .i64 0 /\ Hid (wr = W1)) (fun _ _ => 0)
   case atStart => exact ⟨rfl, rfl⟩
   case round =>
    obtain ⟨rfl, hI⟩ := hrel
    go_wp2_with fail
    go_ret2
    rw [hI.out]
    exact ⟨rfl, same.out _ HB1.out⟩
  ·have hk1 : decide (0 < k) = false := decide_eq_false h8
   have hk2 : decide ((0 : Int) < k) = false := decide_eq_false (by omega)
   have HK8 := hid h8
   clear h8
   go_enter Tryz.func34, Tryz.ntmps34
   go_wp2_with (first
    | (go_at_call 65; (with_reducible refine C1.out.mono ?_); rintro e W1 ⟨rfl, hw1⟩; rw [hw1]; clear hw1)
    | (go_at_call 67; (with_reducible refine C3.out.mono ?_); rintro e W1 ⟨rfl, b1⟩; have HB1 := hid b1; clear b1))
   go_loopw [41] (fun i wr => i = .int .i64 0 /\ Hid (wr = W1)) (fun _ _ => 0)
   case atStart => exact ⟨rfl, rfl⟩
   case round =>
    obtain ⟨rfl, hI⟩ := hrel
    go_wp2_with fail
    go_ret2
    rw [hI.out]
    exact ⟨rfl, same.out _ HB1.out⟩
 ·have e1 : allocM os N kind (List.replicate k z) = (wordR 2 (usedL os : Nat) 0, 0) := by unfold allocM; rw [if_neg h1, hany, hlr, if_neg h5]; rfl
  have e2 := alloc_words (os := os) (N := N) kind (List.replicate k z) (by rw [e1])
  rw [e1, e2, hlr]
  have hs : (k : Int) < N - ((wordsL os).length : Nat) := by rw [wordsL_length]; omega
  have C3 := hid (layhead kind k hkk hs hp)
  have HS := hid hs
  rw [wordsL_length] at C3
  obtain ⟨pt, hpt⟩ : ∃ x, x = wordR 2 (usedL os : Nat) 0 := ⟨_, rfl⟩
  rw [<- hpt] at C3 ⊢
  obtain ⟨hd, hhd⟩ : ∃ x, x = wordR 8 (k : Nat) kind := ⟨_, rfl⟩
  have hhu : Hid (U64 hd) := by unfold Hid; rw [hhd]; exact wordR_rng _ _ _
  rw [<- hhd] at C3 ⊢
  have HL := hid hlr
  obtain ⟨A, hA⟩ : ∃ A, A = wordsL os ++ [hd] := ⟨_, rfl⟩
  have hAl : Hid (A.length = usedL os + 1) := by unfold Hid; rw [hA]; simp [wordsL_length]
  have hC : Hid (k <= rest.tail.length) := by
   unfold Hid
   have := hp.len
   have := hp.nn
   rw [List.length_append, wordsL_length] at *
   rw [List.length_tail]; omega
  have hfd : Hid (∀ W1 W2 : World, W1.heap[gh]? = some (.cells #[.slice (some ⟨gw, 0, none⟩) nn nn, .int .i64 ((usedL os + 1 + k : Nat) : Int)] 125 (0, 0)) -> Mod F w W1 -> W2.heap[gw]? = some (.cells (uz (A ++ (List.replicate k z ++ rest.tail.drop k))).toArray 44 (0, 0)) -> Mod (fun b => b = gw) W1 W2 -> PPost B (.pointer (some ⟨gh, 0, none⟩)) N F w (wordsL os ++ hd :: List.replicate k z) W2) := fun W1 W2 g1 g2 g3 g4 => by
   have hgh := (Array.getElem?_eq_some_iff.1 g1).1
   have q := lay_shut (w' := W2) HP.out (hd := hd) (fl := List.replicate k z) (by rw [HL.out]; exact HS.out) hhu.out (fun y hy => by rw [List.eq_of_mem_replicate hy]; exact HZ.out) ((g4.block gh hgh HP.out.ne).trans (by rw [g1, wordsL_length, HL.out])) (by rw [g3, hA, HL.out]; simp)
   exact ⟨F, q.shut, fun b hb => .inl hb, g2.trans g4 (fun b _ e => by rw [e]; exact (HP.out.ff gw).2 (.inr rfl))⟩
  have hst : Hid (∀ (W1 : World), W1.heap[gw]? = some (.cells (uz (wordsL os ++ (hd :: rest.tail))).toArray 44 (0, 0)) -> W1.heap[gw]? = some (.cells (uz (A ++ (List.replicate 0 z ++ rest.tail.drop 0))).toArray 44 (0, 0))) := fun W1 g => by rw [g, hA]; simp
  have hHA := hid hA
  simp only
  have HH := hid hhz
  clear h hp hB h1 h2 h3 h5 e1 e2 e0 e0' hk hn hhz hany hlr hpt hhd hA
  unfold LayPost at C3
  obtain ⟨RT, hRT⟩ : ∃ r, r = rest.tail := ⟨_, rfl⟩
  rw [<- hRT] at C3 hfd hst hC
  clear hRT
  have go : Hid (∀ (W1 wr : World) (q : Nat), q < k -> wr.heap[gw]? = some (.cells (uz (A ++ (List.replicate q z ++ RT.drop q))).toArray 44 (0, 0)) -> (wr.setCell ⟨gw, usedL os + 1 + q, none⟩ (.int .u64 z)).heap[gw]? = some (.cells (uz (A ++ (List.replicate (q + 1) z ++ RT.drop (q + 1)))).toArray 44 (0, 0))) := fun W1 wr q hq g => by
   rw [blk_set (i := usedL os + 1 + q) g (.int .u64 z)]
   have hc := hC.out
   have e1 : RT.drop q = RT[q]'(by omega) :: RT.drop (q + 1) := List.drop_eq_getElem_cons (by omega)
   rw [e1, <- hAl.out]
   have e2 : ∀ x : List Int, (uz (A ++ (List.replicate q z ++ x))).length = A.length + q + x.length := fun x => by simp [uz]; omega
   have : (uz (A ++ (List.replicate q z ++ RT[q]'(by omega) :: RT.drop (q + 1)))).toArray.setIfInBounds (A.length + q) (.int .u64 z) = (uz (A ++ (List.replicate (q + 1) z ++ RT.drop (q + 1)))).toArray := by
    rw [List.setIfInBounds_toArray]
    congr 1
    rw [uz_append, List.set_append_right _ _ (by rw [uz_length]; omega), uz_append, uz_append, List.set_append_right _ _ (by rw [uz_length, uz_length, List.length_replicate]; omega)]
    rw [uz_length, uz_length, List.length_replicate, show A.length + q - A.length - q = 0 by omega]
    rw [show uz (RT[q]'(by omega) :: RT.drop (q + 1)) = .int .u64 (RT[q]'(by omega)) :: uz (RT.drop (q + 1)) from rfl, List.set_cons_zero, List.replicate_succ']
    simp only [uz, List.map_append, List.map_cons, List.map_nil, List.append_assoc, List.cons_append, List.nil_append]
   rw [this]
  have hcell : Hid (∀ (wr : World) (q : Nat), q < k -> wr.heap[gw]? = some (.cells (uz (A ++ (List.replicate q z ++ RT.drop q))).toArray 44 (0, 0)) -> ∃ y, wr.cell? ⟨gw, usedL os + 1 + q, none⟩ = some (.int .u64 y)) := fun wr q hq g => by
   have hl : usedL os + 1 + q < (A ++ (List.replicate q z ++ RT.drop q)).length := by have hc := hC.out; have ha := hAl.out; simp; omega
   refine ⟨(A ++ (List.replicate q z ++ RT.drop q)).getD (usedL os + 1 + q) 0, (blk_cell g _).trans ?_⟩
   rw [List.getElem?_toArray, uz_get hl]
  by_cases h8 : 0 < k
  ·have h6 : isHd z = false := HH.out.resolve_left (by omega)
   rw [h6] at C2
   go_enter Tryz.func34, Tryz.ntmps34
   go_wp2_with (first
    | (go_at_call 65; (with_reducible refine C1.out.mono ?_); rintro e W1 ⟨rfl, hw1⟩; rw [hw1]; clear hw1)
    | (go_at_call 66; (with_reducible refine C2.out.mono ?_); rintro e W1 ⟨rfl, hw1⟩; rw [hw1]; clear hw1)
    | (go_at_call 67; (with_reducible refine C3.out.mono ?_); rintro e W1 ⟨⟨off, c1, rfl, ho1, ho2, ho3⟩, g1, g2, g3⟩; obtain rfl := ho1 h8; have HG1 := hid g1; have HG2 := hid (hst.out W1 g2); have HG3 := hid g3; clear g1 g2 g3 ho1))
   go_loopw [41] (fun i wr => ∃ q : Nat, q <= k /\ i = .int .i64 q /\ Hid (wr.heap[gw]? = some (.cells (uz (A ++ (List.replicate q z ++ RT.drop q))).toArray 44 (0, 0)) /\ Mod (fun b => b = gw) W1 wr)) (fun i _ => k - (intOf i).toNat)
   case atStart => exact ⟨0, Nat.zero_le _, rfl, HG2.out, Mod.refl _ _⟩
   case round =>
    obtain ⟨q, hq, rfl, hI⟩ := hrel
    by_cases hlt : q < k
    ·obtain ⟨y, cy⟩ := hcell.out wr q hlt hI.out.1
     have fy := blk_free hI.out.1 (usedL os + 1 + q)
     have HN := hid (go.out W1 wr q hlt hI.out.1)
     have HM := hid (hI.out.2.setCell (p := ⟨gw, usedL os + 1 + q, none⟩) (.inl rfl) (.int .u64 z))
     go_wp2_with fail
     exact ⟨⟨q + 1, by omega, by go_num, HN.out, HM.out⟩, by simp [intOf] <;> omega⟩
    ·obtain rfl : q = k := by omega
     go_wp2_with fail
     go_ret2
     exact ⟨rfl, hfd.out W1 wr HG1.out HG3.out hI.out.1 hI.out.2⟩
  ·have hk1 : decide (0 < k) = false := decide_eq_false h8
   have hk2 : decide ((0 : Int) < k) = false := decide_eq_false (by omega)
   have HK8 := hid h8
   clear h8
   go_enter Tryz.func34, Tryz.ntmps34
   go_wp2_with (first
    | (go_at_call 65; (with_reducible refine C1.out.mono ?_); rintro e W1 ⟨rfl, hw1⟩; rw [hw1]; clear hw1)
    | (go_at_call 67; (with_reducible refine C3.out.mono ?_); rintro e W1 ⟨⟨off, c1, rfl, ho1, ho2, ho3⟩, g1, g2, g3⟩; have HG1 := hid g1; have HG2 := hid (hst.out W1 g2); have HG3 := hid g3; clear g1 g2 g3 ho1))
   go_loopw [41] (fun i wr => ∃ q : Nat, q <= k /\ i = .int .i64 q /\ Hid (wr.heap[gw]? = some (.cells (uz (A ++ (List.replicate q z ++ RT.drop q))).toArray 44 (0, 0)) /\ Mod (fun b => b = gw) W1 wr)) (fun i _ => k - (intOf i).toNat)
   case atStart => exact ⟨0, Nat.zero_le _, rfl, HG2.out, Mod.refl _ _⟩
   case round =>
    obtain ⟨q, hq, rfl, hI⟩ := hrel
    obtain rfl : q = k := by have := HK8.out; omega
    go_wp2_with fail
    go_ret2
    exact ⟨rfl, hfd.out W1 wr HG1.out HG3.out hI.out.1 hI.out.2⟩
end
theorem fillP_is {os : List Ob} {N kind n z : Int} (h : isHd z = false) : fillP os N kind n z = fillM os N kind n z := by
 unfold fillP fillM
 simp [h]
theorem fillQ_is {os : List Ob} {N kind n z : Int} (h : isHd z = false) : fillQ os N kind n z = fillO os N kind n z := by
 unfold fillQ fillO; rw [fillP_is h]
theorem GHeld.bel {w1 wx : World} {p q : Nat} {a0 a1 b0 b1 : Value} (h : GHeld w1 p q a0 a1 b0 b1 wx) : Below w1.heap.size w1 wx := h.2
set_option maxHeartbeats 8000000 in
theorem grsame_any (an ar : Option Addr) (nn cn nr cr : Nat) (ns : List Nd) (rs : List Int) (an' ar' : Option Addr) (nn' cn' nr' cr' : Nat) (ns' : List Nd) (rs' : List Int) (w : World) (G : GOk w an nn cn ar nr cr ns rs) (G' : GOk w an' nn' cn' ar' nr' cr' ns' rs') (hn : nn <= 100) (hr : nr <= 100) (hn' : nn' <= 100) (hr' : nr' <= 100) :
  Calls Tryz.prog 49 #[GVal an nn cn ar nr cr, GVal an' nn' cn' ar' nr' cr'] w fun e w' => e = .returned (.bool (sameGB ns rs ns' rs')) /\ Below w.heap.size w w' := by
 have HG := hid G
 have HG' := hid G'
 have HN := hid (And.intro hn hr)
 have HN' := hid (And.intro hn' hr')
 unfold GVal
 clear G G' hn hr hn' hr'
 go_enter Tryz.func49, Tryz.ntmps49
 go_wp2_with fail
 have bA := Baa w (.cells #[.slice an nn cn, .slice ar nr cr] 34) (.cells #[.slice an' nn' cn', .slice ar' nr' cr'] 34)
 have x1 := (GBox.new 34 w an ar nn cn nr cr).on (Ba (w.alloc (.cells #[.slice an nn cn, .slice ar nr cr] 34)) (.cells #[.slice an' nn' cn', .slice ar' nr' cr'] 34))
 have x2 := GBox.new 34 (w.alloc (.cells #[.slice an nn cn, .slice ar nr cr] 34)) an' ar' nn' cn' nr' cr'
 rw [size_alloc] at x2
 generalize (w.alloc (.cells #[.slice an nn cn, .slice ar nr cr] 34)).alloc (.cells #[.slice an' nn' cn', .slice ar' nr' cr'] 34) = W1 at *
 obtain ⟨g1, hg1⟩ : ∃ g, g = w.heap.size := ⟨_, rfl⟩
 obtain ⟨g2, hg2⟩ : ∃ g, g = w.heap.size + 1 := ⟨_, rfl⟩
 rw [<- hg2] at x2
 rw [<- hg1] at x1
 rw [<- hg2, <- hg1]
 clear hg1 hg2
 have HB := hid bA
 obtain ⟨z1, z2⟩ := x1.c
 obtain ⟨v1, v2⟩ := x2.c
 have HS0 : Hid (GHeld W1 g1 g2 (.slice an nn cn) (.slice ar nr cr) (.slice an' nn' cn') (.slice ar' nr' cr') W1) := ⟨⟨z1, z2, v1, v2⟩, Below.refl _ _⟩
 have G1 := hid (HG.out.below bA)
 have G2 := hid (HG'.out.below bA)
 clear z1 z2 v1 v2 x1 x2 bA
 obtain ⟨ga, hga⟩ : ∃ gd, gd = goodG ns rs := ⟨_, rfl⟩
 obtain ⟨gb, hgb⟩ : ∃ gd, gd = goodG ns' rs' := ⟨_, rfl⟩
 have HGA := hid hga
 have HGB := hid hgb
 have C1 : Hid (∀ wx, Below W1.heap.size W1 wx -> Calls Tryz.prog 12 #[.agg #[.slice an nn cn, .slice ar nr cr]] wx fun e w' => e = .returned (.bool ga) /\ Below wx.heap.size wx w') := fun wx b => by
  have := rgood_g an ar nn cn nr cr ns rs wx (G1.out.is.below b) G1.out.small G1.out.nn_le
  rw [<- hga] at this; exact this
 have C2 : Hid (∀ wx, Below W1.heap.size W1 wx -> Calls Tryz.prog 12 #[.agg #[.slice an' nn' cn', .slice ar' nr' cr']] wx fun e w' => e = .returned (.bool gb) /\ Below wx.heap.size wx w') := fun wx b => by
  have := rgood_g an' ar' nn' cn' nr' cr' ns' rs' wx (G2.out.is.below b) G2.out.small G2.out.nn_le
  rw [<- hgb] at this; exact this
 have C3 : Hid (∀ wx, Below W1.heap.size W1 wx -> Calls Tryz.prog 14 #[.agg #[.slice an nn cn, .slice ar nr cr]] wx fun e w' => ∃ a1 n1 c1 a2 n2 c2, e = .returned (.agg #[.slice a1 n1 c1, .slice a2 n2 c2]) /\ GIs w' a1 n1 c1 a2 n2 c2 (canonN ns rs).1 (canonN ns rs).2 /\ Below wx.heap.size wx w') := fun wx b => rcanon_any an ar nn cn nr cr ns rs wx (G1.out.is.below b) G1.out.small G1.out.kids (Nat.le_trans HN.out.1 (by decide)) (Nat.le_trans HN.out.2 (by decide))
 have C4 : Hid (∀ wx, Below W1.heap.size W1 wx -> Calls Tryz.prog 14 #[.agg #[.slice an' nn' cn', .slice ar' nr' cr']] wx fun e w' => ∃ a1 n1 c1 a2 n2 c2, e = .returned (.agg #[.slice a1 n1 c1, .slice a2 n2 c2]) /\ GIs w' a1 n1 c1 a2 n2 c2 (canonN ns' rs').1 (canonN ns' rs').2 /\ Below wx.heap.size wx w') := fun wx b => rcanon_any an' ar' nn' cn' nr' cr' ns' rs' wx (G2.out.is.below b) G2.out.small G2.out.kids (Nat.le_trans HN'.out.1 (by decide)) (Nat.le_trans HN'.out.2 (by decide))
 have C5 : Hid (∀ wx b1 k1 e1 b2 k2 e2 b3 k3 e3 b4 k4 e4, GIs wx b1 k1 e1 b2 k2 e2 (canonN ns rs).1 (canonN ns rs).2 -> GIs wx b3 k3 e3 b4 k4 e4 (canonN ns' rs').1 (canonN ns' rs').2 -> Calls Tryz.prog 13 #[.agg #[.slice b1 k1 e1, .slice b2 k2 e2], .agg #[.slice b3 k3 e3, .slice b4 k4 e4]] wx fun e w' => e = .returned (.bool (decide ((canonN ns rs).1 = (canonN ns' rs').1 /\ (canonN ns rs).2 = (canonN ns' rs').2))) /\ Below wx.heap.size wx w') := fun wx b1 k1 e1 b2 k2 e2 b3 k3 e3 b4 k4 e4 h h' => requal_any _ _ _ _ _ _ _ _ _ _ _ _ _ _ _ _ wx h h'
 clear hga hgb
 refine wp_region_held_drew (S := GHeld W1 g1 g2 (.slice an nn cn) (.slice ar nr cr) (.slice an' nn' cn') (.slice ar' nr' cr')) (by kernel_rfl) (HS0.out.on (Bd W1 1)) (fun hHeld => ?_)
 refine htake 0 (some 5) (.agg #[.slice an nn cn, .slice ar nr cr]) rfl rfl (by kernel_rfl) (by kernel_rfl) (by kernel_rfl) (fun _ _ _ h => h) (Or.inl ⟨by rfl, fun wx hSw => ?_⟩) (by assumption) ?_
 ·obtain ⟨⟨s0, s1, s2, s3⟩, _⟩ := hSw
  go_simp
 simp only [Act.put, List.setIfInBounds_toArray, List.set_cons_zero, List.set_cons_succ]
 refine hone 1 _ rfl (by kernel_rfl) (fun K hK => ?_)
 go_simp
 go_at_call 12
 with_reducible refine (C1.out _ (GHeld.bel hHeld)).mono ?_
 rintro e wy1 ⟨rfl, bb1⟩
 refine hK.out _ _ (hHeld.on bb1) (fun hHeld1 => ?_)
 clear hK K hHeld
 (try simp only [Act.put, List.setIfInBounds_toArray, List.set_cons_zero, List.set_cons_succ])
 cases ga
 ·have HE : Hid (sameGB ns rs ns' rs' = false) := by unfold Hid sameGB; rw [<- HGA.out]; rfl
  refine htake 2 (some 7) (.bool false) rfl rfl (by kernel_rfl) (by kernel_rfl) (by kernel_rfl) (fun _ _ _ h => h) (Or.inl ⟨by rfl, fun wx hSw => ?_⟩) (by assumption) ?_
  ·obtain ⟨⟨s0, s1, s2, s3⟩, _⟩ := hSw
   go_simp
  simp only [Act.put, List.setIfInBounds_toArray, List.set_cons_zero, List.set_cons_succ]
  refine htake 3 (some 8) undef rfl rfl (by kernel_rfl) (by kernel_rfl) (by kernel_rfl) (fun _ _ _ h => h) (Or.inr ⟨by rfl, rfl⟩) (by assumption) ?_
  simp only [Act.put, List.setIfInBounds_toArray, List.set_cons_zero, List.set_cons_succ]
  refine htake 4 (some 9) undef rfl rfl (by kernel_rfl) (by kernel_rfl) (by kernel_rfl) (fun _ _ _ h => h) (Or.inr ⟨by rfl, rfl⟩) (by assumption) ?_
  simp only [Act.put, List.setIfInBounds_toArray, List.set_cons_zero, List.set_cons_succ]
  refine htake 5 (some 10) (.bool false) rfl rfl (by kernel_rfl) (by kernel_rfl) (by kernel_rfl) (fun _ _ _ h => h) (Or.inl ⟨by rfl, fun wx hSw => ?_⟩) (by assumption) ?_
  ·obtain ⟨⟨s0, s1, s2, s3⟩, _⟩ := hSw
   go_simp
  simp only [Act.put, List.setIfInBounds_toArray, List.set_cons_zero, List.set_cons_succ]
  refine htake 6 (some 11) (.bool false) rfl rfl (by kernel_rfl) (by kernel_rfl) (by kernel_rfl) (fun _ _ _ h => h) (Or.inl ⟨by rfl, fun wx hSw => ?_⟩) (by assumption) ?_
  ·obtain ⟨⟨s0, s1, s2, s3⟩, _⟩ := hSw
   go_simp
  simp only [Act.put, List.setIfInBounds_toArray, List.set_cons_zero, List.set_cons_succ]
  refine htake 7 (some 12) undef rfl rfl (by kernel_rfl) (by kernel_rfl) (by kernel_rfl) (fun _ _ _ h => h) (Or.inr ⟨by rfl, rfl⟩) (by assumption) ?_
  simp only [Act.put, List.setIfInBounds_toArray, List.set_cons_zero, List.set_cons_succ]
  refine htake 8 (some 13) undef rfl rfl (by kernel_rfl) (by kernel_rfl) (by kernel_rfl) (fun _ _ _ h => h) (Or.inr ⟨by rfl, rfl⟩) (by assumption) ?_
  simp only [Act.put, List.setIfInBounds_toArray, List.set_cons_zero, List.set_cons_succ]
  refine htake 9 (some 14) undef rfl rfl (by kernel_rfl) (by kernel_rfl) (by kernel_rfl) (fun _ _ _ h => h) (Or.inr ⟨by rfl, rfl⟩) (by assumption) ?_
  simp only [Act.put, List.setIfInBounds_toArray, List.set_cons_zero, List.set_cons_succ]
  refine htake 10 (some 15) undef rfl rfl (by kernel_rfl) (by kernel_rfl) (by kernel_rfl) (fun _ _ _ h => h) (Or.inr ⟨by rfl, rfl⟩) (by assumption) ?_
  simp only [Act.put, List.setIfInBounds_toArray, List.set_cons_zero, List.set_cons_succ]
  refine htake 11 (some 16) undef rfl rfl (by kernel_rfl) (by kernel_rfl) (by kernel_rfl) (fun _ _ _ h => h) (Or.inr ⟨by rfl, rfl⟩) (by assumption) ?_
  simp only [Act.put, List.setIfInBounds_toArray, List.set_cons_zero, List.set_cons_succ]
  refine htake 12 (some 17) (.bool false) rfl rfl (by kernel_rfl) (by kernel_rfl) (by kernel_rfl) (fun _ _ _ h => h) (Or.inl ⟨by rfl, fun wx hSw => ?_⟩) (by assumption) ?_
  ·obtain ⟨⟨s0, s1, s2, s3⟩, _⟩ := hSw
   go_simp
  simp only [Act.put, List.setIfInBounds_toArray, List.set_cons_zero, List.set_cons_succ]
  refine hone 13 _ rfl (by kernel_rfl) (fun K hK => ?_)
  go_simp
  refine hK.out _ _ hHeld1 (fun _ => ?_)
  clear hK K
  refine wpAnyH_done (by kernel_rfl) ?_ _
  have HBE : Hid (Below w.heap.size w wy1) := Bt HB.out (GHeld.bel hHeld1)
  clear hHeld1
  go_wp2
  go_ret
  exact ⟨(by rw [HE.out]; rfl), HBE.out⟩
 ·skip
  refine htake 2 (some 7) (.bool true) rfl rfl (by kernel_rfl) (by kernel_rfl) (by kernel_rfl) (fun _ _ _ h => h) (Or.inl ⟨by rfl, fun wx hSw => ?_⟩) (by assumption) ?_
  ·obtain ⟨⟨s0, s1, s2, s3⟩, _⟩ := hSw
   go_simp
  simp only [Act.put, List.setIfInBounds_toArray, List.set_cons_zero, List.set_cons_succ]
  refine htake 3 (some 8) (.agg #[.slice an' nn' cn', .slice ar' nr' cr']) rfl rfl (by kernel_rfl) (by kernel_rfl) (by kernel_rfl) (fun _ _ _ h => h) (Or.inl ⟨by rfl, fun wx hSw => ?_⟩) (by assumption) ?_
  ·obtain ⟨⟨s0, s1, s2, s3⟩, _⟩ := hSw
   go_simp
  simp only [Act.put, List.setIfInBounds_toArray, List.set_cons_zero, List.set_cons_succ]
  refine hone 4 _ rfl (by kernel_rfl) (fun K hK => ?_)
  go_simp
  go_at_call 12
  with_reducible refine (C2.out _ (GHeld.bel hHeld1)).mono ?_
  rintro e wy2 ⟨rfl, bb2⟩
  refine hK.out _ _ (hHeld1.on bb2) (fun hHeld2 => ?_)
  clear hK K hHeld1
  (try simp only [Act.put, List.setIfInBounds_toArray, List.set_cons_zero, List.set_cons_succ])
  cases gb
  ·have HE : Hid (sameGB ns rs ns' rs' = false) := by unfold Hid sameGB; rw [<- HGA.out, <- HGB.out]; rfl
   refine htake 5 (some 10) (.bool false) rfl rfl (by kernel_rfl) (by kernel_rfl) (by kernel_rfl) (fun _ _ _ h => h) (Or.inl ⟨by rfl, fun wx hSw => ?_⟩) (by assumption) ?_
   ·obtain ⟨⟨s0, s1, s2, s3⟩, _⟩ := hSw
    go_simp
   simp only [Act.put, List.setIfInBounds_toArray, List.set_cons_zero, List.set_cons_succ]
   refine htake 6 (some 11) (.bool false) rfl rfl (by kernel_rfl) (by kernel_rfl) (by kernel_rfl) (fun _ _ _ h => h) (Or.inl ⟨by rfl, fun wx hSw => ?_⟩) (by assumption) ?_
   ·obtain ⟨⟨s0, s1, s2, s3⟩, _⟩ := hSw
    go_simp
   simp only [Act.put, List.setIfInBounds_toArray, List.set_cons_zero, List.set_cons_succ]
   refine htake 7 (some 12) undef rfl rfl (by kernel_rfl) (by kernel_rfl) (by kernel_rfl) (fun _ _ _ h => h) (Or.inr ⟨by rfl, rfl⟩) (by assumption) ?_
   simp only [Act.put, List.setIfInBounds_toArray, List.set_cons_zero, List.set_cons_succ]
   refine htake 8 (some 13) undef rfl rfl (by kernel_rfl) (by kernel_rfl) (by kernel_rfl) (fun _ _ _ h => h) (Or.inr ⟨by rfl, rfl⟩) (by assumption) ?_
   simp only [Act.put, List.setIfInBounds_toArray, List.set_cons_zero, List.set_cons_succ]
   refine htake 9 (some 14) undef rfl rfl (by kernel_rfl) (by kernel_rfl) (by kernel_rfl) (fun _ _ _ h => h) (Or.inr ⟨by rfl, rfl⟩) (by assumption) ?_
   simp only [Act.put, List.setIfInBounds_toArray, List.set_cons_zero, List.set_cons_succ]
   refine htake 10 (some 15) undef rfl rfl (by kernel_rfl) (by kernel_rfl) (by kernel_rfl) (fun _ _ _ h => h) (Or.inr ⟨by rfl, rfl⟩) (by assumption) ?_
   simp only [Act.put, List.setIfInBounds_toArray, List.set_cons_zero, List.set_cons_succ]
   refine htake 11 (some 16) undef rfl rfl (by kernel_rfl) (by kernel_rfl) (by kernel_rfl) (fun _ _ _ h => h) (Or.inr ⟨by rfl, rfl⟩) (by assumption) ?_
   simp only [Act.put, List.setIfInBounds_toArray, List.set_cons_zero, List.set_cons_succ]
   refine htake 12 (some 17) (.bool false) rfl rfl (by kernel_rfl) (by kernel_rfl) (by kernel_rfl) (fun _ _ _ h => h) (Or.inl ⟨by rfl, fun wx hSw => ?_⟩) (by assumption) ?_
   ·obtain ⟨⟨s0, s1, s2, s3⟩, _⟩ := hSw
    go_simp
   simp only [Act.put, List.setIfInBounds_toArray, List.set_cons_zero, List.set_cons_succ]
   refine hone 13 _ rfl (by kernel_rfl) (fun K hK => ?_)
   go_simp
   refine hK.out _ _ hHeld2 (fun _ => ?_)
   clear hK K
   refine wpAnyH_done (by kernel_rfl) ?_ _
   have HBE : Hid (Below w.heap.size w wy2) := Bt HB.out (GHeld.bel hHeld2)
   clear hHeld2
   go_wp2
   go_ret
   exact ⟨(by rw [HE.out]; rfl), HBE.out⟩
  ·have HE : Hid (sameGB ns rs ns' rs' = decide ((canonN ns rs).1 = (canonN ns' rs').1 /\ (canonN ns rs).2 = (canonN ns' rs').2)) := by unfold Hid sameGB; rw [<- HGA.out, <- HGB.out]; simp
   refine htake 5 (some 10) (.bool true) rfl rfl (by kernel_rfl) (by kernel_rfl) (by kernel_rfl) (fun _ _ _ h => h) (Or.inl ⟨by rfl, fun wx hSw => ?_⟩) (by assumption) ?_
   ·obtain ⟨⟨s0, s1, s2, s3⟩, _⟩ := hSw
    go_simp
   simp only [Act.put, List.setIfInBounds_toArray, List.set_cons_zero, List.set_cons_succ]
   refine htake 6 (some 11) (.bool true) rfl rfl (by kernel_rfl) (by kernel_rfl) (by kernel_rfl) (fun _ _ _ h => h) (Or.inl ⟨by rfl, fun wx hSw => ?_⟩) (by assumption) ?_
   ·obtain ⟨⟨s0, s1, s2, s3⟩, _⟩ := hSw
    go_simp
   simp only [Act.put, List.setIfInBounds_toArray, List.set_cons_zero, List.set_cons_succ]
   refine htake 7 (some 12) (.agg #[.slice an nn cn, .slice ar nr cr]) rfl rfl (by kernel_rfl) (by kernel_rfl) (by kernel_rfl) (fun _ _ _ h => h) (Or.inl ⟨by rfl, fun wx hSw => ?_⟩) (by assumption) ?_
   ·obtain ⟨⟨s0, s1, s2, s3⟩, _⟩ := hSw
    go_simp
   simp only [Act.put, List.setIfInBounds_toArray, List.set_cons_zero, List.set_cons_succ]
   refine htake 9 (some 14) (.agg #[.slice an' nn' cn', .slice ar' nr' cr']) rfl rfl (by kernel_rfl) (by kernel_rfl) (by kernel_rfl) (fun _ _ _ h => h) (Or.inl ⟨by rfl, fun wx hSw => ?_⟩) (by assumption) ?_
   ·obtain ⟨⟨s0, s1, s2, s3⟩, _⟩ := hSw
    go_simp
   simp only [Act.put, List.setIfInBounds_toArray, List.set_cons_zero, List.set_cons_succ]
   refine hone 8 _ rfl (by kernel_rfl) (fun K hK => ?_)
   go_simp
   go_at_call 14
   with_reducible refine (C3.out _ (GHeld.bel hHeld2)).mono ?_
   rintro e wy3 ⟨a1, n1, c1, a2, n2, c2, rfl, i3, bb3⟩
   refine hK.out _ _ (hHeld2.on bb3) (fun hHeld3 => ?_)
   clear hK K hHeld2
   (try simp only [Act.put, List.setIfInBounds_toArray, List.set_cons_zero, List.set_cons_succ])
   refine hone 10 _ rfl (by kernel_rfl) (fun K hK => ?_)
   go_simp
   go_at_call 14
   with_reducible refine (C4.out _ (GHeld.bel hHeld3)).mono ?_
   rintro e wy4 ⟨a3, n3, c3, a4, n4, c4, rfl, i4, bb4⟩
   refine hK.out _ _ (hHeld3.on bb4) (fun hHeld4 => ?_)
   clear hK K hHeld3
   (try simp only [Act.put, List.setIfInBounds_toArray, List.set_cons_zero, List.set_cons_succ])
   have C6 := hid (C5.out _ _ _ _ _ _ _ _ _ _ _ _ _ (i3.below bb4) i4)
   generalize decide ((canonN ns rs).1 = (canonN ns' rs').1 /\ (canonN ns rs).2 = (canonN ns' rs').2) = eq at *
   clear C5 i3 i4
   refine hone 11 _ rfl (by kernel_rfl) (fun K hK => ?_)
   go_simp
   go_at_call 13
   with_reducible refine (C6.out).mono ?_
   rintro e wy5 ⟨rfl, bb5⟩
   refine hK.out _ _ (hHeld4.on bb5) (fun hHeld5 => ?_)
   clear hK K hHeld4
   (try simp only [Act.put, List.setIfInBounds_toArray, List.set_cons_zero, List.set_cons_succ])
   refine htake 12 (some 17) (.bool eq) rfl rfl (by kernel_rfl) (by kernel_rfl) (by kernel_rfl) (fun _ _ _ h => h) (Or.inl ⟨by rfl, fun wx hSw => ?_⟩) (by assumption) ?_
   ·obtain ⟨⟨s0, s1, s2, s3⟩, _⟩ := hSw
    go_simp
   simp only [Act.put, List.setIfInBounds_toArray, List.set_cons_zero, List.set_cons_succ]
   refine hone 13 _ rfl (by kernel_rfl) (fun K hK => ?_)
   go_simp
   refine hK.out _ _ hHeld5 (fun _ => ?_)
   clear hK K
   refine wpAnyH_done (by kernel_rfl) ?_ _
   have HBE : Hid (Below w.heap.size w wy5) := Bt HB.out (GHeld.bel hHeld5)
   clear hHeld5
   go_wp2
   go_ret
   exact ⟨(by rw [HE.out]; rfl), HBE.out⟩
end Go.Proofs.YticimejfjjmikaaGreatDoor
