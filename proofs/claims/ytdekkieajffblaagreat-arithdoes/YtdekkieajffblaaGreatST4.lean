/-
  Walks, of the document's store: Big; names.
-/
import Derived.Test.YtdekkieajffblaaGreatSG0
import Derived.Test.YtdekkieajffblaaGreatG0
import Derived.Test.YtdekkieajffblaaGreatV4
set_option linter.unusedVariables false
set_option linter.unusedSimpArgs false
set_option maxRecDepth 100000
namespace Go.Proofs.YtdekkieajffblaaGreat
open Go.RowKit

/-- The limbs of a number. -/
def mgF : Nat → Nat → List Nat
  | 0, _ => []
  | f + 1, v => if v = 0 then [] else (v % B32) :: mgF f (v / B32)
def mg (v : Nat) : List Nat := mgF v v
theorem mgF_ok : ∀ f v, v ≤ f → Dg B32 (mgF f v) ∧ Tr (mgF f v) ∧ val B32 (mgF f v) = v ∧ (v ≠ 0 → mgF f v ≠ [])
  | 0, v, h => by
    obtain rfl : v = 0 := by omega
    exact ⟨Dg.nil _, Tr.nil, rfl, fun h => absurd rfl h⟩
  | f + 1, v, h => by
    have hB : B32 = 4294967296 := rfl
    by_cases hv : v = 0
    · subst hv; simp [mgF, val]; exact ⟨Dg.nil _, Tr.nil⟩
    · obtain ⟨h1, h2, h3, h4⟩ := mgF_ok f (v / B32) (by rw [hB]; omega)
      have e : mgF (f + 1) v = (v % B32) :: mgF f (v / B32) := by simp [mgF, hv]
      rw [e]
      refine ⟨fun x hx => ?_, .inr ?_, ?_, fun _ => by simp⟩
      · rcases List.mem_cons.1 hx with rfl | hx
        · rw [hB]; omega
        · exact h1 x hx
      · by_cases h0 : v / B32 = 0
        · have : mgF f (v / B32) = [] := by rw [h0]; cases f <;> simp [mgF]
          rw [this]; simp; rw [hB] at h0 ⊢; omega
        · have hne := h4 h0
          have := h2.resolve_left hne
          obtain ⟨n, hn⟩ : ∃ n, (mgF f (v / B32)).length = n + 1 := ⟨(mgF f (v / B32)).length - 1, by have := List.length_pos_iff.2 hne; omega⟩
          rw [List.length_cons, hn]
          rw [hn] at this
          simpa using this
      · rw [val_cons, h3, hB]; omega
theorem mg_is {l : List Nat} {v : Nat} (hd : Dg B32 l) (ht : Tr l) (hv : val B32 l = v) : l = mg v := by
  obtain ⟨h1, h2, h3, _⟩ := mgF_ok v v (Nat.le_refl _)
  exact digits_unique (by decide) hd h1 ht h2 (hv.trans h3.symm)
def FixPost (z : Int) (w : World) (e : Ending) (w' : World) : Prop := ∃ v, e = .returned (.tuple #[.int .i64 v, .bool (fixB z)]) ∧ (fixB z = true → v = z) ∧ Below w.heap.size w w'
theorem fixed_any (neg : Bool) (ao : Option Addr) (n cap : Nat) (l : List Nat) (w : World) (R : Row .u32 B32 w ao n cap l) (g : goodB neg l = true) :
    Calls Tryz.prog 28 #[.agg #[.bool neg, .slice ao n cap]] w fun e w' => FixPost (sgn neg (val B32 l)) w e w' := by
  have b0 := Ba w (.cells #[.bool neg, .slice ao n cap] 40)
  have C := hid (rto_any neg ao n cap l (w.alloc (.cells #[.bool neg, .slice ao n cap] 40)) (R.below b0) g)
  unfold ToPost at C
  have hx := blk_new w #[.bool neg, .slice ao n cap] 40
  have c0 : (w.alloc (.cells #[.bool neg, .slice ao n cap] 40)).cell? ⟨w.heap.size, 0, none⟩ = some (.bool neg) := blk_cell hx 0
  have c1 : (w.alloc (.cells #[.bool neg, .slice ao n cap] 40)).cell? ⟨w.heap.size, 1, none⟩ = some (.slice ao n cap) := blk_cell hx 1
  have HB := hid b0
  obtain ⟨z, hz⟩ : ∃ z, z = sgn neg (val B32 l) := ⟨_, rfl⟩
  rw [← hz] at C ⊢
  clear R g hx b0 hz
  by_cases hf : fits z = true
  · rw [hf] at C
    obtain ⟨h1, h2⟩ := of_decide_eq_true hf
    clear hf
    by_cases k1 : -1152921504606846976 ≤ z
    · by_cases k2 : z < 1152921504606846976
      · have HFX : Hid (fixB z = true) := by unfold Hid fixB; rw [decide_eq_true k1, decide_eq_true k2]; rfl
        go_enter Tryz.func28, Tryz.ntmps28
        go_wp2_with (go_at_call 60; (with_reducible refine C.out.mono ?_); rintro e W1 ⟨v, rfl, hv, b1⟩; rw [hv rfl]; have HB1 := hid (Bt HB.out b1); clear b1 hv)
        go_ret2
        unfold FixPost; rw [HFX.out]; exact ⟨_, rfl, fun _ => rfl, HB1.out⟩
      · have HFX : Hid (fixB z = false) := by unfold Hid fixB; rw [decide_eq_false k2]; simp
        have k2d : decide (z < 1152921504606846976) = false := decide_eq_false k2
        go_enter Tryz.func28, Tryz.ntmps28
        go_wp2_with (go_at_call 60; (with_reducible refine C.out.mono ?_); rintro e W1 ⟨v, rfl, hv, b1⟩; rw [hv rfl]; have HB1 := hid (Bt HB.out b1); clear b1 hv)
        go_ret2
        unfold FixPost; rw [HFX.out]; exact ⟨_, rfl, fun h => (by cases h), HB1.out⟩
    · have HFX : Hid (fixB z = false) := by unfold Hid fixB; rw [decide_eq_false k1]; simp
      have k1d : decide (-1152921504606846976 ≤ z) = false := decide_eq_false k1
      go_enter Tryz.func28, Tryz.ntmps28
      go_wp2_with (go_at_call 60; (with_reducible refine C.out.mono ?_); rintro e W1 ⟨v, rfl, hv, b1⟩; rw [hv rfl]; have HB1 := hid (Bt HB.out b1); clear b1 hv)
      go_ret2
      unfold FixPost; rw [HFX.out]; exact ⟨_, rfl, fun h => (by cases h), HB1.out⟩
  · have hf' : fits z = false := by simpa using hf
    rw [hf'] at C
    have HFX : Hid (fixB z = false) := by
      unfold Hid fixB
      have := of_decide_eq_false hf'
      by_cases k1 : -1152921504606846976 ≤ z
      · rw [decide_eq_true k1, decide_eq_false (by omega)]; rfl
      · rw [decide_eq_false k1]; rfl
    clear hf hf'
    go_enter Tryz.func28, Tryz.ntmps28
    go_wp2_with (go_at_call 60; (with_reducible refine C.out.mono ?_); rintro e W1 ⟨v, rfl, hv, b1⟩; have HB1 := hid (Bt HB.out b1); clear b1 hv)
    go_ret2
    unfold FixPost; rw [HFX.out]; exact ⟨_, rfl, fun h => (by cases h), HB1.out⟩
/-- The integer that a text is. -/
def txZ (t : ByteArray) : Int := sgn ((cutS (bs t)).1 && decide (hv 10 (cutS (bs t)).2 ≠ 0)) (hv 10 (cutS (bs t)).2)
end Go.Proofs.YtdekkieajffblaaGreat

set_option linter.unusedVariables false
set_option linter.unusedSimpArgs false
set_option maxRecDepth 100000
namespace Go.Proofs.YtdekkieajffblaaGreat
open Go.RowKit

/-- A node's value. -/
def NdVal (d : Nd) (ka : Option Addr) (kc : Nat) : Value := .agg #[.int .i64 d.kind, .int .i64 d.num, .string d.text, .slice ka d.kids.length kc]
/-- How many words a node's object has. -/
def sizeN (d : Nd) : Int :=
  if d.kind = 1 ∨ d.kind = 2 ∨ d.kind = 4 ∨ d.kind = 6 ∨ d.kind = 10 ∨ d.kind = 11 then (0 : Int)
  else if d.kind = 3 then (if fixB (txZ d.text) = true then 0 else 2 + (((mg (txZ d.text).natAbs).length : Nat) : Int))
  else if d.kind = 5 then 1 + (((ltrs d.text).length : Nat) : Int)
  else if d.kind = 7 ∨ d.kind = 8 then 1 + ((d.kids.length : Nat) : Int)
  else if d.kind = 9 then 1 + ((d.text.size : Nat) : Int) else (-1 : Int)
theorem slice_form {w : World} {base : Nat} {e : TypeId} {k : Nat} {v : Value} {n : Nat} {xs : List Value} (h : w.ownsRow base e k v n xs) : ∃ a c, v = .slice a n c ∧ n ≤ c ∧ c ≤ 9223372036854775807 := by
  rcases h.2 with ⟨e1, e2⟩ | ⟨g, cap, cur, e1, _, _, h4, h5, _⟩
  · subst e2; exact ⟨none, 0, e1, Nat.le_refl _, by omega⟩
  · unfold maxLen at h5; exact ⟨_, _, e1, h4, h5⟩
end Go.Proofs.YtdekkieajffblaaGreat

set_option linter.unusedVariables false
set_option linter.unusedSimpArgs false
set_option maxRecDepth 100000
namespace Go.Proofs.YtdekkieajffblaaGreat
open Go.RowKit

set_option maxHeartbeats 4000000 in
theorem rnew_any (n : Int) (hn : Z64 n) (w : World) :
    Calls Tryz.prog 7 #[.int .i64 n] w fun e w' => if n < 1 ∨ 4194304 < n then e = .returned (.tuple #[.pointer none, .int .i64 1]) ∧ w' = w else ∃ g, e = .returned (.tuple #[.pointer (some ⟨g, 0, none⟩), .int .i64 0]) ∧ w.heap.size ≤ g ∧ RH w.heap.size g n (.slice none 0 0) [] w' ∧ Below w.heap.size w w' := by
  unfold Z64 at hn
  by_cases hb : n < 1 ∨ 4194304 < n
  · simp only [if_pos hb]
    go_enter Tryz.func7, Tryz.ntmps7
    go_wp2
    all_goals first
      | omega
      | (go_ret2; exact ⟨rfl, rfl⟩)
  · simp only [if_neg hb]
    have HE : Hid (RH w.heap.size w.heap.size n (.slice none 0 0) [] (w.alloc (.cells #[.int .i64 n, .slice none 0 0] 68))) :=
      ⟨blk_new _ _ _, World.ownsRow_nil _ _ _ _, fun x hx => (by cases hx), List.Pairwise.nil, fun x hx => (by cases hx), (by intro e; cases e), Nat.le_refl _, fun x hx => (by cases hx), fun x hx => (by cases hx), ⟨by simp [usedL]; omega, by omega⟩⟩
    go_enter Tryz.func7, Tryz.ntmps7
    go_wp2
    all_goals first
      | omega
      | (go_ret2; exact ⟨_, rfl, Nat.le_refl _, HE.out, Ba _ _⟩)

/-- 'append(words, more...)' in plain code. -/
theorem appU {P : Program} {w : World} {ops : Array Oper} {rest : List Oper} {o : Oper} {a : Act} {Q : Exit → Act → World → Prop} (hgd : o.guard = none) (s x : Operand) (t : TypeId) (ho : o.op = .call { callee := .builtin .append, args := #[s, x], argTypes := #[t, t] })
    (base : Nat) (e : TypeId) (ht : P.underlying t = some (.slice e)) (hi : (P.info? e).map (fun i => (i.zero, i.size, i.bytes)) = some (some (.int .u64 0), 1, 8))
    (v : Value) (n : Nat) (l : List Int) (hs : a.eval s = v) (hown : w.ownsRow base e 1 v n (uz l))
    (ao : Option Addr) (m c : Nat) (r : List Int) (hx : a.eval x = .slice ao m c) (hr : URow w ao m c r) (hsm : n + m ≤ 1099511627776) (hbase : base ≤ w.heap.size)
    (h : ∀ v' w', w'.ownsRow base e 1 v' (n + m) (uz (l ++ r)) → w.grownBy w' v.ownBlock → wpList P ops Q rest (a.put o.dst v') w') : wpList P ops Q (o :: rest) a w :=
  wpList_plain hgd fun K hK => by
    have := stepU (P := P) (w := w) (ops := ops) (o := o) (a := a) (K := K) (Q := Q) (E := False) o.dst rfl hgd s x t ho base e ht hi v n l hs hown ao m c r hx hr hsm hbase (fun v' w' h1 h2 => hK _ _ (h v' w' h1 h2))
    have hw : Region.wanted o (yielded ops a.tmps) = true := by simp [Region.wanted, hgd]
    rw [if_pos hw] at this
    exact this
theorem urow_one {w : World} {g : Nat} {z : Int} {t : TypeId} (h : w.heap[g]? = some (.cells #[.int .u64 z] t (0, 0))) (hz : U64 z) : URow w (some ⟨g, 0, none⟩) 1 1 [z] :=
  ⟨rfl, Nat.le_refl _, by unfold maxLen; omega, fun e => (by cases e), fun y hy => by simp at hy; rw [hy]; exact hz, .inr ⟨g, 0, rfl, (Array.getElem?_eq_some_iff.1 h).1, fun i hi => by
    have : i = 0 := by simpa using hi
    subst this
    exact blk_cell h 0⟩⟩
theorem urow_own {w : World} {B : Nat} {e : TypeId} {v : Value} {l : List Int} (h : w.ownsRow B e 1 v l.length (uz l)) (hb : ∀ z ∈ l, U64 z) : ∃ ao cap, v = .slice ao l.length cap ∧ URow w ao l.length cap l := by
  rcases h.2 with ⟨rfl, h0⟩ | ⟨g, cap, cur, rfl, h2, h3, h4, h5, h6, h7⟩
  · have : l = [] := List.length_eq_zero_iff.1 h0
    subst this
    exact ⟨none, 0, rfl, rfl, Nat.le_refl _, by unfold maxLen; omega, fun _ => rfl, hb, .inl rfl⟩
  · refine ⟨some ⟨g, 0, none⟩, cap, rfl, rfl, h4, h5, fun e => (by cases e), hb, .inr ⟨g, 0, rfl, (Array.getElem?_eq_some_iff.1 h3).1, fun i hi => ?_⟩⟩
    rw [Nat.zero_add, blk_cell h3]
    have : cur[i]? = (uz l)[i]? := by rw [← h7, List.getElem?_take, if_pos (by omega)]; simp
    rw [this, uz_get hi]

/-- What Fill answers; the objects behind it. -/
def fillM (os : List Ob) (N kind n z : Int) : Int × Int :=
  if kind < 1 ∨ 22 < kind then (0, 70) else if n < 0 ∨ 4194304 < n ∨ isHd z = true then (0, 1) else allocM os N kind (List.replicate n.toNat z)
def fillO (os : List Ob) (N kind n z : Int) : List Ob := if (fillM os N kind n z).2 = 0 then os ++ [⟨kind, List.replicate n.toNat z⟩] else os
end Go.Proofs.YtdekkieajffblaaGreat

set_option linter.unusedVariables false
set_option linter.unusedSimpArgs false
set_option maxRecDepth 100000
namespace Go.Proofs.YtdekkieajffblaaGreat
open Go.RowKit

/-- An integer's fields. -/
def bigL (neg : Bool) (l : List Nat) : List Int := wordR 1 (if neg then 1 else 0) 0 :: l.map (fun x => wordR 1 (x : Nat) 0)
theorem bigL_take (neg : Bool) {l : List Nat} {q : Nat} (h : q < l.length) : bigL neg (l.take (q + 1)) = bigL neg (l.take q) ++ [wordR 1 (l.getD q 0 : Nat) 0] := by
  unfold bigL
  rw [List.take_succ_eq_append_getElem h, List.map_append, List.cons_append, List.getD_eq_getElem?_getD, List.getElem?_eq_getElem h]; rfl
theorem bigL_len (neg : Bool) (l : List Nat) : (bigL neg l).length = l.length + 1 := by simp [bigL]
theorem bigL_u (neg : Bool) (l : List Nat) : ∀ z ∈ bigL neg l, U64 z := by
  intro z hz
  unfold bigL at hz
  rcases List.mem_cons.1 hz with rfl | hz
  · exact wordR_rng _ _ _
  · obtain ⟨x, _, rfl⟩ := List.mem_map.1 hz; exact wordR_rng _ _ _
theorem own_one {w W : World} {z : Int} (hb : Below w.heap.size w W) : (W.alloc (.cells #[.int .u64 z] 35)).ownsRow w.heap.size 35 1 (.slice (some ⟨W.heap.size, 0, none⟩) 1 1) 1 (uz [z]) :=
  ⟨rfl, .inr ⟨W.heap.size, 1, #[.int .u64 z], rfl, hb.size, blk_new _ _ _, Nat.le_refl _, by unfold maxLen; omega, rfl, rfl⟩⟩
set_option maxHeartbeats 4000000 in
theorem big_any (neg : Bool) (ao : Option Addr) (n cap : Nat) (l : List Nat) (w : World) (R : Row .u32 B32 w ao n cap l) (hn : n ≤ 1000) :
    Calls Tryz.prog 33 #[.agg #[.bool neg, .slice ao n cap]] w fun e w' => ∃ v, e = .returned v ∧ w'.ownsRow w.heap.size 35 1 v (n + 1) (uz (bigL neg l)) ∧ Below w.heap.size w w' := by
  have HR := hid R
  have hln := R.len
  have hf := R.fits
  have hm := R.most
  unfold maxLen at hm
  have b0 := Ba w (.cells #[.bool neg, .slice ao n cap] 40)
  have HB0 := hid b0
  have hx := blk_new w #[.bool neg, .slice ao n cap] 40
  have HX := hid hx
  have HC : Hid (∀ W, Below (w.alloc (.cells #[.bool neg, .slice ao n cap] 40)).heap.size (w.alloc (.cells #[.bool neg, .slice ao n cap] 40)) W → W.cell? ⟨w.heap.size, 0, none⟩ = some (.bool neg) ∧ W.cell? ⟨w.heap.size, 1, none⟩ = some (.slice ao n cap) ∧ Below w.heap.size w W) := fun W b => by
    have e := (b.block w.heap.size (by rw [size_alloc]; omega)).trans HX.out
    exact ⟨blk_cell e 0, blk_cell e 1, Bt HB0.out b⟩
  have CW : Hid (∀ x : Nat, x < 4294967296 → ∀ W, Calls Tryz.prog 29 #[.int .i64 1, .int .i64 (x : Nat)] W fun e w' => e = .returned (.int .u64 (wordR 1 (x : Nat) 0)) ∧ Below W.heap.size W w') := fun x hx W => sword_any 1 x (by unfold Z64; omega) (by unfold Z64; omega) W
  have CW0 := hid (CW.out 0 (by omega))
  have CW1 := hid (CW.out 1 (by omega))
  obtain ⟨z0, hz0⟩ : ∃ z, z = wordR 1 ((0 : Nat) : Int) 0 := ⟨_, rfl⟩
  obtain ⟨z1, hz1⟩ : ∃ z, z = wordR 1 ((1 : Nat) : Int) 0 := ⟨_, rfl⟩
  rw [← hz0] at CW0
  rw [← hz1] at CW1
  have HBG : Hid (bigL neg [] = [if neg then z1 else z0]) := by
    unfold Hid bigL
    cases neg
    · simp [hz0]
    · simp [hz1]
  obtain ⟨W0, hW0⟩ : ∃ W, W = w.alloc (.cells #[.bool neg, .slice ao n cap] 40) := ⟨_, rfl⟩
  have HW0 := hid hW0
  rw [← hW0] at HC
  clear R b0 hx hz0 hz1
  have c0 := (HC.out W0 (Below.refl _ _)).1
  rw [hW0] at c0
  have fin : Hid (∀ (v : Value) (wr : World) (q : Nat), wr.ownsRow W0.heap.size 35 1 v (q + 1) (uz (bigL neg (l.take q))) → Below W0.heap.size W0 wr → q = n → wr.ownsRow w.heap.size 35 1 v (n + 1) (uz (bigL neg l)) ∧ Below w.heap.size w wr) := fun v wr q h1 h2 e => by
    subst e
    rw [List.take_of_length_le (by omega)] at h1
    exact ⟨own_weak h1 (by rw [HW0.out, size_alloc]; omega), (HC.out wr h2).2.2⟩
  have hone : Hid (∀ (W : World) (z : Int), Below W0.heap.size W0 W → (W.alloc (.cells #[.int .u64 z] 35)).ownsRow W0.heap.size 35 1 (.slice (some ⟨W.heap.size, 0, none⟩) 1 1) 1 (uz [z])) := fun W z hb => own_one hb
  have HRW : Hid (∀ W, Below W0.heap.size W0 W → Row .u32 B32 W ao n cap l) := fun W b => HR.out.below (HC.out W b).2.2
  cases neg
  · have eW : Hid (w.alloc (.cells #[.bool false, .slice ao n cap] 40) = W0) := HW0.out.symm
    go_enter Tryz.func33, Tryz.ntmps33
    go_wp2_with fail
    rw [eW.out]
    go_wp2_with (go_at_call 29; (refine (CW0.out W0).mono ?_); rintro e W1 ⟨rfl, b1⟩; have HB1 := hid b1; obtain ⟨e0, e1, _⟩ := HC.out (W1.alloc (.cells #[.int .u64 z0] 35)) (Bt b1 (Ba _ _)); clear b1)
    have HBSTART : Hid (Below W0.heap.size W0 (W1.alloc (.cells #[.int .u64 z0] 35))) := Bt HB1.out (Ba _ _)
    have HSTART : Hid ((W1.alloc (.cells #[.int .u64 z0] 35)).ownsRow W0.heap.size 35 1 (.slice (some ⟨W1.heap.size, 0, none⟩) 1 1) (0 + 1) (uz (bigL false (l.take 0)))) := by
      unfold Hid
      rw [List.take_zero, HBG.out]
      exact hone.out W1 z0 HB1.out
    clear e0 e1
    go_loopw [3, 4] (fun v i wr => ∃ q : Nat, q ≤ n ∧ i = .int .i64 q ∧ Hid (wr.ownsRow W0.heap.size 35 1 v (q + 1) (uz (bigL false (l.take q))) ∧ Below W0.heap.size W0 wr)) (fun _ i _ => n - (intOf i).toNat)
    case atStart => exact ⟨0, Nat.zero_le _, rfl, HSTART.out, HBSTART.out⟩
    case round =>
      obtain ⟨q, hq, rfl, hI⟩ := hrel
      obtain ⟨_, d1, _⟩ := HC.out wr hI.out.2
      have HOQ := hid hI.out.1
      have HBQ := hid hI.out.2
      clear hI
      by_cases hlt : q < n
      · obtain ⟨b, o, rfl, hlb, hcc⟩ := (HRW.out wr HBQ.out).rd.some (by omega)
        have hck := hcc q (by omega)
        have hxb : l.getD q 0 < B32 := by rw [List.getD_eq_getElem?_getD, List.getElem?_eq_getElem (by omega)]; exact HR.out.dg _ (List.getElem_mem _)
        have C1 := hid (CW.out (l.getD q 0) hxb wr)
        have HT := hid (bigL_take false (l := l) (q := q) (by omega))
        obtain ⟨x, hx⟩ : ∃ x, x = l.getD q 0 := ⟨_, rfl⟩
        rw [← hx] at hck C1 HT hxb
        have hxb' : x < 4294967296 := hxb
        obtain ⟨zx, hzx⟩ : ∃ z, z = wordR 1 ((x : Nat) : Int) 0 := ⟨_, rfl⟩
        have hzu : Hid (U64 zx) := by unfold Hid; rw [hzx]; exact wordR_rng _ _ _
        rw [← hzx] at C1 HT
        clear hcc hx hzx hxb
        go_wp2_with (first
          | (go_at_call 29; (with_reducible refine C1.out.mono ?_); rintro e W1 ⟨rfl, b1⟩; have HB1 := hid (b1.mono HBQ.out.size); have HBW1 := hid (HBQ.out.trans HB1.out); have HO1 := hid (uown_on (uown_on HOQ.out b1) (Ba W1 (.cells #[.int .u64 zx] 35))); have HU1 := hid (urow_one (blk_new W1 #[.int .u64 zx] 35) hzu.out); have HBA := hid (HBW1.out.trans ((Ba W1 (.cells #[.int .u64 zx] 35)).mono HBW1.out.size)); have HSA := hid HBA.out.size; clear b1)
          | (at_builtin; refine appU rfl _ _ 33 rfl W0.heap.size 35 Tryz.underlying33 info_word _ (q + 1) (bigL false (l.take q)) rfl HO1.out (some ⟨W1.heap.size, 0, none⟩) 1 1 [zx] rfl HU1.out (by omega) HSA.out ?_; intro v2 w2 ho2 hg2))
        have HE : Hid (Below W0.heap.size W0 w2) := HBA.out.grown hg2 HSA.out (fun b hb => (HO1.out.lt b hb).1)
        refine ⟨⟨q + 1, by omega, by go_num, ?_, HE.out⟩, by simp [intOf] <;> omega⟩
        rw [HT.out]; exact ho2
      · obtain rfl : q = n := by omega
        go_wp2_with fail
        go_ret
        obtain ⟨f1, f2⟩ := fin.out _ _ _ HOQ.out HBQ.out rfl
        exact ⟨_, rfl, f1, f2⟩
  · have eW : Hid (w.alloc (.cells #[.bool true, .slice ao n cap] 40) = W0) := HW0.out.symm
    go_enter Tryz.func33, Tryz.ntmps33
    go_wp2_with fail
    rw [eW.out]
    refine (CW0.out W0).mono ?_
    rintro e W1 ⟨rfl, b1⟩
    have HB1 := hid b1
    have HBA := hid (Bt b1 (Ba W1 (.cells #[.int .u64 z0] 35)))
    obtain ⟨e0, e1, _⟩ := HC.out (W1.alloc (.cells #[.int .u64 z0] 35)) HBA.out
    have C2 := hid (CW1.out (W1.alloc (.cells #[.int .u64 z0] 35)))
    have hx1 := blk_new W1 #[.int .u64 z0] 35
    have HX1 := hid hx1
    have hs1 : Hid (W1.heap.size < (W1.alloc (.cells #[.int .u64 z0] 35)).heap.size) := by unfold Hid; rw [size_alloc]; omega
    clear b1 hx1
    go_wp2_with (go_at_call 29; (refine C2.out.mono ?_); rintro e W2 ⟨rfl, b2⟩; have hx2 := (b2.block W1.heap.size hs1.out).trans HX1.out; have HX2 := hid hx2; have q0 : W2.cell? ⟨W1.heap.size, 0, none⟩ = some (.int .u64 z0) := blk_cell hx2 0; have f0 := blk_free hx2 0; have HB2 := hid (HBA.out.trans (b2.mono HBA.out.size)); clear b2 hx2)
    have HBSTART : Hid (Below W0.heap.size W0 (W2.setCell ⟨W1.heap.size, 0, none⟩ (.int .u64 z1))) := HB2.out.setCell (p := ⟨W1.heap.size, 0, none⟩) HB1.out.size _
    have HSTART : Hid ((W2.setCell ⟨W1.heap.size, 0, none⟩ (.int .u64 z1)).ownsRow W0.heap.size 35 1 (.slice (some ⟨W1.heap.size, 0, none⟩) 1 1) (0 + 1) (uz (bigL true (l.take 0)))) := by
      unfold Hid
      rw [List.take_zero, HBG.out]
      refine ⟨rfl, .inr ⟨W1.heap.size, 1, #[.int .u64 z1], rfl, HB1.out.size, ?_, Nat.le_refl _, by unfold maxLen; omega, rfl, rfl⟩⟩
      rw [blk_set (i := 0) HX2.out]; rfl
    clear q0 f0 e0 e1
    go_loopw [3, 4] (fun v i wr => ∃ q : Nat, q ≤ n ∧ i = .int .i64 q ∧ Hid (wr.ownsRow W0.heap.size 35 1 v (q + 1) (uz (bigL true (l.take q))) ∧ Below W0.heap.size W0 wr)) (fun _ i _ => n - (intOf i).toNat)
    case atStart => exact ⟨0, Nat.zero_le _, rfl, HSTART.out, HBSTART.out⟩
    case round =>
      obtain ⟨q, hq, rfl, hI⟩ := hrel
      obtain ⟨_, d1, _⟩ := HC.out wr hI.out.2
      have HOQ := hid hI.out.1
      have HBQ := hid hI.out.2
      clear hI
      by_cases hlt : q < n
      · obtain ⟨b, o, rfl, hlb, hcc⟩ := (HRW.out wr HBQ.out).rd.some (by omega)
        have hck := hcc q (by omega)
        have hxb : l.getD q 0 < B32 := by rw [List.getD_eq_getElem?_getD, List.getElem?_eq_getElem (by omega)]; exact HR.out.dg _ (List.getElem_mem _)
        have C1 := hid (CW.out (l.getD q 0) hxb wr)
        have HT := hid (bigL_take true (l := l) (q := q) (by omega))
        obtain ⟨x, hx⟩ : ∃ x, x = l.getD q 0 := ⟨_, rfl⟩
        rw [← hx] at hck C1 HT hxb
        have hxb' : x < 4294967296 := hxb
        obtain ⟨zx, hzx⟩ : ∃ z, z = wordR 1 ((x : Nat) : Int) 0 := ⟨_, rfl⟩
        have hzu : Hid (U64 zx) := by unfold Hid; rw [hzx]; exact wordR_rng _ _ _
        rw [← hzx] at C1 HT
        clear hcc hx hzx hxb
        go_wp2_with (first
          | (go_at_call 29; (with_reducible refine C1.out.mono ?_); rintro e W1 ⟨rfl, b1⟩; have HB1 := hid (b1.mono HBQ.out.size); have HBW1 := hid (HBQ.out.trans HB1.out); have HO1 := hid (uown_on (uown_on HOQ.out b1) (Ba W1 (.cells #[.int .u64 zx] 35))); have HU1 := hid (urow_one (blk_new W1 #[.int .u64 zx] 35) hzu.out); have HBA := hid (HBW1.out.trans ((Ba W1 (.cells #[.int .u64 zx] 35)).mono HBW1.out.size)); have HSA := hid HBA.out.size; clear b1)
          | (at_builtin; refine appU rfl _ _ 33 rfl W0.heap.size 35 Tryz.underlying33 info_word _ (q + 1) (bigL true (l.take q)) rfl HO1.out (some ⟨W1.heap.size, 0, none⟩) 1 1 [zx] rfl HU1.out (by omega) HSA.out ?_; intro v2 w2 ho2 hg2))
        have HE : Hid (Below W0.heap.size W0 w2) := HBA.out.grown hg2 HSA.out (fun b hb => (HO1.out.lt b hb).1)
        refine ⟨⟨q + 1, by omega, by go_num, ?_, HE.out⟩, by simp [intOf] <;> omega⟩
        rw [HT.out]; exact ho2
      · obtain rfl : q = n := by omega
        go_wp2_with fail
        go_ret
        obtain ⟨f1, f2⟩ := fin.out _ _ _ HOQ.out HBQ.out rfl
        exact ⟨_, rfl, f1, f2⟩
end Go.Proofs.YtdekkieajffblaaGreat
