/-
  Deeds that are handed in; few.
-/
import Derived.Test.YtdekkieajffblaaW40
import Derived.Test.YtdekkieajffblaaSG0
import Derived.Test.YtdekkieajffblaaG0
set_option linter.unusedVariables false
set_option linter.unusedSimpArgs false
set_option maxRecDepth 100000
namespace Go.Proofs.Ytdekkieajffblaa
open Go.RowKit

/-- The limbs of a number. -/
def mgF : Nat → Nat → List Nat
  | 0, _ => []
  | f + 1, v => if v = 0 then [] else (v % B32) :: mgF f (v / B32)
def mg (v : Nat) : List Nat := mgF v v
theorem mgF_ok : ∀ f v, v ≤ f → Dg B32 (mgF f v) ∧ Tr (mgF f v) ∧ val B32 (mgF f v) = v ∧ (v ≠ 0 → mgF f v ≠ [])
  | 0, v, h => by
    obtain rfl : v = 0 := by omega
    exact ⟨Dg.nil _, Tr.nil, rfl, fun h => absurd rfl h⟩
  | f + 1, v, h => by
    have hB : B32 = 4294967296 := rfl
    by_cases hv : v = 0
    · subst hv; simp [mgF, val]; exact ⟨Dg.nil _, Tr.nil⟩
    · obtain ⟨h1, h2, h3, h4⟩ := mgF_ok f (v / B32) (by rw [hB]; omega)
      have e : mgF (f + 1) v = (v % B32) :: mgF f (v / B32) := by simp [mgF, hv]
      rw [e]
      refine ⟨fun x hx => ?_, .inr ?_, ?_, fun _ => by simp⟩
      · rcases List.mem_cons.1 hx with rfl | hx
        · rw [hB]; omega
        · exact h1 x hx
      · by_cases h0 : v / B32 = 0
        · have : mgF f (v / B32) = [] := by rw [h0]; cases f <;> simp [mgF]
          rw [this]; simp; rw [hB] at h0 ⊢; omega
        · have hne := h4 h0
          have := h2.resolve_left hne
          obtain ⟨n, hn⟩ : ∃ n, (mgF f (v / B32)).length = n + 1 := ⟨(mgF f (v / B32)).length - 1, by have := List.length_pos_iff.2 hne; omega⟩
          rw [List.length_cons, hn]
          rw [hn] at this
          simpa using this
      · rw [val_cons, h3, hB]; omega
theorem mg_is {l : List Nat} {v : Nat} (hd : Dg B32 l) (ht : Tr l) (hv : val B32 l = v) : l = mg v := by
  obtain ⟨h1, h2, h3, _⟩ := mgF_ok v v (Nat.le_refl _)
  exact digits_unique (by decide) hd h1 ht h2 (hv.trans h3.symm)
def FixPost (z : Int) (w : World) (e : Ending) (w' : World) : Prop := ∃ v, e = .returned (.tuple #[.int .i64 v, .bool (fixB z)]) ∧ (fixB z = true → v = z) ∧ Below w.heap.size w w'
theorem fixed_any (neg : Bool) (ao : Option Addr) (n cap : Nat) (l : List Nat) (w : World) (R : Row .u32 B32 w ao n cap l) (g : goodB neg l = true) :
    Calls Try.prog 34 #[.agg #[.bool neg, .slice ao n cap]] w fun e w' => FixPost (sgn neg (val B32 l)) w e w' := by
  have b0 := Ba w (.cells #[.bool neg, .slice ao n cap] 24)
  have C := hid (rto_any neg ao n cap l (w.alloc (.cells #[.bool neg, .slice ao n cap] 24)) (R.below b0) g)
  unfold ToPost at C
  have hx := blk_new w #[.bool neg, .slice ao n cap] 24
  have c0 : (w.alloc (.cells #[.bool neg, .slice ao n cap] 24)).cell? ⟨w.heap.size, 0, none⟩ = some (.bool neg) := blk_cell hx 0
  have c1 : (w.alloc (.cells #[.bool neg, .slice ao n cap] 24)).cell? ⟨w.heap.size, 1, none⟩ = some (.slice ao n cap) := blk_cell hx 1
  have HB := hid b0
  obtain ⟨z, hz⟩ : ∃ z, z = sgn neg (val B32 l) := ⟨_, rfl⟩
  rw [← hz] at C ⊢
  clear R g hx b0 hz
  by_cases hf : fits z = true
  · rw [hf] at C
    obtain ⟨h1, h2⟩ := of_decide_eq_true hf
    clear hf
    by_cases k1 : -1152921504606846976 ≤ z
    · by_cases k2 : z < 1152921504606846976
      · have HFX : Hid (fixB z = true) := by unfold Hid fixB; rw [decide_eq_true k1, decide_eq_true k2]; rfl
        go_enter Try.func34, Try.ntmps34
        go_wp2_with (go_at_call 58; (with_reducible refine C.out.mono ?_); rintro e W1 ⟨v, rfl, hv, b1⟩; rw [hv rfl]; have HB1 := hid (Bt HB.out b1); clear b1 hv)
        go_ret2
        unfold FixPost; rw [HFX.out]; exact ⟨_, rfl, fun _ => rfl, HB1.out⟩
      · have HFX : Hid (fixB z = false) := by unfold Hid fixB; rw [decide_eq_false k2]; simp
        have k2d : decide (z < 1152921504606846976) = false := decide_eq_false k2
        go_enter Try.func34, Try.ntmps34
        go_wp2_with (go_at_call 58; (with_reducible refine C.out.mono ?_); rintro e W1 ⟨v, rfl, hv, b1⟩; rw [hv rfl]; have HB1 := hid (Bt HB.out b1); clear b1 hv)
        go_ret2
        unfold FixPost; rw [HFX.out]; exact ⟨_, rfl, fun h => (by cases h), HB1.out⟩
    · have HFX : Hid (fixB z = false) := by unfold Hid fixB; rw [decide_eq_false k1]; simp
      have k1d : decide (-1152921504606846976 ≤ z) = false := decide_eq_false k1
      go_enter Try.func34, Try.ntmps34
      go_wp2_with (go_at_call 58; (with_reducible refine C.out.mono ?_); rintro e W1 ⟨v, rfl, hv, b1⟩; rw [hv rfl]; have HB1 := hid (Bt HB.out b1); clear b1 hv)
      go_ret2
      unfold FixPost; rw [HFX.out]; exact ⟨_, rfl, fun h => (by cases h), HB1.out⟩
  · have hf' : fits z = false := by simpa using hf
    rw [hf'] at C
    have HFX : Hid (fixB z = false) := by
      unfold Hid fixB
      have := of_decide_eq_false hf'
      by_cases k1 : -1152921504606846976 ≤ z
      · rw [decide_eq_true k1, decide_eq_false (by omega)]; rfl
      · rw [decide_eq_false k1]; rfl
    clear hf hf'
    go_enter Try.func34, Try.ntmps34
    go_wp2_with (go_at_call 58; (with_reducible refine C.out.mono ?_); rintro e W1 ⟨v, rfl, hv, b1⟩; have HB1 := hid (Bt HB.out b1); clear b1 hv)
    go_ret2
    unfold FixPost; rw [HFX.out]; exact ⟨_, rfl, fun h => (by cases h), HB1.out⟩
/-- The integer that a text is. -/
def txZ (t : ByteArray) : Int := sgn ((cutS (bs t)).1 && decide (hv 10 (cutS (bs t)).2 ≠ 0)) (hv 10 (cutS (bs t)).2)
end Go.Proofs.Ytdekkieajffblaa

set_option linter.unusedVariables false
set_option linter.unusedSimpArgs false
set_option maxRecDepth 100000
namespace Go.Proofs.Ytdekkieajffblaa
open Go.RowKit

/-- A node's value. -/
def NdVal (d : Nd) (ka : Option Addr) (kc : Nat) : Value := .agg #[.int .i64 d.kind, .int .i64 d.num, .string d.text, .slice ka d.kids.length kc]
/-- How many words a node's object has. -/
def sizeN (d : Nd) : Int :=
  if d.kind = 1 ∨ d.kind = 2 ∨ d.kind = 4 ∨ d.kind = 6 ∨ d.kind = 10 ∨ d.kind = 11 then (0 : Int)
  else if d.kind = 3 then (if fixB (txZ d.text) = true then 0 else 2 + (((mg (txZ d.text).natAbs).length : Nat) : Int))
  else if d.kind = 5 then 1 + (((ltrs d.text).length : Nat) : Int)
  else if d.kind = 7 ∨ d.kind = 8 then 1 + ((d.kids.length : Nat) : Int)
  else if d.kind = 9 then 1 + ((d.text.size : Nat) : Int) else (-1 : Int)
theorem slice_form {w : World} {base : Nat} {e : TypeId} {k : Nat} {v : Value} {n : Nat} {xs : List Value} (h : w.ownsRow base e k v n xs) : ∃ a c, v = .slice a n c ∧ n ≤ c ∧ c ≤ 9223372036854775807 := by
  rcases h.2 with ⟨e1, e2⟩ | ⟨g, cap, cur, e1, _, _, h4, h5, _⟩
  · subst e2; exact ⟨none, 0, e1, Nat.le_refl _, by omega⟩
  · unfold maxLen at h5; exact ⟨_, _, e1, h4, h5⟩
end Go.Proofs.Ytdekkieajffblaa

set_option linter.unusedVariables false
set_option linter.unusedSimpArgs false
set_option maxRecDepth 100000
namespace Go.Proofs.Ytdekkieajffblaa
open Go.RowKit

/-- 'append(words, more...)' in plain code. -/
theorem appU {P : Program} {w : World} {ops : Array Oper} {rest : List Oper} {o : Oper} {a : Act} {Q : Exit → Act → World → Prop} (hgd : o.guard = none) (s x : Operand) (t : TypeId) (ho : o.op = .call { callee := .builtin .append, args := #[s, x], argTypes := #[t, t] })
    (base : Nat) (e : TypeId) (ht : P.underlying t = some (.slice e)) (hi : (P.info? e).map (fun i => (i.zero, i.size, i.bytes)) = some (some (.int .u64 0), 1, 8))
    (v : Value) (n : Nat) (l : List Int) (hs : a.eval s = v) (hown : w.ownsRow base e 1 v n (uz l))
    (ao : Option Addr) (m c : Nat) (r : List Int) (hx : a.eval x = .slice ao m c) (hr : URow w ao m c r) (hsm : n + m ≤ 1099511627776) (hbase : base ≤ w.heap.size)
    (h : ∀ v' w', w'.ownsRow base e 1 v' (n + m) (uz (l ++ r)) → w.grownBy w' v.ownBlock → wpList P ops Q rest (a.put o.dst v') w') : wpList P ops Q (o :: rest) a w :=
  wpList_plain hgd fun K hK => by
    have := stepU (P := P) (w := w) (ops := ops) (o := o) (a := a) (K := K) (Q := Q) (E := False) o.dst rfl hgd s x t ho base e ht hi v n l hs hown ao m c r hx hr hsm hbase (fun v' w' h1 h2 => hK _ _ (h v' w' h1 h2))
    have hw : Region.wanted o (yielded ops a.tmps) = true := by simp [Region.wanted, hgd]
    rw [if_pos hw] at this
    exact this
theorem urow_one {w : World} {g : Nat} {z : Int} {t : TypeId} (h : w.heap[g]? = some (.cells #[.int .u64 z] t (0, 0))) (hz : U64 z) : URow w (some ⟨g, 0, none⟩) 1 1 [z] :=
  ⟨rfl, Nat.le_refl _, by unfold maxLen; omega, fun e => (by cases e), fun y hy => by simp at hy; rw [hy]; exact hz, .inr ⟨g, 0, rfl, (Array.getElem?_eq_some_iff.1 h).1, fun i hi => by
    have : i = 0 := by simpa using hi
    subst this
    exact blk_cell h 0⟩⟩
theorem urow_own {w : World} {B : Nat} {e : TypeId} {v : Value} {l : List Int} (h : w.ownsRow B e 1 v l.length (uz l)) (hb : ∀ z ∈ l, U64 z) : ∃ ao cap, v = .slice ao l.length cap ∧ URow w ao l.length cap l := by
  rcases h.2 with ⟨rfl, h0⟩ | ⟨g, cap, cur, rfl, h2, h3, h4, h5, h6, h7⟩
  · have : l = [] := List.length_eq_zero_iff.1 h0
    subst this
    exact ⟨none, 0, rfl, rfl, Nat.le_refl _, by unfold maxLen; omega, fun _ => rfl, hb, .inl rfl⟩
  · refine ⟨some ⟨g, 0, none⟩, cap, rfl, rfl, h4, h5, fun e => (by cases e), hb, .inr ⟨g, 0, rfl, (Array.getElem?_eq_some_iff.1 h3).1, fun i hi => ?_⟩⟩
    rw [Nat.zero_add, blk_cell h3]
    have : cur[i]? = (uz l)[i]? := by rw [← h7, List.getElem?_take, if_pos (by omega)]; simp
    rw [this, uz_get hi]

/-- What Fill answers; the objects behind it. -/
def fillM (os : List Ob) (N kind n z : Int) : Int × Int :=
  if kind < 1 ∨ 22 < kind then (0, 70) else if n < 0 ∨ 4194304 < n ∨ isHd z = true then (0, 1) else allocM os N kind (List.replicate n.toNat z)
def fillO (os : List Ob) (N kind n z : Int) : List Ob := if (fillM os N kind n z).2 = 0 then os ++ [⟨kind, List.replicate n.toNat z⟩] else os
end Go.Proofs.Ytdekkieajffblaa

set_option linter.unusedVariables false
set_option linter.unusedSimpArgs false
set_option maxRecDepth 100000
namespace Go.Proofs.Ytdekkieajffblaa
open Go.RowKit

/-- An integer's fields. -/
def bigL (neg : Bool) (l : List Nat) : List Int := wordR 1 (if neg then 1 else 0) 0 :: l.map (fun x => wordR 1 (x : Nat) 0)
theorem bigL_take (neg : Bool) {l : List Nat} {q : Nat} (h : q < l.length) : bigL neg (l.take (q + 1)) = bigL neg (l.take q) ++ [wordR 1 (l.getD q 0 : Nat) 0] := by
  unfold bigL
  rw [List.take_succ_eq_append_getElem h, List.map_append, List.cons_append, List.getD_eq_getElem?_getD, List.getElem?_eq_getElem h]; rfl
theorem bigL_len (neg : Bool) (l : List Nat) : (bigL neg l).length = l.length + 1 := by simp [bigL]
theorem bigL_u (neg : Bool) (l : List Nat) : ∀ z ∈ bigL neg l, U64 z := by
  intro z hz
  unfold bigL at hz
  rcases List.mem_cons.1 hz with rfl | hz
  · exact wordR_rng _ _ _
  · obtain ⟨x, _, rfl⟩ := List.mem_map.1 hz; exact wordR_rng _ _ _
theorem own_one {w W : World} {z : Int} (hb : Below w.heap.size w W) : (W.alloc (.cells #[.int .u64 z] 39)).ownsRow w.heap.size 39 1 (.slice (some ⟨W.heap.size, 0, none⟩) 1 1) 1 (uz [z]) :=
  ⟨rfl, .inr ⟨W.heap.size, 1, #[.int .u64 z], rfl, hb.size, blk_new _ _ _, Nat.le_refl _, by unfold maxLen; omega, rfl, rfl⟩⟩
end Go.Proofs.Ytdekkieajffblaa

set_option linter.unusedVariables false
set_option linter.unusedSimpArgs false
set_option maxRecDepth 100000
namespace Go.Proofs.Ytdekkieajffblaa
open Go.RowKit

/-- All used words. -/
def wordsL : List Ob → List Int
  | [] => []
  | x :: l => wordR 8 (x.f.length : Nat) x.kind :: (x.f ++ wordsL l)
theorem wordsL_append (a b : List Ob) : wordsL (a ++ b) = wordsL a ++ wordsL b := by
  induction a with
  | nil => rfl
  | cons x l ih => simp only [List.cons_append, wordsL, ih, List.append_assoc]
theorem wordsL_length (a : List Ob) : (wordsL a).length = usedL a := by
  induction a with
  | nil => rfl
  | cons x l ih => simp only [wordsL, usedL, List.length_cons, List.length_append, ih]; omega
theorem wordsL_u64 {a : List Ob} (h : ∀ x ∈ a, ∀ z ∈ x.f, U64 z) : ∀ z ∈ wordsL a, U64 z := by
  induction a with
  | nil => intro z hz; cases hz
  | cons x l ih =>
    intro z hz
    simp only [wordsL, List.mem_cons, List.mem_append] at hz
    rcases hz with rfl | hz | hz
    · exact wordR_rng _ _ _
    · exact h x List.mem_cons_self z hz
    · exact ih (fun y hy => h y (List.mem_cons_of_mem _ hy)) z hz
theorem h3_on {w1 wx wy : World} {p q r s : Nat} {a0 a1 a2 : Value} (h : wx.cell? ⟨p, 1, none⟩ = some a0 ∧ wx.cell? ⟨q, r, none⟩ = some a1 ∧ wx.cell? ⟨q, s, none⟩ = some a2 ∧ Below w1.heap.size w1 wx) (hb : Below wx.heap.size wx wy) : wy.cell? ⟨p, 1, none⟩ = some a0 ∧ wy.cell? ⟨q, r, none⟩ = some a1 ∧ wy.cell? ⟨q, s, none⟩ = some a2 ∧ Below w1.heap.size w1 wy :=
  ⟨(hb.cell (p := ⟨p, 1, none⟩) (cell_lt h.1)).trans h.1, (hb.cell (p := ⟨q, r, none⟩) (cell_lt h.2.1)).trans h.2.1, (hb.cell (p := ⟨q, s, none⟩) (cell_lt h.2.2.1)).trans h.2.2.1, Bt h.2.2.2 hb⟩
theorem h3_bel {w1 wx : World} {p q r s : Nat} {a0 a1 a2 : Value} (h : wx.cell? ⟨p, 1, none⟩ = some a0 ∧ wx.cell? ⟨q, r, none⟩ = some a1 ∧ wx.cell? ⟨q, s, none⟩ = some a2 ∧ Below w1.heap.size w1 wx) : Below w1.heap.size w1 wx := h.2.2.2
end Go.Proofs.Ytdekkieajffblaa

set_option linter.unusedVariables false
set_option linter.unusedSimpArgs false
set_option maxRecDepth 100000
namespace Go.Proofs.Ytdekkieajffblaa
open Go.RowKit

/-- A deed. -/
structure Dd where
  kind : Int
  type : Int
  n : Int
  at_ : Int
  l : List Int
  w : Int
  w2 : Int
  raw : Bool
deriving Inhabited
structure DOk (d : Dd) : Prop where
  kind : Z64 d.kind
  type : Z64 d.type
  n : Z64 d.n
  at_ : Z64 d.at_
  w : U64 d.w
  w2 : U64 d.w2
def DCells (d : Dd) (s : Sl) : Array Value := #[.int .i64 d.kind, .int .i64 d.type, .int .i64 d.n, .int .i64 d.at_, .slice s.1 s.2.1 s.2.2, .int .u64 d.w, .int .u64 d.w2, .bool d.raw]
/-- The object that is meant, counted round. -/
def roundI (at_ : Int) (n : Nat) : Nat := (Int.tmod (Int.tmod at_ n + n) n).toNat
theorem round_at {n : Nat} (hn : 0 < n) (b : Int) : roundI b n < n ∧ Int.tmod (Int.tmod b n + n) n = (roundI b n : Int) := by
  have h1 : (Int.tmod b n).natAbs < n := by
    rw [Int.natAbs_tmod]; exact Nat.mod_lt _ (by omega)
  have h2 : 0 ≤ Int.tmod b n + n := by omega
  have h3 : Int.tmod (Int.tmod b n + n) n = (Int.tmod b n + n) % n := Int.tmod_eq_emod_of_nonneg h2
  have h4 := Int.emod_nonneg (Int.tmod b n + n) (by omega : (n : Int) ≠ 0)
  have h5 := Int.emod_lt_of_pos (Int.tmod b n + n) (by omega : (0 : Int) < n)
  unfold roundI
  constructor <;> omega
def targetM (os : List Ob) (d : Dd) : Int := if d.raw = true ∨ os.length = 0 then d.w2 else wordR 2 (atO os (roundI d.at_ os.length) : Nat) 0
theorem target_u64 {os : List Ob} {d : Dd} (hd : DOk d) : U64 (targetM os d) := by
  unfold targetM
  split
  · exact hd.w2
  · exact wordR_rng _ _ _
theorem h3b_on {w1 wx wy : World} {p q r s : Nat} {a0 a1 a2 : Value} (h : wx.cell? ⟨p, 1, none⟩ = some a0 ∧ wx.cell? ⟨q, 3, none⟩ = some a1 ∧ wx.cell? ⟨r, s, none⟩ = some a2 ∧ Below w1.heap.size w1 wx) (hb : Below wx.heap.size wx wy) : wy.cell? ⟨p, 1, none⟩ = some a0 ∧ wy.cell? ⟨q, 3, none⟩ = some a1 ∧ wy.cell? ⟨r, s, none⟩ = some a2 ∧ Below w1.heap.size w1 wy :=
  ⟨(hb.cell (p := ⟨p, 1, none⟩) (cell_lt h.1)).trans h.1, (hb.cell (p := ⟨q, 3, none⟩) (cell_lt h.2.1)).trans h.2.1, (hb.cell (p := ⟨r, s, none⟩) (cell_lt h.2.2.1)).trans h.2.2.1, Bt h.2.2.2 hb⟩
theorem h3b_bel {w1 wx : World} {p q r s : Nat} {a0 a1 a2 : Value} (h : wx.cell? ⟨p, 1, none⟩ = some a0 ∧ wx.cell? ⟨q, 3, none⟩ = some a1 ∧ wx.cell? ⟨r, s, none⟩ = some a2 ∧ Below w1.heap.size w1 wx) : Below w1.heap.size w1 wx := h.2.2.2
end Go.Proofs.Ytdekkieajffblaa

set_option linter.unusedVariables false
set_option linter.unusedSimpArgs false
set_option maxRecDepth 100000
namespace Go.Proofs.Ytdekkieajffblaa
open Go.RowKit

/-- A deed at a place of memory. -/
def DIs (w : World) (b o : Nat) (d : Dd) : Prop :=
  w.cell? ⟨b, o, none⟩ = some (.int .i64 d.kind) ∧ w.cell? ⟨b, o + 1, none⟩ = some (.int .i64 d.type) ∧ w.cell? ⟨b, o + 2, none⟩ = some (.int .i64 d.n) ∧ w.cell? ⟨b, o + 3, none⟩ = some (.int .i64 d.at_) ∧
  (∃ la ln lc, w.cell? ⟨b, o + 4, none⟩ = some (.slice la ln lc) ∧ URow w la ln lc d.l) ∧
  w.cell? ⟨b, o + 5, none⟩ = some (.int .u64 d.w) ∧ w.cell? ⟨b, o + 6, none⟩ = some (.int .u64 d.w2) ∧ w.cell? ⟨b, o + 7, none⟩ = some (.bool d.raw)
structure DRow (w : World) (ao : Option Addr) (n cap : Nat) (ds : List Dd) : Prop where
  len : ds.length = n
  fits : n ≤ cap
  most : cap ≤ maxLen
  ok : ∀ d ∈ ds, DOk d
  rd : ds = [] ∨ ∃ b o, ao = some ⟨b, o, none⟩ ∧ b < w.heap.size ∧ ∀ i, i < ds.length → DIs w b (o + i * 8) (ds.getD i default)
theorem DIs.on {w w' : World} {b o : Nat} {d : Dd} (h : DIs w b o d) (hb : b < w.heap.size) (hw : Below w.heap.size w w') : DIs w' b o d := by
  obtain ⟨h0, h1, h2, h3, ⟨la, ln, lc, h4, hU⟩, h5, h6, h7⟩ := h
  have k : ∀ i, w'.cell? ⟨b, i, none⟩ = w.cell? ⟨b, i, none⟩ := fun i => hw.cell (p := ⟨b, i, none⟩) hb
  exact ⟨(k _).trans h0, (k _).trans h1, (k _).trans h2, (k _).trans h3, ⟨la, ln, lc, (k _).trans h4, hU.on hw⟩, (k _).trans h5, (k _).trans h6, (k _).trans h7⟩
theorem DRow.on {w w' : World} {ao : Option Addr} {n cap : Nat} {ds : List Dd} (h : DRow w ao n cap ds) (hw : Below w.heap.size w w') : DRow w' ao n cap ds := by
  refine ⟨h.len, h.fits, h.most, h.ok, ?_⟩
  rcases h.rd with e | ⟨b, o, e, h1, h2⟩
  · exact .inl e
  · exact .inr ⟨b, o, e, Nat.lt_of_lt_of_le h1 hw.size, fun i hi => (h2 i hi).on h1 hw⟩
theorem DRow.some {w : World} {ao : Option Addr} {n cap : Nat} {ds : List Dd} (h : DRow w ao n cap ds) (hn : 0 < n) : ∃ b o, ao = Option.some ⟨b, o, none⟩ ∧ b < w.heap.size ∧ ∀ i, i < n → DIs w b (o + i * 8) (ds.getD i default) := by
  rcases h.rd with e | h2
  · have := h.len; simp [e] at this; omega
  · rw [h.len] at h2; exact h2
theorem getD_in_dd {l : List Dd} {i : Nat} (h : i < l.length) : l.getD i default ∈ l := by
  rw [List.getD_eq_getElem?_getD, List.getElem?_eq_getElem h]; exact List.getElem_mem h
/-- Is a deed small? -/
def smallD (d : Dd) : Bool := decide (d.l.length ≤ 100) && !(decide (d.kind = 1) && (decide (1000 < d.n) && decide (d.n ≤ 4194304)))
def fewD (ds : List Dd) : Bool := decide (ds.length ≤ 100) && ds.all smallD
theorem all_take {ds : List Dd} {q : Nat} (h : (ds.take q).all smallD = true) (hq : q < ds.length) (hz : smallD (ds.getD q default) = true) : (ds.take (q + 1)).all smallD = true := by
  rw [List.take_succ_eq_append_getElem hq, List.all_append, h]
  rw [List.getD_eq_getElem?_getD, List.getElem?_eq_getElem hq] at hz
  simp only [Option.getD_some] at hz
  simp [hz]
theorem all_not {ds : List Dd} {q : Nat} (hq : q < ds.length) (hz : smallD (ds.getD q default) = false) : ds.all smallD = false := by
  rw [List.getD_eq_getElem?_getD, List.getElem?_eq_getElem hq] at hz
  rw [← Bool.not_eq_true]
  intro h
  have := List.all_eq_true.1 h ds[q] (List.getElem_mem hq)
  simp only [Option.getD_some] at hz
  rw [hz] at this; cases this
end Go.Proofs.Ytdekkieajffblaa
