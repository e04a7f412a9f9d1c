/-
  Integers as integers: the contracts said of numbers.
-/
import Derived.Test.YtdekkieajffblaaGreatW9
import Derived.Lib.Strings
import Derived.Deep.LoopGhost
set_option linter.unusedVariables false
set_option linter.unusedSimpArgs false
namespace Go.Proofs.YtdekkieajffblaaGreat
open Go.RowKit

/-- What a byte says as a digit; 36: nothing. -/
def dgt (c : Nat) : Nat := if 48 ≤ c ∧ c ≤ 57 then c - 48 else if 97 ≤ c ∧ c ≤ 122 then c - 87 else if 65 ≤ c ∧ c ≤ 90 then c - 55 else 36
theorem dgt_le (c : Nat) : dgt c ≤ 36 := by unfold dgt; split <;> (try split) <;> (try split) <;> omega

/-- One step of a product with a small number. -/
theorem mulStep {B f vq P vt d x cc : Nat} (h : vq + P * cc = vt * f + d) : vq + P * ((x * f + cc) % B) + P * B * ((x * f + cc) / B) = (vt + P * x) * f + d := by
  have h1 := Nat.div_add_mod (x * f + cc) B
  have h2 : P * ((x * f + cc) % B) + P * B * ((x * f + cc) / B) = P * (x * f + cc) := by
    rw [Nat.mul_assoc, ← Nat.mul_add, Nat.add_comm ((x * f + cc) % B), h1]
  rw [Nat.add_assoc, h2, Nat.mul_add, Nat.add_mul, Nat.mul_assoc P x f]
  omega
theorem set_append_drop {q l : List Nat} {m x : Nat} (hq : q.length = m) (hm : m < l.length) : (q ++ l.drop m).set m x = q ++ [x] ++ l.drop (m + 1) := by
  rw [drop_cons l m hm, List.set_append, if_neg (by omega), hq, Nat.sub_self]
  simp

end Go.Proofs.YtdekkieajffblaaGreat

set_option linter.unusedVariables false
set_option linter.unusedSimpArgs false
namespace Go.Proofs.YtdekkieajffblaaGreat
open Go.RowKit

/-- A text's bytes as numbers. -/
def bs (s : ByteArray) : List Nat := s.data.toList.map UInt8.toNat
theorem bs_length (s : ByteArray) : (bs s).length = s.size := by unfold bs; rw [List.length_map]; rfl
theorem bs_get (s : ByteArray) (k : Nat) (h : k < s.size) : (bs s).getD k 0 = (s[k]'h).toNat := by
  unfold bs
  rw [List.getD_eq_getElem?_getD, List.getElem?_map, List.getElem?_eq_getElem (show k < s.data.toList.length from h)]
  rfl
theorem bs_lt (s : ByteArray) : Dg 256 (bs s) := by
  intro x hx
  obtain ⟨c, _, rfl⟩ := List.mem_map.1 hx
  exact c.toNat_lt
theorem bs_extract (s : ByteArray) (a : Nat) : bs (s.extract a s.size) = (bs s).drop a := by
  unfold bs
  rw [Lib.extract_data, List.take_of_length_le (by rw [List.length_drop]; exact Nat.le_refl _), List.map_drop]
theorem empty_iff (s : ByteArray) : s.toList.isEmpty = decide (s.size = 0) := by
  rw [Lib.toList_data]
  by_cases h : s.size = 0
  · have : s.data.toList = [] := List.length_eq_zero_iff.1 h
    rw [this]; simp [h]
  · have : s.data.toList ≠ [] := fun e => h (by show s.data.toList.length = 0; rw [e]; rfl)
    simp only [h, decide_false]
    cases hl : s.data.toList with
    | nil => exact absurd hl this
    | cons => rfl

/-- A sign cut off. -/
def cutS : List Nat → Bool × List Nat
  | [] => (false, [])
  | c :: r => if c = 43 ∨ c = 45 then (decide (c = 45), r) else (false, c :: r)
theorem cutS_len (l : List Nat) : (cutS l).2.length ≤ l.length := by
  cases l with
  | nil => simp [cutS]
  | cons c r => by_cases h : c = 43 ∨ c = 45 <;> simp [cutS, h]

end Go.Proofs.YtdekkieajffblaaGreat

set_option linter.unusedVariables false
set_option linter.unusedSimpArgs false
namespace Go.Proofs.YtdekkieajffblaaGreat
open Go.RowKit

/-- The number that digits say, the highest first. -/
def hv (radix : Nat) (l : List Nat) : Nat := l.foldl (fun a c => a * radix + dgt c) 0
theorem hv_snoc (radix : Nat) (l : List Nat) (c : Nat) : hv radix (l ++ [c]) = hv radix l * radix + dgt c := by simp [hv]
theorem hv_take_succ (radix : Nat) (l : List Nat) (k : Nat) (h : k < l.length) : hv radix (l.take (k + 1)) = hv radix (l.take k) * radix + dgt (l.getD k 0) := by
  rw [take_snoc l k h, hv_snoc]
theorem hv_mono (radix : Nat) (hr : 1 ≤ radix) (l : List Nat) : ∀ k j, k + j ≤ l.length → hv radix (l.take k) ≤ hv radix (l.take (k + j))
  | k, 0, _ => Nat.le_refl _
  | k, j + 1, h => by
    have ih := hv_mono radix hr l k j (by omega)
    rw [← Nat.add_assoc, hv_take_succ radix l (k + j) (by omega)]
    have : hv radix (l.take (k + j)) * 1 ≤ hv radix (l.take (k + j)) * radix := Nat.mul_le_mul_left _ hr
    omega
/-- Behind a product without a carry there is no nought at the end. -/
theorem tr_of_ge {B : Nat} {l l' : List Nat} (hB : 1 < B) (hl : l.length = l'.length) (ht : Tr l) (hd : Dg B l') (h : val B l ≤ val B l') : Tr l' := by
  by_cases h0 : l' = []
  · exact .inl h0
  · refine .inr fun hz => ?_
    have hn : 0 < l'.length := List.length_pos_iff.2 h0
    have h1 := ht.pos (B := B) (by omega) (by intro e; rw [e] at hl; simp at hl; omega)
    have e1 : val B l' = val B (l'.take (l'.length - 1)) := by
      have h2 := val_take_zero B l' (l'.length - 1) (by omega) hz
      rw [show l'.length - 1 + 1 = l'.length by omega, List.take_of_length_le (Nat.le_refl _)] at h2
      exact h2
    have h3 := val_lt (hd.take (l'.length - 1))
    rw [List.length_take, Nat.min_eq_left (by omega), ← e1, ← hl] at h3
    omega
theorem tr_snoc {l : List Nat} {c : Nat} (h : c ≠ 0) : Tr (l ++ [c]) := .inr (by rw [getD_append_at (by simp)]; exact h)
theorem big_of {l : List Nat} {c v : Nat} (hl : l.length = 40) (hc : c ≠ 0) (h : val B32 l + B32 ^ 40 * c = v) : Big v := by
  unfold Big
  have : B32 ^ 40 * 1 ≤ B32 ^ 40 * c := Nat.mul_le_mul_left _ (by omega)
  omega

/-- What rowOf answers. -/
def RowPost (w : World) (v : Nat) (e : Ending) (w' : World) : Prop :=
  ((¬ Big v ∧ ∃ ao n cap r, e = .returned (.tuple #[.slice ao n cap, .bool true]) ∧ Row .u32 B32 w' ao n cap r ∧ Tr r ∧ val B32 r = v ∧ n ≤ 40) ∨ (Big v ∧ e = .returned (.tuple #[.slice none 0 0, .bool false]))) ∧ Below w.heap.size w w'

end Go.Proofs.YtdekkieajffblaaGreat

set_option linter.unusedVariables false
set_option linter.unusedSimpArgs false
namespace Go.Proofs.YtdekkieajffblaaGreat
open Go.RowKit

def zeroInt : Value := .agg #[.bool false, .slice none 0 0]
/-- Is a text, its sign cut off, one digit or more of that radix? -/
def digitsB (radix : Int) (l : List Nat) : Bool := l.all (fun c => decide ((dgt c : Int) < radix)) && decide (l ≠ [])
/-- What Parse answers. -/
def ParsePost (w : World) (s : List Nat) (radix : Int) (e : Ending) (w' : World) : Prop :=
  ∃ x en, e = .returned (.tuple #[x, .int .i64 en]) ∧ Below w.heap.size w w' ∧
    ((¬ (2 ≤ radix ∧ radix ≤ 36) ∧ x = .agg #[.bool false, .slice none 0 0] ∧ en = 1) ∨
     ((2 ≤ radix ∧ radix ≤ 36) ∧ digitsB radix (cutS s).2 = false ∧ x = .agg #[.bool false, .slice none 0 0] ∧ en = 12) ∨
     ((2 ≤ radix ∧ radix ≤ 36) ∧ digitsB radix (cutS s).2 = true ∧ Ans w' x en (cutS s).1 (hv radix.toNat (cutS s).2)))

end Go.Proofs.YtdekkieajffblaaGreat

set_option linter.unusedVariables false
set_option linter.unusedSimpArgs false
namespace Go.Proofs.YtdekkieajffblaaGreat
open Go.RowKit

/-- A row whose outer k places on each side are turned round. -/
def Turned (n k : Nat) (l L : List Nat) : Prop := ∀ x, x < n → L.getD x 0 = if x < k ∨ n ≤ x + k then l.getD (n - 1 - x) 0 else l.getD x 0
theorem turned_start (n : Nat) (l : List Nat) : Turned n 0 l l := by
  intro x hx
  rw [if_neg (by omega)]
theorem turned_step {n k j : Nat} {l L : List Nat} (hn : k + j + 1 = n) (hkj : k < j) (hL : L.length = n) (h : Turned n k l L) : Turned n (k + 1) l ((L.set k (l.getD j 0)).set j (l.getD k 0)) := by
  intro x hx
  rw [getD_set (by simp; omega), getD_set (by omega)]
  by_cases h1 : x = j
  · subst h1
    rw [if_pos rfl, if_pos (by omega), show n - 1 - x = k by omega]
  · rw [if_neg h1]
    by_cases h2 : x = k
    · subst h2
      rw [if_pos rfl, if_pos (by omega), show n - 1 - x = j by omega]
    · rw [if_neg h2, h x hx]
      by_cases h3 : x < k ∨ n ≤ x + k
      · rw [if_pos h3, if_pos (by omega)]
      · rw [if_neg h3, if_neg (by omega)]
theorem turned_end {n k j : Nat} {l L : List Nat} (hn : k + j + 1 = n) (hkj : j ≤ k) (hl : l.length = n) (hL : L.length = n) (h : Turned n k l L) : L = l.reverse := by
  apply List.ext_getElem (by simp [hl, hL])
  intro i h1 h2
  have hi : i < n := by omega
  have := h i hi
  rw [List.getD_eq_getElem?_getD, List.getElem?_eq_getElem h1] at this
  rw [List.getElem_reverse]
  simp only [Option.getD_some] at this
  rw [this]
  by_cases h3 : i < k ∨ n ≤ i + k
  · rw [if_pos h3, List.getD_eq_getElem?_getD, List.getElem?_eq_getElem (by omega)]
    simp only [Option.getD_some, hl]
  · rw [if_neg h3, List.getD_eq_getElem?_getD, List.getElem?_eq_getElem (by omega)]
    simp only [Option.getD_some, hl]
    congr 1
    omega

/-- A digit's letter. -/
def chr (d : Nat) : Nat := if d < 10 then 48 + d else 87 + d
theorem chr_lt {d : Nat} (h : d < 36) : chr d < 256 := by unfold chr; split <;> omega
def digitText : ByteArray := ⟨#[48, 49, 50, 51, 52, 53, 54, 55, 56, 57, 97, 98, 99, 100, 101, 102, 103, 104, 105, 106, 107, 108, 109, 110, 111, 112, 113, 114, 115, 116, 117, 118, 119, 120, 121, 122]⟩

theorem dt_get (d : Nat) (h : d < 36) : (digitText[d]'h).toNat = chr d := by
  have : ∀ d : Fin 36, (digitText[d.1]'d.2).toNat = chr d.1 := by decide
  exact this ⟨d, h⟩
theorem pow_bound {l : List Nat} (h : Dg B32 l) (hl : l.length ≤ 40) : ∃ N, N ≤ 1280 ∧ val B32 l < 2 ^ N := by
  refine ⟨32 * l.length, by omega, ?_⟩
  have := val_lt h
  rw [show B32 = 2 ^ 32 from rfl, ← Nat.pow_mul] at this
  exact this

theorem half_lt {v radix gk : Nat} (hr : 2 ≤ radix) (hv : v ≠ 0) (h : v < 2 ^ gk) : 1 ≤ gk ∧ v / radix < 2 ^ (gk - 1) := by
  cases gk with
  | zero => simp at h; omega
  | succ k =>
    refine ⟨by omega, ?_⟩
    rw [Nat.add_sub_cancel, Nat.div_lt_iff_lt_mul (by omega)]
    rw [Nat.pow_succ] at h
    have : 2 ^ k * 2 ≤ 2 ^ k * radix := Nat.mul_le_mul_left _ hr
    omega
theorem print_val {radix vD P v V : Nat} (h : vD + P * v = V) : vD + P * (v % radix) + P * radix * (v / radix) = V := by
  rw [Nat.add_assoc, Nat.mul_assoc, ← Nat.mul_add, Nat.add_comm (v % radix), Nat.div_add_mod]; exact h

/-- What Print answers of a good one that is not nought. -/
def PrintPost (w : World) (neg : Bool) (v : Nat) (radix : Nat) (e : Ending) (w' : World) : Prop :=
  ∃ s D, e = .returned (.tuple #[.string s, .int .i64 0]) ∧ Dg radix D ∧ Tr D ∧ val radix D = v ∧ bs s = (if neg then [45] else []) ++ (D.map chr).reverse ∧ Below w.heap.size w w'

theorem conv_run {w : World} {g n cap : Nat} {cur : Array Value} {l : List Nat} (hW : Win .u8 5 w g 0 n cur l) (hd : Dg 256 l) :
    ∃ S : ByteArray, (convert 87 9 (.slice (some ⟨g, 0, none⟩) n cap)).run Tryz.prog w = .ok (.string S) w ∧ bs S = l := by
  have hl := hW.len
  have hu : (l.map UInt8.ofNat).map UInt8.toNat = l := by
    rw [List.map_map]
    conv => rhs; rw [← List.map_id l]
    apply List.map_congr_left
    intro x hx
    have := hd x hx
    simp only [Function.comp, id]
    rw [UInt8.toNat_ofNat']
    omega
  refine ⟨⟨(l.map UInt8.ofNat).toArray⟩, ?_, ?_⟩
  · have := run_convert_bytes_back (P := Tryz.prog) w 87 9 5 ⟨g, 0, none⟩ cap (l.map UInt8.ofNat) Tryz.underlying87 Tryz.underlying5 Tryz.underlying9 (fun j hj => by
      rw [List.length_map, hl] at hj
      have h1 := hW.cell (i := j) hj
      have h2 : (l.map UInt8.ofNat)[j].toNat = l.getD j 0 := by
        rw [List.getElem_map, List.getD_eq_getElem?_getD, List.getElem?_eq_getElem (by omega), UInt8.toNat_ofNat']
        have := hd l[j] (List.getElem_mem _)
        simp only [Option.getD_some]
        omega
      rw [h2]
      unfold Addr.add
      by_cases h0 : j = 0
      · subst h0; simpa using h1
      · rw [if_neg h0]; exact h1)
    rw [List.length_map, hl] at this
    exact this
  · unfold bs; simpa using hu

end Go.Proofs.YtdekkieajffblaaGreat

set_option linter.unusedVariables false
set_option linter.unusedSimpArgs false
namespace Go.Proofs.YtdekkieajffblaaGreat
open Go.RowKit

/-- A sign and a size as a number. -/
def sgn (neg : Bool) (v : Nat) : Int := if neg then - (v : Int) else v
/-- The value x is the good integer z. -/
def IsInt (w : World) (x : Value) (z : Int) : Prop := ∃ s l, IntIs w x s l ∧ goodB s l = true ∧ z = sgn s (val B32 l)
theorem IsInt.below {w w' : World} {x : Value} {z : Int} (h : IsInt w x z) (hb : Below w.heap.size w w') : IsInt w' x z := by
  obtain ⟨s, l, h1, h2, h3⟩ := h
  exact ⟨s, l, h1.below hb, h2, h3⟩
theorem good_of {neg : Bool} {l : List Nat} (ht : Tr l) (hl : l.length ≤ 40) : goodB (neg && decide (l ≠ [])) l = true := by
  refine goodB_mk ht hl fun h => ?_
  rw [List.length_eq_zero_iff.1 h]; simp
theorem sgn_of {neg : Bool} {l : List Nat} (ht : Tr l) : sgn (neg && decide (l ≠ [])) (val B32 l) = sgn neg (val B32 l) := by
  by_cases h : l = []
  · subst h; cases neg <;> simp [sgn, val]
  · simp [h]
theorem is_mk {w : World} {x : Value} {neg : Bool} {l : List Nat} (hI : IntIs w x (neg && decide (l ≠ [])) l) (ht : Tr l) (hb : ¬ Big (val B32 l)) : IsInt w x (sgn neg (val B32 l)) := by
  obtain ⟨ao, n, cap, rfl, R⟩ := hI
  exact ⟨_, l, ⟨ao, n, cap, rfl, R⟩, good_of ht ((small_len R.dg ht).2 hb), (sgn_of ht).symm⟩
theorem IsInt.open_ {w : World} {x : Value} {z : Int} (h : IsInt w x z) : ∃ s ao n cap l, x = .agg #[.bool s, .slice ao n cap] ∧ Row .u32 B32 w ao n cap l ∧ goodB s l = true ∧ z = sgn s (val B32 l) := by
  obtain ⟨s, l, ⟨ao, n, cap, h1, h2⟩, h3, h4⟩ := h
  exact ⟨s, ao, n, cap, l, h1, h2, h3, h4⟩
theorem good_small {s : Bool} {w : World} {ao : Option Addr} {n cap : Nat} {l : List Nat} (R : Row .u32 B32 w ao n cap l) (g : goodB s l = true) : ¬ Big (val B32 l) := (small_len R.dg (goodB_tr g)).1 (goodB_len g)

theorem sgn_inj {s s' : Bool} {l l' : List Nat} (hg : goodB s l = true) (hg' : goodB s' l' = true) : (sgn s (val B32 l) = sgn s' (val B32 l')) ↔ (s = s' ∧ val B32 l = val B32 l') := by
  have h1 : s = true → val B32 l ≠ 0 := fun hs => (goodB_tr hg).ne_zero (by decide) (fun e => by have := goodB_neg hg (by simp [e]); rw [hs] at this; cases this)
  have h2 : s' = true → val B32 l' ≠ 0 := fun hs => (goodB_tr hg').ne_zero (by decide) (fun e => by have := goodB_neg hg' (by simp [e]); rw [hs] at this; cases this)
  constructor
  · intro h
    cases s <;> cases s' <;> simp [sgn] at * <;> omega
  · rintro ⟨rfl, h⟩
    rw [h]
theorem sameB_of {s s' : Bool} {l l' : List Nat} (hg : goodB s l = true) (hg' : goodB s' l' = true) : sameB s s' l l' = decide (sgn s (val B32 l) = sgn s' (val B32 l')) := by
  unfold sameB
  rw [hg, hg']
  rw [Bool.eq_iff_iff]
  simp only [Bool.and_eq_true, Bool.true_and, beq_iff_eq, decide_eq_true_eq]
  rw [sgn_inj hg hg']

theorem rfrom_is (n : Int) (w : World) (h1 : -9223372036854775808 ≤ n) (h2 : n ≤ 9223372036854775807) :
    Calls Tryz.prog 25 #[.int .i64 n] w fun e w' => ∃ x, e = .returned x ∧ IsInt w' x n ∧ Below w.heap.size w w' := by
  refine (rfrom_any n w h1 h2).mono ?_
  rintro e w' ⟨x, l, rfl, hI, ht, hv, hb⟩
  have h3 := is_mk hI ht (by rw [hv]; exact not_big_64 _ (by omega))
  refine ⟨x, rfl, ?_, hb⟩
  have : sgn (decide (n < 0)) (val B32 l) = n := by
    rw [hv]; unfold sgn
    by_cases h : n < 0 <;> simp [h] <;> omega
  rw [this] at h3
  exact h3

theorem sgn_div (s s' : Bool) (v u : Nat) : sgn (s != s') (v / u) = (sgn s v).tdiv (sgn s' u) := by
  unfold sgn
  cases s <;> cases s' <;> simp [Int.neg_tdiv, Int.tdiv_neg, ← Int.ofNat_tdiv]
theorem sgn_mod (s s' : Bool) (v u : Nat) : sgn s (v % u) = (sgn s v).tmod (sgn s' u) := by
  unfold sgn
  cases s <;> cases s' <;> simp [Int.neg_tmod, Int.tmod_neg, ← Int.ofNat_tmod]

theorem not_big_le {u v : Nat} (h : u ≤ v) (hv : ¬ Big v) : ¬ Big u := by unfold Big at *; omega

/-- Of long division: the divisor has two limbs or more, and is not greater. -/
def LongOk (x y : Value) (w : World) : Prop :=
  ∀ s ao n cap l s' ao' n' cap' l', x = .agg #[.bool s, .slice ao n cap] → y = .agg #[.bool s', .slice ao' n' cap'] → Row .u32 B32 w ao n cap l → Row .u32 B32 w ao' n' cap' l' → goodB s l = true → goodB s' l' = true → 2 ≤ n' → val B32 l' ≤ val B32 l →
    ∀ wx, Row .u32 B32 wx ao n cap l → Row .u32 B32 wx ao' n' cap' l' → Calls Tryz.prog 105 #[.slice ao n cap, .slice ao' n' cap'] wx (DivPost wx l l')

theorem div_is (x y : Value) (a b : Int) (w : World) (hx : IsInt w x a) (hy : IsInt w y b) (hb : b ≠ 0) (HL : LongOk x y w) :
    Calls Tryz.prog 54 #[x, y] w fun e w' => ∃ xq xr, e = .returned (.tuple #[xq, xr, .int .i64 0]) ∧ IsInt w' xq (a.tdiv b) ∧ IsInt w' xr (a.tmod b) ∧ Below w.heap.size w w' := by
  obtain ⟨s, ao, n, cap, l, rfl, R, g, rfl⟩ := hx.open_
  obtain ⟨s', ao', n', cap', l', rfl, R', g', rfl⟩ := hy.open_
  have hn : n' ≠ 0 := by
    intro e
    have : l' = [] := List.length_eq_zero_iff.1 (by rw [R'.len, e])
    subst this
    exact hb (by unfold sgn; simp [val])
  refine (div_any s s' ao ao' n cap n' cap' l l' w R R' g g' hn (fun h2 hle wx r1 r2 => HL s ao n cap l s' ao' n' cap' l' rfl rfl R R' g g' h2 hle wx r1 r2)).mono ?_
  rintro e w' ⟨xq, xr, lq, lr, rfl, hIq, htq, hvq, hIr, htr, hvr, hbl⟩
  have hnb := good_small R g
  refine ⟨xq, xr, rfl, ?_, ?_, hbl⟩
  · have := is_mk hIq htq (by rw [hvq]; exact not_big_le (Nat.div_le_self _ _) hnb)
    rw [hvq, sgn_div] at this
    exact this
  · have := is_mk hIr htr (by rw [hvr]; exact not_big_le (Nat.mod_le _ _) hnb)
    rw [hvr, sgn_mod s s'] at this
    exact this

/-- Long division is not met where the divisor is below B32. -/
theorem long_small {x y : Value} {w : World} {b : Int} (hy : IsInt w y b) (hb : b.natAbs < B32) : LongOk x y w := by
  intro s ao n cap l s' ao' n' cap' l' hx' hy' R R' g g' h2
  obtain ⟨s2, ao2, n2, cap2, l2, e, R2, g2, rfl⟩ := hy.open_
  rw [hy'] at e
  cases e
  exfalso
  have hv : val B32 l2 < B32 := by
    have : (sgn s' (val B32 l2)).natAbs = val B32 l2 := by unfold sgn; cases s' <;> simp
    omega
  have := length_le_of_val (B := B32) (n := 1) (by decide) (goodB_tr g2) (by simpa using hv)
  have := R2.len
  omega

end Go.Proofs.YtdekkieajffblaaGreat
