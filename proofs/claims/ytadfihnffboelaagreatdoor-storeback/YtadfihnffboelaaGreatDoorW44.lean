/-
  What is printed is read: texts of digits.
-/
import Derived.Test.YtadfihnffboelaaGreatDoorX3
import Derived.Test.YtadfihnffboelaaGreatDoorSG1
import Derived.Test.YtadfihnffboelaaGreatDoorV1
import Derived.Test.YtadfihnffboelaaGreatDoorW40
import Derived.Lib.MapLaws
import Derived.Lib.QuoteLoop
import Derived.Test.YtadfihnffboelaaGreatDoorG3
import Derived.Test.YtadfihnffboelaaGreatDoorW42
set_option linter.unusedVariables false
set_option linter.unusedSimpArgs false
set_option maxRecDepth 100000
namespace Go.Proofs.YtadfihnffboelaaGreatDoor
open Go.RowKit

/-- All used words. -/
def wordsL : List Ob → List Int
  | [] => []
  | x :: l => wordR 8 (x.f.length : Nat) x.kind :: (x.f ++ wordsL l)
theorem wordsL_append (a b : List Ob) : wordsL (a ++ b) = wordsL a ++ wordsL b := by
  induction a with
  | nil => rfl
  | cons x l ih => simp only [List.cons_append, wordsL, ih, List.append_assoc]
theorem wordsL_length (a : List Ob) : (wordsL a).length = usedL a := by
  induction a with
  | nil => rfl
  | cons x l ih => simp only [wordsL, usedL, List.length_cons, List.length_append, ih]; omega
end Go.Proofs.YtadfihnffboelaaGreatDoor

set_option linter.unusedVariables false
set_option linter.unusedSimpArgs false
namespace Go.Proofs.YtadfihnffboelaaGreatDoor
open Go.RowKit

/-- Objects as a heap has them: no field is a head. -/
structure OsOk (os : List Ob) : Prop where
  kd : ∀ x ∈ os, 1 ≤ x.kind ∧ x.kind ≤ 22
  uf : ∀ x ∈ os, ∀ z ∈ x.f, U64 z
  nh : ∀ x ∈ os, ∀ z ∈ x.f, isHd z = false
def kindM (os : List Ob) (p : Int) : Int × Int := match findM os p with | none => (0, 70) | some n => ((os.getD n default).kind, 0)
def sizeM (os : List Ob) (p : Int) : Int × Int := match findM os p with | none => (0, 70) | some n => ((os.getD n default).f.length, 0)
/-- What counts for places. -/
def sh (x : Ob) : Int × Nat := (x.kind, x.f.length)
theorem sh_used : ∀ {a b : List Ob}, a.map sh = b.map sh → usedL a = usedL b
  | [], [], _ => rfl
  | [], _ :: _, h => by cases h
  | _ :: _, [], h => by cases h
  | x :: a, y :: b, h => by
    simp only [List.map_cons, List.cons.injEq] at h
    have h1 : x.f.length = y.f.length := congrArg Prod.snd h.1
    simp only [usedL, sh_used h.2, h1]
theorem sh_len {a b : List Ob} (h : a.map sh = b.map sh) : a.length = b.length := by
  have := congrArg List.length h; simpa using this
theorem sh_at {a b : List Ob} (h : a.map sh = b.map sh) (i : Nat) : atO a i = atO b i := by
  unfold atO; exact sh_used (by rw [List.map_take, List.map_take, h])
theorem sh_fnd {a b : List Ob} (h : a.map sh = b.map sh) (n : Int) (i : Nat) : fnd a n i = fnd b n i := by
  induction hk : a.length - i generalizing i with
  | zero =>
    have := sh_len h
    have e1 : fnd a n i = none := by rw [fnd, if_neg (by omega)]
    have e2 : fnd b n i = none := by rw [fnd, if_neg (by omega)]
    rw [e1, e2]
  | succ k ih =>
    have := sh_len h
    have e1 : fnd a n i = if (atO a i : Int) = n then some i else fnd a n (i + 1) := by rw [fnd, if_pos (by omega)]
    have e2 : fnd b n i = if (atO b i : Int) = n then some i else fnd b n (i + 1) := by rw [fnd, if_pos (by omega)]
    rw [e1, e2, sh_at h, ih (i + 1) (by omega)]
theorem sh_find {a b : List Ob} (h : a.map sh = b.map sh) (p : Int) : findM a p = findM b p := by
  unfold findM; rw [sh_fnd h]
/-- A place's word. -/
theorem place_word {p : Int} (hp : U64 p) (h : (ofR p).1 = 2) : p = (ofR p).2.1 * 8 + 1 := by
  unfold ofR at h ⊢
  split at h
  · rename_i hr
    rw [if_pos hr]
    unfold U64 at hp
    unfold ofRaw at h ⊢
    split at h
    · exact absurd h (by simp)
    rename_i h0
    split at h
    · rename_i h1
      rw [if_neg h0, if_pos h1]
      show p = p / 8 * 8 + 1
      omega
    · rename_i h1
      split at h
      · split at h
        · exact absurd h (by simp)
        split at h
        · have h' : p / 8 % 32 - 2 = 2 := h
          omega
        · exact absurd h (by simp)
      split at h
      · exact absurd h (by simp)
      · exact absurd h (by simp)
  · exact absurd h (by simp)
/-- The words, object by object. -/
theorem words_split {os : List Ob} {k : Nat} (h : k < os.length) : wordsL os = wordsL (os.take k) ++ (wordR 8 ((os.getD k default).f.length : Nat) (os.getD k default).kind :: ((os.getD k default).f ++ wordsL (os.drop (k + 1)))) := by
  have h1 : os = os.take k ++ (os.getD k default :: os.drop (k + 1)) := by
    conv => lhs; rw [← List.take_append_drop k os, List.drop_eq_getElem_cons h]
    rw [List.getD_eq_getElem?_getD, List.getElem?_eq_getElem h]; rfl
  conv => lhs; rw [h1, wordsL_append]
  rfl
theorem at_len (os : List Ob) (k : Nat) : (wordsL (os.take k)).length = atO os k := by rw [wordsL_length]; rfl
theorem word_head {os : List Ob} {k : Nat} (h : k < os.length) : (wordsL os).getD (atO os k) 0 = wordR 8 ((os.getD k default).f.length : Nat) (os.getD k default).kind := by
  rw [words_split h, List.getD_eq_getElem?_getD, List.getElem?_append_right (by rw [at_len]; exact Nat.le_refl _), at_len, Nat.sub_self]; rfl
theorem word_field {os : List Ob} {k j : Nat} (h : k < os.length) (hj : j < (os.getD k default).f.length) : (wordsL os).getD (atO os k + 1 + j) 0 = (os.getD k default).f.getD j 0 := by
  rw [words_split h, List.getD_eq_getElem?_getD, List.getElem?_append_right (by rw [at_len]; omega), at_len, show atO os k + 1 + j - atO os k = j + 1 by omega, List.getElem?_cons_succ, List.getElem?_append_left hj, ← List.getD_eq_getElem?_getD]
theorem at_succ {os : List Ob} {k : Nat} (h : k < os.length) : atO os (k + 1) = atO os k + 1 + (os.getD k default).f.length := by
  unfold atO
  rw [List.take_succ_eq_append_getElem h, usedL_append, List.getD_eq_getElem?_getD, List.getElem?_eq_getElem h]
  simp only [usedL, Option.getD_some]; omega
theorem at_all (os : List Ob) : atO os os.length = usedL os := by unfold atO; rw [List.take_length]
theorem at_mono {os : List Ob} {j k : Nat} (h : j ≤ k) (hk : k ≤ os.length) : atO os j + (k - j) ≤ atO os k := by
  induction k with
  | zero => obtain rfl : j = 0 := by omega
            simp
  | succ k ih =>
    by_cases e : j = k + 1
    · subst e; simp
    · have := ih (by omega) (by omega)
      rw [at_succ (by omega)]; omega
theorem at_inj {os : List Ob} {j k : Nat} (hj : j < os.length) (hk : k < os.length) (h : atO os j = atO os k) : j = k := by
  rcases Nat.lt_trichotomy j k with h1 | h1 | h1
  · have := at_mono (os := os) (Nat.le_of_lt h1) (Nat.le_of_lt hk); omega
  · exact h1
  · have := at_mono (os := os) (Nat.le_of_lt h1) (Nat.le_of_lt hj); omega
theorem at_lt {os : List Ob} {k : Nat} (h : k < os.length) : atO os k + 1 + (os.getD k default).f.length ≤ usedL os := by
  rw [← at_succ h, ← at_all]
  have := at_mono (os := os) (j := k + 1) (k := os.length) h (Nat.le_refl _)
  omega
/-- Each place is an object's head, or a field of it. -/
theorem place_of {os : List Ob} {i : Nat} (h : i < usedL os) : ∃ k, k < os.length ∧ (i = atO os k ∨ ∃ j, j < (os.getD k default).f.length ∧ i = atO os k + 1 + j) := by
  have key : ∀ n, n ≤ os.length → i < atO os n → ∃ k, k < n ∧ atO os k ≤ i ∧ i < atO os (k + 1) := fun n => by
    induction n with
    | zero => intro _ h; simp [atO, usedL] at h
    | succ n ih =>
      intro hn hi
      by_cases e : i < atO os n
      · obtain ⟨k, a, b⟩ := ih (by omega) e; exact ⟨k, by omega, b⟩
      · exact ⟨n, by omega, by omega, hi⟩
  obtain ⟨k, h1, h2, h3⟩ := key os.length (Nat.le_refl _) (by rw [at_all]; exact h)
  rw [at_succ h1] at h3
  refine ⟨k, h1, ?_⟩
  by_cases e : i = atO os k
  · exact .inl e
  · exact .inr ⟨i - atO os k - 1, by omega, by omega⟩
theorem fnd_at {os : List Ob} {k : Nat} (h : k < os.length) {i : Nat} (hi : i ≤ k) : fnd os (atO os k : Nat) i = some k := by
  induction hk : k - i generalizing i with
  | zero =>
    obtain rfl : i = k := by omega
    rw [fnd, if_pos h, if_pos rfl]
  | succ n ih =>
    rw [fnd, if_pos (by omega), if_neg (fun e => by have := at_inj (os := os) (j := i) (k := k) (by omega) h (by omega); omega), ih (by omega) (by omega)]
theorem ptr_of {n : Nat} (h : n ≤ 1099511627776) : ofR (wordR 2 (n : Int) 0) = (2, (n : Int), 0) := by
  have := word_back (k := 2) (n := n) (t := 0) (by unfold rightB; simp; omega)
  simpa using this
theorem find_ptr {os : List Ob} {k : Nat} (h : k < os.length) (hu : usedL os ≤ 1099511627776) : findM os (wordR 2 (atO os k : Nat) 0) = some k := by
  have hl := at_lt h
  unfold findM
  rw [ptr_of (by omega)]
  simp only [if_true]
  exact fnd_at h (Nat.zero_le _)
theorem head_of {x : Ob} (hk : 1 ≤ x.kind ∧ x.kind ≤ 22) (hl : x.f.length ≤ 1099511627776) : ofR (wordR 8 (x.f.length : Nat) x.kind) = (8, ((x.f.length : Nat) : Int), x.kind) := by
  have := word_back (k := 8) (n := (x.f.length : Nat)) (t := x.kind) (by unfold rightB; simp; omega)
  simpa using this
theorem getD_in_os {l : List Ob} {i : Nat} (h : i < l.length) : l.getD i default ∈ l := by
  rw [List.getD_eq_getElem?_getD, List.getElem?_eq_getElem h]; exact List.getElem_mem h
theorem getD_in_f {l : List Int} {i : Nat} (h : i < l.length) : l.getD i 0 ∈ l := by
  rw [List.getD_eq_getElem?_getD, List.getElem?_eq_getElem h]; exact List.getElem_mem h
/-- A word that is used is a head just where an object lies. -/
theorem head_iff {os : List Ob} (ho : OsOk os) (hu : usedL os ≤ 1099511627776) {i : Nat} (h : i < usedL os) : (ofR ((wordsL os).getD i 0)).1 = 8 ↔ ∃ k, k < os.length ∧ i = atO os k := by
  constructor
  · intro e
    obtain ⟨k, hk, h1 | ⟨j, hj, h1⟩⟩ := place_of h
    · exact ⟨k, hk, h1⟩
    · rw [h1, word_field hk hj] at e
      have := ho.nh _ (getD_in_os hk) _ (getD_in_f hj)
      unfold isHd at this
      simp only [decide_eq_false_iff_not] at this
      exact absurd e this
  · rintro ⟨k, hk, rfl⟩
    have hl := at_lt hk
    rw [word_head hk, head_of (ho.kd _ (getD_in_os hk)) (by omega)]
end Go.Proofs.YtadfihnffboelaaGreatDoor

set_option linter.unusedVariables false
set_option linter.unusedSimpArgs false
namespace Go.Proofs.YtadfihnffboelaaGreatDoor
open Go.RowKit

/-- A text of bytes. -/
def textOf (l : List Nat) : ByteArray := ⟨(l.map UInt8.ofNat).toArray⟩
theorem bs_textOf {l : List Nat} (h : ∀ x ∈ l, x < 256) : bs (textOf l) = l := by
  unfold bs textOf
  rw [List.toList_toArray, List.map_map]
  conv => rhs; rw [← List.map_id l]
  refine List.map_congr_left (fun x hx => ?_)
  show (UInt8.ofNat x).toNat = x
  rw [UInt8.toNat_ofNat']
  exact Nat.mod_eq_of_lt (h x hx)
theorem bs_byte (s : ByteArray) : ∀ x ∈ bs s, x < 256 := fun x hx => by
  unfold bs at hx
  obtain ⟨u, _, rfl⟩ := List.mem_map.1 hx
  exact UInt8.toNat_lt u
theorem textOf_bs (s : ByteArray) : textOf (bs s) = s := by
  unfold bs textOf
  rw [List.map_map]
  have : (UInt8.ofNat ∘ UInt8.toNat) = id := by funext u; simp
  rw [this, List.map_id]
def symT (nm : List ByteArray) (x : Int) : ByteArray := nm.getD (nN x).toNat ByteArray.empty
/-- Is a word a name that can be told? -/
def symB (nm : List ByteArray) (x : Int) : Bool := decide (nK x = 5) && (decide (nN x < nm.length) && textB 6 (symT nm x))
/-- Is a word a name that a record's node can have? (An empty one is none of a GSym's, but one of a GRecord's.) -/
def namB (nm : List ByteArray) (x : Int) : Bool := decide (nK x = 5) && (decide (nN x < nm.length) && textB 15 (symT nm x))
/-- What a word says that says no object. -/
def plainD (nm : List ByteArray) (x : Int) : Nd :=
  if nK x = 1 then ⟨3, 0, textOf (printL (decide (nN x < 0)) (nN x).natAbs), []⟩
  else if nK x = 3 then (if nN x = 0 then ⟨1, 0, ByteArray.empty, []⟩ else if nN x = 1 ∨ nN x = 2 then ⟨2, nN x - 1, ByteArray.empty, []⟩ else if nN x = 3 then ⟨10, 0, ByteArray.empty, []⟩ else voidN)
  else if nK x = 4 then ⟨4, nN x, ByteArray.empty, []⟩
  else if symB nm x = true then ⟨6, 0, symT nm x, []⟩
  else if nK x = 6 then ⟨12, 0, ByteArray.empty, []⟩ else voidN
/-- Is a word a record's type that has a name? -/
def recB (os : List Ob) (nm : List ByteArray) (x : Int) : Bool := match findM os x with
  | some k => decide ((os.getD k default).kind = 13) && (decide (0 < (os.getD k default).f.length) && namB nm ((os.getD k default).f.getD 0 0))
  | none => false
def recT (os : List Ob) (nm : List ByteArray) (x : Int) : ByteArray := match findM os x with
  | some k => symT nm ((os.getD k default).f.getD 0 0)
  | none => ByteArray.empty
def recordT : ByteArray := textOf [114, 101, 99, 111, 114, 100, 45, 116, 121, 112, 101]
def tableT : ByteArray := textOf [116, 97, 98, 108, 101]
def condB (f : List Int) : Bool := decide (f.length = 3) && (decide (nK (f.getD 0 0) = 1) && (decide (0 ≤ nN (f.getD 0 0)) && decide (nN (f.getD 0 0) ≤ 2)))
/-- What an object says; the kids are words. -/
def objD (os : List Ob) (nm : List ByteArray) (kd : Int) (f : List Int) : Nd :=
  if kd = 1 then (if f.length = 2 then ⟨7, 0, ByteArray.empty, f⟩ else voidN)
  else if kd = 2 then (if f.length ≤ 1024 then ⟨8, 0, ByteArray.empty, f⟩ else voidN)
  else if kd = 3 then (if (f.all lrB && decide (f.length ≤ 1024)) = true then ⟨5, 0, textOf (lrT f), []⟩ else voidN)
  else if kd = 4 then (if (f.all byB && decide (f.length ≤ 1024)) = true then ⟨9, 0, textOf (byT f), []⟩ else voidN)
  else if kd = 5 then (if bigB f = true then ⟨3, 0, textOf (printL (numNeg f) (val B32 (numMag f))), []⟩ else voidN)
  else if kd = 12 then (if condB f = true then ⟨13, nN (f.getD 0 0), ByteArray.empty, f.drop 1⟩ else voidN)
  else if kd = 14 then (if (decide (0 < f.length) && recB os nm (f.getD 0 0)) = true then ⟨15, 0, recT os nm (f.getD 0 0), f.drop 1⟩ else voidN)
  else if kd = 11 then ⟨14, 0, ByteArray.empty, []⟩
  else if kd = 19 then ⟨17, 0, ByteArray.empty, []⟩
  else if kd = 18 then ⟨16, 0, ByteArray.empty, f⟩
  else if kd = 13 then ⟨15, 0, recordT, []⟩
  else if kd = 22 then ⟨15, 0, tableT, []⟩
  else if kd = 6 ∨ kd = 17 ∨ kd = 16 ∨ kd = 15 then ⟨12, 0, ByteArray.empty, []⟩
  else voidN
/-- What a word says. -/
def wordD (os : List Ob) (nm : List ByteArray) (x : Int) : Nd := match findM os x with
  | some k => objD os nm (os.getD k default).kind (os.getD k default).f
  | none => plainD nm x
theorem find_place {os : List Ob} {x : Int} {k : Nat} (h : findM os x = some k) : nK x = 2 := by
  unfold findM at h
  split at h
  · assumption
  · cases h
theorem find_not {os : List Ob} {x : Int} (h : nK x ≠ 2) : findM os x = none := by
  cases e : findM os x with
  | none => rfl
  | some k => exact absurd (find_place e) h
section
variable {os : List Ob} {l : List Bool} {nm : List ByteArray}
theorem nK_zero : nK 0 ≠ 2 := by unfold nK; decide
section
variable {os : List Ob} {nm : List ByteArray} {f : List Int}
theorem objD_1 : objD os nm 1 f = if f.length = 2 then ⟨7, 0, ByteArray.empty, f⟩ else voidN := rfl
theorem objD_2 : objD os nm 2 f = if f.length ≤ 1024 then ⟨8, 0, ByteArray.empty, f⟩ else voidN := rfl
theorem objD_3 : objD os nm 3 f = if (f.all lrB && decide (f.length ≤ 1024)) = true then ⟨5, 0, textOf (lrT f), []⟩ else voidN := rfl
theorem objD_4 : objD os nm 4 f = if (f.all byB && decide (f.length ≤ 1024)) = true then ⟨9, 0, textOf (byT f), []⟩ else voidN := rfl
theorem objD_5 : objD os nm 5 f = if bigB f = true then ⟨3, 0, textOf (printL (numNeg f) (val B32 (numMag f))), []⟩ else voidN := rfl
theorem objD_12 : objD os nm 12 f = if condB f = true then ⟨13, nN (f.getD 0 0), ByteArray.empty, f.drop 1⟩ else voidN := rfl
theorem objD_14 : objD os nm 14 f = if (decide (0 < f.length) && recB os nm (f.getD 0 0)) = true then ⟨15, 0, recT os nm (f.getD 0 0), f.drop 1⟩ else voidN := rfl
theorem objD_o {kd : Int} (k1 : kd ≠ 1) (k2 : kd ≠ 2) (k3 : kd ≠ 3) (k4 : kd ≠ 4) (k5 : kd ≠ 5) (k12 : kd ≠ 12) (k14 : kd ≠ 14) : objD os nm kd f =
    if kd = 11 then ⟨14, 0, ByteArray.empty, []⟩ else if kd = 19 then ⟨17, 0, ByteArray.empty, []⟩ else if kd = 18 then ⟨16, 0, ByteArray.empty, f⟩ else if kd = 13 then ⟨15, 0, recordT, []⟩ else if kd = 22 then ⟨15, 0, tableT, []⟩
    else if kd = 6 ∨ kd = 17 ∨ kd = 16 ∨ kd = 15 then ⟨12, 0, ByteArray.empty, []⟩ else voidN := by
  unfold objD
  rw [if_neg k1, if_neg k2, if_neg k3, if_neg k4, if_neg k5, if_neg k12, if_neg k14]
end
end
end Go.Proofs.YtadfihnffboelaaGreatDoor

set_option linter.unusedVariables false
set_option linter.unusedSimpArgs false
namespace Go.Proofs.YtadfihnffboelaaGreatDoor
open Go.RowKit

theorem u8n {n : Nat} (h : n < 256) : (UInt8.ofNat n).toNat = n := by rw [UInt8.toNat_ofNat']; exact Nat.mod_eq_of_lt h
theorem letB_rng {c : Nat} (h : letB (c : Int) = true) : c ≤ 1114111 ∧ (c < 55296 ∨ 57343 < c) := by
  unfold letB at h
  simp only [Bool.and_eq_true, Bool.or_eq_true, decide_eq_true_eq] at h
  omega
/-- A letter's bytes. -/
theorem enc_1 {c : Nat} (h : letB (c : Int) = true) (h1 : c < 128) : (Utf8.encode (c : Int)).data.toList = [UInt8.ofNat c] := by
  have hv : Utf8.valid (c : Int) = true := by rw [← letB_valid]; exact h
  unfold Utf8.encode
  simp only [hv, if_true, Int.toNat_natCast]
  rw [if_pos h1]
theorem enc_2 {c : Nat} (h : letB (c : Int) = true) (h1 : 128 ≤ c) (h2 : c < 2048) : (Utf8.encode (c : Int)).data.toList = [UInt8.ofNat (192 + c / 64), UInt8.ofNat (128 + c % 64)] := by
  have hv : Utf8.valid (c : Int) = true := by rw [← letB_valid]; exact h
  unfold Utf8.encode
  simp only [hv, if_true, Int.toNat_natCast]
  rw [if_neg (by omega), if_pos h2]
theorem enc_3 {c : Nat} (h : letB (c : Int) = true) (h1 : 2048 ≤ c) (h2 : c < 65536) : (Utf8.encode (c : Int)).data.toList = [UInt8.ofNat (224 + c / 4096), UInt8.ofNat (128 + c / 64 % 64), UInt8.ofNat (128 + c % 64)] := by
  have hv : Utf8.valid (c : Int) = true := by rw [← letB_valid]; exact h
  unfold Utf8.encode
  simp only [hv, if_true, Int.toNat_natCast]
  rw [if_neg (by omega), if_neg (by omega), if_pos h2]
theorem enc_4 {c : Nat} (h : letB (c : Int) = true) (h1 : 65536 ≤ c) : (Utf8.encode (c : Int)).data.toList = [UInt8.ofNat (240 + c / 262144), UInt8.ofNat (128 + c / 4096 % 64), UInt8.ofNat (128 + c / 64 % 64), UInt8.ofNat (128 + c % 64)] := by
  have hv : Utf8.valid (c : Int) = true := by rw [← letB_valid]; exact h
  unfold Utf8.encode
  simp only [hv, if_true, Int.toNat_natCast]
  rw [if_neg (by omega), if_neg (by omega), if_neg (by omega)]
/-- What was spelt is told. -/
theorem dec_enc {c : Nat} (h : letB (c : Int) = true) (rest : List UInt8) : Lib.decodeL ((Utf8.encode (c : Int)).data.toList ++ rest) = (c, (Utf8.encode (c : Int)).data.toList.length) := by
  have hb := letB_rng h
  rw [Lib.decodeL_N]
  by_cases h1 : c < 128
  · rw [enc_1 h h1]
    show Lib.decodeN _ (UInt8.ofNat c).toNat _ _ _ = (c, 1)
    rw [u8n (by omega)]
    unfold Lib.decodeN
    rw [if_pos h1]
  by_cases h2 : c < 2048
  · rw [enc_2 h (by omega) h2]
    show Lib.decodeN _ (UInt8.ofNat (192 + c / 64)).toNat (UInt8.ofNat (128 + c % 64)).toNat _ _ = (c, 2)
    rw [u8n (by omega), u8n (by omega)]
    unfold Lib.decodeN
    rw [if_neg (by omega), if_pos ⟨by omega, by simp, by omega⟩, if_pos (by omega)]
    congr 1; omega
  by_cases h3 : c < 65536
  · rw [enc_3 h (by omega) h3]
    show Lib.decodeN _ (UInt8.ofNat (224 + c / 4096)).toNat (UInt8.ofNat (128 + c / 64 % 64)).toNat (UInt8.ofNat (128 + c % 64)).toNat _ = (c, 3)
    rw [u8n (by omega), u8n (by omega), u8n (by omega)]
    unfold Lib.decodeN
    rw [if_neg (by omega), if_neg (by omega), if_pos ⟨by omega, ⟨by simp, by omega⟩, by simp, by omega⟩, if_pos (by omega)]
    congr 1; omega
  · rw [enc_4 h (by omega)]
    show Lib.decodeN _ (UInt8.ofNat (240 + c / 262144)).toNat (UInt8.ofNat (128 + c / 4096 % 64)).toNat (UInt8.ofNat (128 + c / 64 % 64)).toNat (UInt8.ofNat (128 + c % 64)).toNat = (c, 4)
    rw [u8n (by omega), u8n (by omega), u8n (by omega), u8n (by omega)]
    unfold Lib.decodeN
    rw [if_neg (by omega), if_neg (by omega), if_neg (by omega), if_pos ⟨by omega, ⟨by simp, by omega⟩, ⟨by simp, by omega⟩, by simp, by omega⟩, if_pos (by omega)]
    congr 1; omega
theorem enc_len {c : Nat} (h : letB (c : Int) = true) : 1 ≤ (Utf8.encode (c : Int)).data.toList.length ∧ (Utf8.encode (c : Int)).data.toList.length ≤ 4 := by
  by_cases h1 : c < 128
  · rw [enc_1 h h1]; simp
  by_cases h2 : c < 2048
  · rw [enc_2 h (by omega) h2]; simp
  by_cases h3 : c < 65536
  · rw [enc_3 h (by omega) h3]; simp
  · rw [enc_4 h (by omega)]; simp
theorem enc_is {c : Nat} (h : letB (c : Int) = true) : (Utf8.encode (c : Int)).data.toList = Lib.encodeRune (c : Int) := by
  have hb := letB_rng h
  unfold Lib.encodeRune
  by_cases h1 : c < 128
  · rw [enc_1 h h1, Lib.encodeRuneZ_one (by omega) (by omega)]; simp
  by_cases h2 : c < 2048
  · rw [enc_2 h (by omega) h2, Lib.encodeRuneZ_two (by omega) (by omega)]
    simp only [List.map_cons, List.map_nil]
    rw [show (192 + (c : Int) / 64).toNat = 192 + c / 64 by omega, show (128 + (c : Int) % 64).toNat = 128 + c % 64 by omega]
  by_cases h3 : c < 65536
  · rw [enc_3 h (by omega) h3, Lib.encodeRuneZ_three (by omega)]
    simp only [List.map_cons, List.map_nil]
    rw [show (224 + (c : Int) / 4096).toNat = 224 + c / 4096 by omega, show (128 + (c : Int) / 64 % 64).toNat = 128 + c / 64 % 64 by omega, show (128 + (c : Int) % 64).toNat = 128 + c % 64 by omega]
  · rw [enc_4 h (by omega), Lib.encodeRuneZ_four (by omega) (by omega)]
    simp only [List.map_cons, List.map_nil]
    rw [show (240 + (c : Int) / 262144).toNat = 240 + c / 262144 by omega, show (128 + (c : Int) / 4096 % 64).toNat = 128 + c / 4096 % 64 by omega, show (128 + (c : Int) / 64 % 64).toNat = 128 + c / 64 % 64 by omega, show (128 + (c : Int) % 64).toNat = 128 + c % 64 by omega]
/-- Letters in a row, spelt. -/
def spelt (l : List Nat) : List UInt8 := l.flatMap (fun c : Nat => (Utf8.encode (c : Int)).data.toList)
theorem spelt_valid : ∀ {l : List Nat}, (∀ c ∈ l, letB (c : Int) = true) → Lib.validD (spelt l) = true
  | [], _ => Lib.validD_nil
  | c :: l, h => by
    have hc := h c List.mem_cons_self
    have hl := enc_len hc
    have ih := spelt_valid (l := l) (fun x hx => h x (List.mem_cons_of_mem _ hx))
    have e : spelt (c :: l) = (Utf8.encode (c : Int)).data.toList ++ spelt l := rfl
    rw [e, Lib.validD_step _ (by intro e2; have := congrArg List.length e2; simp only [List.length_append, List.length_nil] at this; omega), dec_enc hc, if_neg, List.drop_left]
    · exact ih
    · rintro ⟨e1, e2⟩
      simp only at e1 e2
      subst e1
      rw [enc_3 hc (by omega) (by omega)] at e2
      simp at e2
theorem count_from (s : ByteArray) (f p : Nat) : Lib.runeCountFrom s (f + 1) p = if p < s.size then 1 + Lib.runeCountFrom s f (p + (Utf8.decode s p).2) else 0 := rfl
theorem spelt_from {s : ByteArray} : ∀ {l : List Nat} {p f : Nat}, (∀ c ∈ l, letB (c : Int) = true) → s.data.toList.drop p = spelt l → l.length ≤ f → Lib.runeCountFrom s f p = l.length
  | [], p, f, _, e, _ => by
    refine Lib.runeCountFrom_end s f p (fun h => ?_)
    have := congrArg List.length e
    rw [List.length_drop] at this
    have h2 : s.data.toList.length = s.size := rfl
    simp [spelt] at this
    omega
  | c :: l, p, 0, _, _, h => by simp at h
  | c :: l, p, f + 1, h, e, hf => by
    have hc := h c List.mem_cons_self
    have hl := enc_len hc
    have e2 : spelt (c :: l) = (Utf8.encode (c : Int)).data.toList ++ spelt l := rfl
    rw [e2] at e
    have h2 : s.data.toList.length = s.size := rfl
    have hlen := congrArg List.length e
    rw [List.length_drop, List.length_append] at hlen
    have hd : Utf8.decode s p = (c, (Utf8.encode (c : Int)).data.toList.length) := by
      rw [← Lib.decodeL_drop, e, dec_enc hc]
    rw [count_from, if_pos (by omega), hd]
    have ih := spelt_from (s := s) (l := l) (p := p + (Utf8.encode (c : Int)).data.toList.length) (f := f) (fun x hx => h x (List.mem_cons_of_mem _ hx)) (by
      rw [← List.drop_drop, e, List.drop_left]) (by simpa using hf)
    rw [ih, List.length_cons]; omega
theorem spelt_len : ∀ {l : List Nat}, (∀ c ∈ l, letB (c : Int) = true) → l.length ≤ (spelt l).length
  | [], _ => Nat.le_refl _
  | c :: l, h => by
    have hl := enc_len (h c List.mem_cons_self)
    have ih := spelt_len (l := l) (fun x hx => h x (List.mem_cons_of_mem _ hx))
    have e2 : spelt (c :: l) = (Utf8.encode (c : Int)).data.toList ++ spelt l := rfl
    rw [e2, List.length_append, List.length_cons]; omega
/-- A text of letters has so many. -/
theorem spelt_count {s : ByteArray} {l : List Nat} (h : ∀ c ∈ l, letB (c : Int) = true) (e : s.data.toList = spelt l) : Lib.runeCount s = l.length :=
  spelt_from (s := s) (p := 0) h (by rw [List.drop_zero]; exact e) (by
    have h2 : s.data.toList.length = s.size := rfl
    have := spelt_len h
    rw [← e] at this; omega)
/-- What is told of a text that is good is spelt as it was. -/
theorem told_spelt {s : ByteArray} : ∀ {f p : Nat}, Lib.validD (s.data.toList.drop p) = true → s.size ≤ p + f →
    ∃ l : List Nat, ltF s f p = l.map (fun c : Nat => (c : Int)) ∧ (∀ c ∈ l, letB (c : Int) = true) ∧ s.data.toList.drop p = spelt l
  | 0, p, _, hs => ⟨[], rfl, fun c hc => (by cases hc), (by
      have h2 : s.data.toList.length = s.size := rfl
      rw [List.drop_eq_nil_of_le (by omega)]; rfl)⟩
  | f + 1, p, hv, hs => by
    have h2 : s.data.toList.length = s.size := rfl
    by_cases hp : p < s.size
    · have hne : s.data.toList.drop p ≠ [] := by
        intro e; have := congrArg List.length e; rw [List.length_drop] at this; simp only [List.length_nil] at this; omega
      rw [Lib.validD_step _ hne, Lib.decodeL_drop] at hv
      by_cases hb : (Utf8.decode s p).1 = 65533 ∧ (Utf8.decode s p).2 = 1
      · rw [if_pos hb] at hv; cases hv
      · rw [if_neg hb] at hv
        have hne2 : ¬ Utf8.decode s p = (65533, 1) := fun e => hb (by rw [e]; exact ⟨rfl, rfl⟩)
        have er : runeD s p = Utf8.decode s p := by unfold runeD; rw [if_neg hne2]
        have hw := decode_le s p
        rw [List.drop_drop] at hv
        obtain ⟨l, e1, e2, e3⟩ := told_spelt (s := s) (f := f) (p := p + (Utf8.decode s p).2) hv (by omega)
        have hlet : letB ((Utf8.decode s p).1 : Int) = true := by
          have hd : Utf8.decode s p = Lib.decodeL (s.data.toList.drop p) := (Lib.decodeL_drop s p).symm
          have := Lib.decodeN_valid (s.data.toList.drop p).length ((s.data.toList.drop p).getD 0 0).toNat ((s.data.toList.drop p).getD 1 0).toNat ((s.data.toList.drop p).getD 2 0).toNat ((s.data.toList.drop p).getD 3 0).toNat (UInt8.toNat_lt _)
          rw [← Lib.decodeL_N, ← hd] at this
          unfold letB
          simp only [Bool.and_eq_true, Bool.or_eq_true, decide_eq_true_eq]
          omega
        refine ⟨(Utf8.decode s p).1 :: l, ?_, ?_, ?_⟩
        · unfold ltF
          rw [if_pos hp, er, show max 1 (Utf8.decode s p).2 = (Utf8.decode s p).2 by omega, e1]; rfl
        · intro c hc
          rcases List.mem_cons.1 hc with rfl | hc
          · exact hlet
          · exact e2 c hc
        · have e4 : spelt ((Utf8.decode s p).1 :: l) = (Utf8.encode ((Utf8.decode s p).1 : Int)).data.toList ++ spelt l := rfl
          rw [e4, ← e3]
          have h5 := Lib.encode_decode (s.data.toList.drop p) hne (by rw [Lib.decodeL_drop]; exact hb)
          rw [Lib.decodeL_drop] at h5
          have h6 : (Utf8.encode ((Utf8.decode s p).1 : Int)).data.toList = Lib.encodeRune ((Utf8.decode s p).1 : Int) := enc_is hlet
          rw [h6, h5, ← List.drop_drop, List.take_append_drop]
    · refine ⟨[], ?_, fun c hc => (by cases hc), ?_⟩
      · unfold ltF; rw [if_neg hp]; rfl
      · rw [List.drop_eq_nil_of_le (by omega)]; rfl
end Go.Proofs.YtadfihnffboelaaGreatDoor

set_option linter.unusedVariables false
set_option linter.unusedSimpArgs false
namespace Go.Proofs.YtadfihnffboelaaGreatDoor
open Go.RowKit

theorem dgt_chr {d : Nat} (h : d < 36) : dgt (chr d) = d := by
  unfold dgt chr
  by_cases h1 : d < 10
  · rw [if_pos h1, if_pos (by omega)]; omega
  · rw [if_neg h1, if_neg (by omega), if_pos (by omega)]; omega
theorem hv_rev (radix : Nat) : ∀ {D : List Nat}, (∀ x ∈ D, x < 36) → hv radix ((D.map chr).reverse) = val radix D
  | [], _ => rfl
  | d :: D, h => by
    rw [List.map_cons, List.reverse_cons, hv_snoc, hv_rev radix (fun x hx => h x (by simp [hx])), dgt_chr (h d (by simp)), val_cons, Nat.mul_comm]
    omega
/-- The digits of a text without its sign. -/
def body (D : List Nat) : List Nat := if D = [] then [48] else (D.map chr).reverse
theorem body_val {radix : Nat} {D : List Nat} (h : Dg radix D) (hr : radix ≤ 36) : hv radix (body D) = val radix D := by
  unfold body
  by_cases hD : D = []
  · subst hD; simp [hv, dgt, val]
  · rw [if_neg hD]; exact hv_rev radix (fun x hx => by have := h x hx; omega)
theorem body_digits {radix : Nat} {D : List Nat} (h : Dg radix D) (h2 : 2 ≤ radix) (hr : radix ≤ 36) : ∀ c ∈ body D, dgt c < radix := by
  unfold body
  by_cases hD : D = []
  · subst hD
    intro c hc
    simp at hc
    subst hc
    simp [dgt]; omega
  · rw [if_neg hD]
    intro c hc
    rw [List.mem_reverse] at hc
    obtain ⟨d, hd, rfl⟩ := List.mem_map.1 hc
    have := h d hd
    rw [dgt_chr (by omega)]; exact this
theorem body_ne (D : List Nat) : body D ≠ [] := by
  unfold body
  by_cases hD : D = []
  · simp [hD]
  · simp [hD]
theorem cutS_sg {l : List Nat} {c : Nat} {r : List Nat} (h : l = c :: r) (hc : c = 43 ∨ c = 45) : cutS l = (decide (c = 45), r) := by
  subst h; simp [cutS, hc]
theorem cutS_none {radix : Nat} {l : List Nat} (h : ∀ c ∈ l, dgt c < radix) (hr : radix ≤ 36) : cutS l = (false, l) := by
  cases l with
  | nil => rfl
  | cons c r =>
    have hc := h c (by simp)
    have : ¬ (c = 43 ∨ c = 45) := by
      rintro (rfl | rfl) <;> simp [dgt] at hc <;> omega
    simp [cutS, this]
theorem small_good {neg : Bool} {l : List Nat} (hd : Dg B32 l) (hg : goodB neg l = true) : ¬ Big (val B32 l) := by
  unfold Big
  have h1 := val_lt hd
  have h2 : B32 ^ l.length ≤ B32 ^ 40 := Nat.pow_le_pow_right (by decide) (goodB_len hg)
  omega

end Go.Proofs.YtadfihnffboelaaGreatDoor
