/-
  Objects that are handed in: rows of them; what says says; the heap that is made of them.
-/
import Derived.Test.YthgkonjglappjabU1
set_option linter.unusedVariables false
set_option linter.unusedSimpArgs false
set_option maxRecDepth 100000
namespace Go.Proofs.Ythgkonjglappjab
open Go.RowKit

/-- A field that is handed in. -/
structure Fd where
  is : Bool
  to : Int
  w : Int
deriving Inhabited
structure FOk (f : Fd) : Prop where
  to : Z64 f.to
  w : U64 f.w
def FIs (w : World) (b o : Nat) (f : Fd) : Prop := w.cell? ⟨b, o, none⟩ = some (.bool f.is) ∧ w.cell? ⟨b, o + 1, none⟩ = some (.int .i64 f.to) ∧ w.cell? ⟨b, o + 2, none⟩ = some (.int .u64 f.w)
structure FRow (w : World) (ao : Option Addr) (n cap : Nat) (fs : List Fd) : Prop where
  len : fs.length = n
  fits : n ≤ cap
  most : cap ≤ maxLen
  nil_ : ao = none → cap = 0
  ok : ∀ f ∈ fs, FOk f
  rd : fs = [] ∨ ∃ b o, ao = some ⟨b, o, none⟩ ∧ b < w.heap.size ∧ ∀ i, i < fs.length → FIs w b (o + i * 3) (fs.getD i default)
/-- An object that is handed in. -/
structure Oj where
  kind : Int
  l : List Fd
deriving Inhabited
def OIs (w : World) (b o : Nat) (x : Oj) : Prop := w.cell? ⟨b, o, none⟩ = some (.int .i64 x.kind) ∧ ∃ fa fn fc, w.cell? ⟨b, o + 1, none⟩ = some (.slice fa fn fc) ∧ FRow w fa fn fc x.l
structure ORow (w : World) (ao : Option Addr) (n cap : Nat) (xs : List Oj) : Prop where
  len : xs.length = n
  fits : n ≤ cap
  most : cap ≤ maxLen
  ok : ∀ x ∈ xs, Z64 x.kind
  rd : xs = [] ∨ ∃ b o, ao = some ⟨b, o, none⟩ ∧ b < w.heap.size ∧ ∀ i, i < xs.length → OIs w b (o + i * 2) (xs.getD i default)
section
variable {w w' : World} {ao : Option Addr} {n cap : Nat}
theorem FIs.on {b o : Nat} {f : Fd} (h : FIs w b o f) (hb : b < w.heap.size) (hw : Below w.heap.size w w') : FIs w' b o f :=
  ⟨(hw.cell (p := ⟨b, o, none⟩) hb).trans h.1, (hw.cell (p := ⟨b, o + 1, none⟩) hb).trans h.2.1, (hw.cell (p := ⟨b, o + 2, none⟩) hb).trans h.2.2⟩
theorem FRow.on {fs : List Fd} (h : FRow w ao n cap fs) (hw : Below w.heap.size w w') : FRow w' ao n cap fs := by
  refine ⟨h.len, h.fits, h.most, h.nil_, h.ok, ?_⟩
  rcases h.rd with e | ⟨b, o, e, h1, h2⟩
  · exact .inl e
  · exact .inr ⟨b, o, e, Nat.lt_of_lt_of_le h1 hw.size, fun i hi => (h2 i hi).on h1 hw⟩
theorem FRow.some {fs : List Fd} (h : FRow w ao n cap fs) (hn : 0 < n) : ∃ b o, ao = Option.some ⟨b, o, none⟩ ∧ b < w.heap.size ∧ ∀ i, i < n → FIs w b (o + i * 3) (fs.getD i default) := by
  rcases h.rd with e | h2
  · have := h.len; simp [e] at this; omega
  · rw [h.len] at h2; exact h2
theorem ORow.on {xs : List Oj} (h : ORow w ao n cap xs) (hw : Below w.heap.size w w') : ORow w' ao n cap xs := by
  refine ⟨h.len, h.fits, h.most, h.ok, ?_⟩
  rcases h.rd with e | ⟨b, o, e, h1, h2⟩
  · exact .inl e
  · refine .inr ⟨b, o, e, Nat.lt_of_lt_of_le h1 hw.size, fun i hi => ?_⟩
    obtain ⟨k1, fa, fn, fc, k2, k3⟩ := h2 i hi
    exact ⟨(hw.cell (p := ⟨b, o + i * 2, none⟩) h1).trans k1, fa, fn, fc, (hw.cell (p := ⟨b, o + i * 2 + 1, none⟩) h1).trans k2, k3.on hw⟩
theorem ORow.some {xs : List Oj} (h : ORow w ao n cap xs) (hn : 0 < n) : ∃ b o, ao = Option.some ⟨b, o, none⟩ ∧ b < w.heap.size ∧ ∀ i, i < n → OIs w b (o + i * 2) (xs.getD i default) := by
  rcases h.rd with e | h2
  · have := h.len; simp [e] at this; omega
  · rw [h.len] at h2; exact h2
end
theorem getD_in_oj {l : List Oj} {i : Nat} (h : i < l.length) : l.getD i default ∈ l := by
  rw [List.getD_eq_getElem?_getD, List.getElem?_eq_getElem h]; exact List.getElem_mem h
theorem getD_in_fd {l : List Fd} {i : Nat} (h : i < l.length) : l.getD i default ∈ l := by
  rw [List.getD_eq_getElem?_getD, List.getElem?_eq_getElem h]; exact List.getElem_mem h

/-- Its type. -/
def kindO (k : Int) : Int := Int.tmod (Int.tmod k 22 + 22) 22 + 1
theorem kindO_rng (k : Int) : 1 ≤ kindO k ∧ kindO k ≤ 22 := by
  have := round_at (n := 22) (by omega) k
  unfold kindO
  have e : Int.tmod (Int.tmod k 22 + 22) 22 = (roundI k 22 : Int) := this.2
  rw [e]; omega
/-- Objects as they are filled. -/
def blankO (x : Oj) : Ob := ⟨kindO x.kind, List.replicate x.l.length 2⟩
def blankL (xs : List Oj) : List Ob := xs.map blankO
def atsL (xs : List Oj) : List Int := (List.range xs.length).map (fun i => wordR 2 (atO (blankL xs) i : Nat) 0)
def saysM (ats : List Int) (f : Fd) : Int := if f.is = true ∧ 0 < ats.length then ats.getD (roundI f.to ats.length) 0 else if isHd f.w then 0 else f.w
def madeOb (ats : List Int) (x : Oj) : Ob := ⟨kindO x.kind, x.l.map (saysM ats)⟩
def madeL (xs : List Oj) : List Ob := xs.map (madeOb (atsL xs))
/-- One object, of which the first fields are set. -/
def partOb (ats : List Int) (x : Oj) (k : Nat) : Ob := ⟨kindO x.kind, (x.l.take k).map (saysM ats) ++ List.replicate (x.l.length - k) 2⟩
/-- Objects of which the first i are done, and k fields of the next one. -/
def partL (xs : List Oj) (i k : Nat) : List Ob := (xs.take i).map (madeOb (atsL xs)) ++ ((xs.drop i).take 1).map (fun x => partOb (atsL xs) x k) ++ (xs.drop (i + 1)).map blankO
theorem atsL_len (xs : List Oj) : (atsL xs).length = xs.length := by unfold atsL; simp
theorem atsL_get {xs : List Oj} {i : Nat} (h : i < xs.length) : (atsL xs).getD i 0 = wordR 2 (atO (blankL xs) i : Nat) 0 := by
  unfold atsL; rw [List.getD_eq_getElem?_getD, List.getElem?_map, List.getElem?_range h]; rfl
theorem atsL_u64 {xs : List Oj} : ∀ z ∈ atsL xs, U64 z := fun z hz => by
  unfold atsL at hz; obtain ⟨i, _, rfl⟩ := List.mem_map.1 hz; exact wordR_rng _ _ _
theorem says_u64 {ats : List Int} {f : Fd} (ha : ∀ z ∈ ats, U64 z) (hf : FOk f) : U64 (saysM ats f) := by
  unfold saysM
  split
  · rename_i h
    exact ha _ (getD_in_f (round_at h.2 f.to).1)
  · split
    · unfold U64; omega
    · exact hf.w
theorem sh_blank (x : Oj) : sh (blankO x) = (kindO x.kind, x.l.length) := by simp [sh, blankO]
theorem sh_made (ats : List Int) (x : Oj) : sh (madeOb ats x) = (kindO x.kind, x.l.length) := by simp [sh, madeOb]
theorem sh_part (ats : List Int) (x : Oj) {k : Nat} (h : k ≤ x.l.length) : sh (partOb ats x k) = (kindO x.kind, x.l.length) := by
  simp [sh, partOb]; omega
theorem small_used {xs : List Oj} (hn : xs.length ≤ 60) (h : ∀ x ∈ xs, x.l.length ≤ 30) : usedL (blankL xs) ≤ 31 * xs.length := by
  unfold blankL
  clear hn
  induction xs with
  | nil => simp [usedL]
  | cons x l ih =>
    have h1 := h x List.mem_cons_self
    have h2 := ih (fun y hy => h y (List.mem_cons_of_mem _ hy))
    simp only [List.map_cons, usedL, blankO, List.length_replicate, List.length_cons]
    omega
theorem says_head {xs : List Oj} (hu : usedL (blankL xs) ≤ 1099511627776) {f : Fd} : isHd (saysM (atsL xs) f) = false := by
  unfold saysM
  split
  · rename_i h
    have hr := (round_at h.2 f.to).1
    rw [atsL_len] at hr
    rw [atsL_len, atsL_get hr]
    have h2 := used_take_le (blankL xs) (roundI f.to xs.length)
    unfold isHd
    rw [ptr_of (by omega)]; rfl
  · split
    · decide
    · rename_i h; simpa using h
theorem part_split {xs : List Oj} {i : Nat} (h : i < xs.length) (k : Nat) : partL xs i k = (xs.take i).map (madeOb (atsL xs)) ++ (partOb (atsL xs) (xs.getD i default) k :: (xs.drop (i + 1)).map blankO) := by
  unfold partL
  have e : (xs.drop i).take 1 = [xs.getD i default] := by
    rw [List.drop_eq_getElem_cons h, List.getD_eq_getElem?_getD, List.getElem?_eq_getElem h]; rfl
  rw [e, List.append_assoc]; rfl
theorem part_get {xs : List Oj} {i : Nat} (h : i < xs.length) (k : Nat) : (partL xs i k).getD i default = partOb (atsL xs) (xs.getD i default) k := by
  rw [part_split h, List.getD_eq_getElem?_getD, List.getElem?_append_right (by simp; omega)]
  simp [Nat.min_eq_left (Nat.le_of_lt h)]
theorem part_len (xs : List Oj) {i : Nat} (h : i < xs.length) (k : Nat) : (partL xs i k).length = xs.length := by
  rw [part_split h]; simp; omega
theorem part_sh {xs : List Oj} {i k : Nat} (h : i < xs.length) (hk : k ≤ (xs.getD i default).l.length) : (partL xs i k).map sh = (blankL xs).map sh := by
  rw [part_split h]
  unfold blankL
  have e : xs = xs.take i ++ (xs.getD i default :: xs.drop (i + 1)) := by
    conv => lhs; rw [← List.take_append_drop i xs, List.drop_eq_getElem_cons h]
    rw [List.getD_eq_getElem?_getD, List.getElem?_eq_getElem h]; rfl
  conv => rhs; rw [e]
  simp only [List.map_append, List.map_cons, List.map_map]
  congr 1
  · apply List.map_congr_left; intro x _; simp [Function.comp, sh_made, sh_blank]
  · rw [sh_part _ _ hk, sh_blank]
theorem part_next {xs : List Oj} {i : Nat} (h : i < xs.length) : partL xs i (xs.getD i default).l.length = partL xs (i + 1) 0 := by
  rw [part_split h]
  have e1 : partOb (atsL xs) (xs.getD i default) (xs.getD i default).l.length = madeOb (atsL xs) (xs.getD i default) := by simp [partOb, madeOb]
  rw [e1]
  unfold partL
  have e2 : (xs.take (i + 1)).map (madeOb (atsL xs)) = (xs.take i).map (madeOb (atsL xs)) ++ [madeOb (atsL xs) (xs.getD i default)] := by
    rw [List.take_succ_eq_append_getElem h, List.map_append, List.getD_eq_getElem?_getD, List.getElem?_eq_getElem h]; rfl
  rw [e2]
  have e3 : ((xs.drop (i + 1)).take 1).map (fun x => partOb (atsL xs) x 0) ++ (xs.drop (i + 1 + 1)).map blankO = (xs.drop (i + 1)).map blankO := by
    cases hd : xs.drop (i + 1) with
    | nil =>
      have : xs.drop (i + 1 + 1) = [] := by rw [← List.drop_drop, hd]; rfl
      rw [this]; rfl
    | cons y l =>
      have : xs.drop (i + 1 + 1) = l := by rw [← List.drop_drop, hd]; rfl
      rw [this]
      simp [partOb, blankO]
  rw [List.append_assoc, List.append_assoc, e3]; rfl
theorem part_zero (xs : List Oj) : partL xs 0 0 = blankL xs := by
  unfold partL blankL
  cases xs with
  | nil => rfl
  | cons x l => simp [partOb, blankO]
theorem part_all (xs : List Oj) : partL xs xs.length 0 = madeL xs := by
  unfold partL madeL
  simp
theorem find_part {xs : List Oj} {i k : Nat} (h : i < xs.length) (hk : k ≤ (xs.getD i default).l.length) (hu : usedL (blankL xs) ≤ 1099511627776) : findM (partL xs i k) ((atsL xs).getD i 0) = some i := by
  rw [sh_find (part_sh h hk), atsL_get h]
  exact find_ptr (by unfold blankL; simpa using h) hu
theorem part_set {xs : List Oj} {i k : Nat} (h : i < xs.length) (hk : k < (xs.getD i default).l.length) (hu : usedL (blankL xs) ≤ 1099511627776) :
    setM (partL xs i k) ((atsL xs).getD i 0) 0 k (saysM (atsL xs) ((xs.getD i default).l.getD k default)) = (partL xs i (k + 1), 0) := by
  have hf : fieldM (partL xs i k) ((atsL xs).getD i 0) 0 k = ((i : Int), 0) := by
    unfold fieldM
    rw [find_part h (by omega) hu]
    simp only
    rw [if_neg (by simp), if_neg]
    rw [part_get h]
    have : (partOb (atsL xs) (xs.getD i default) k).f.length = (xs.getD i default).l.length := by simp [partOb]; omega
    rw [this]; omega
  unfold setM
  rw [hf]
  simp only [ne_eq, not_true_eq_false, if_false, Int.toNat_natCast]
  have h8 := says_head hu (f := (xs.getD i default).l.getD k default)
  unfold isHd at h8
  rw [if_neg (by simpa using h8), part_get h]
  have e : setF (partOb (atsL xs) (xs.getD i default) k) k (saysM (atsL xs) ((xs.getD i default).l.getD k default)) = partOb (atsL xs) (xs.getD i default) (k + 1) := by
    unfold setF partOb
    simp only [Ob.mk.injEq, true_and]
    have hl : ((List.take k (xs.getD i default).l).map (saysM (atsL xs))).length = k := by rw [List.length_map, List.length_take]; omega
    rw [List.set_append_right _ _ (by omega), hl, Nat.sub_self, List.take_succ_eq_append_getElem hk, List.map_append, List.append_assoc]
    congr 1
    obtain ⟨m, hm⟩ : ∃ m, (xs.getD i default).l.length - k = m + 1 := ⟨(xs.getD i default).l.length - k - 1, by omega⟩
    rw [hm, List.replicate_succ, List.set_cons_zero, show (xs.getD i default).l.length - (k + 1) = m by omega, List.getD_eq_getElem?_getD, List.getElem?_eq_getElem hk]
    rfl
  rw [e]
  congr 1
  rw [part_split h, part_split h, List.set_append_right _ _ (by rw [List.length_map, List.length_take]; omega)]
  simp [Nat.min_eq_left (Nat.le_of_lt h)]
theorem blank_ok (xs : List Oj) : OsOk (blankL xs) := by
  unfold blankL
  refine ⟨fun x hx => ?_, fun x hx z hz => ?_, fun x hx z hz => ?_⟩ <;> obtain ⟨y, _, rfl⟩ := List.mem_map.1 hx
  · exact kindO_rng _
  · rw [List.eq_of_mem_replicate hz]; unfold U64; omega
  · rw [List.eq_of_mem_replicate hz]; decide
end Go.Proofs.Ythgkonjglappjab
