/-
  Mathematics: what hangs on words, told without places; a collection changes nothing of it.
-/
import Derived.Test.YthgkonjglappjaaU15
set_option linter.unusedVariables false
set_option linter.unusedSimpArgs false
set_option maxRecDepth 100000
namespace Go.Proofs.Ythgkonjglappjaa
open Go.RowKit

/-- A word is told: what was put out, what was met. -/
def tellS (os : List Ob) (st : List Int × List Int) (z : Int) : List Int × List Int :=
  match findM os z with
  | none => (st.1 ++ [1, z], st.2)
  | some _ => if z ∈ st.2 then (st.1 ++ [(2 : Int), ((st.2.idxOf z : Nat) : Int)], st.2) else (st.1 ++ [(2 : Int), ((st.2.length : Nat) : Int)], st.2 ++ [z])
/-- An object that was met is told. -/
def objS (os : List Ob) (st : List Int × List Int) (p : Int) : List Int × List Int :=
  match findM os p with
  | none => st
  | some k => (os.getD k default).f.foldl (tellS os) (st.1 ++ [(3 : Int), (os.getD k default).kind, (((os.getD k default).f.length : Nat) : Int)], st.2)
def runS (os : List Ob) : Nat → Nat → List Int × List Int → List Int × List Int
  | 0, _, st => st
  | f + 1, i, st => if i < st.2.length then runS os f (i + 1) (objS os st (st.2.getD i 0)) else st
def shapeM (os : List Ob) (rs : List Int) (fuel : Nat) : List Int := (runS os fuel 0 (rs.foldl (tellS os) ([], []))).1
theorem runS_end (os : List Ob) {f i : Nat} {st : List Int × List Int} (h : st.2.length ≤ i) : runS os f i st = st := by
  cases f with
  | zero => rfl
  | succ f => rw [runS, if_neg (by omega)]
theorem runS_step (os : List Ob) {f i : Nat} {st : List Int × List Int} (hf : 0 < f) (h : i < st.2.length) : runS os f i st = runS os (f - 1) (i + 1) (objS os st (st.2.getD i 0)) := by
  obtain ⟨g, rfl⟩ : ∃ g, f = g + 1 := ⟨f - 1, by omega⟩
  rw [runS, if_pos h]; rfl
/-- What is met are objects, each once. -/
structure QOk (os : List Ob) (q : List Int) : Prop where
  nd : q.Nodup
  u : ∀ z ∈ q, U64 z
  fd : ∀ z ∈ q, ∃ k, findM os z = some k
theorem QOk.nil (os : List Ob) : QOk os [] := ⟨List.nodup_nil, fun z hz => (by cases hz), fun z hz => (by cases hz)⟩
theorem pigeon : ∀ (n : Nat) (l : List Nat), l.Nodup → (∀ x ∈ l, x < n) → l.length ≤ n
  | 0, l, _, h => by
    cases l with
    | nil => exact Nat.le_refl _
    | cons x _ => exact absurd (h x List.mem_cons_self) (by omega)
  | n + 1, l, hn, h => by
    by_cases hm : n ∈ l
    · have h1 := pigeon n (l.erase n) (hn.erase n) (fun x hx => by
        have hx' := (List.Nodup.mem_erase_iff hn).1 hx
        have := h x hx'.2
        have := hx'.1
        omega)
      rw [List.length_erase_of_mem hm] at h1
      omega
    · have := pigeon n l hn (fun x hx => by
        have := h x hx
        have : x ≠ n := fun e => hm (e ▸ hx)
        omega)
      omega
theorem QOk.len {os : List Ob} {q : List Int} (h : QOk os q) : q.length ≤ os.length := by
  have h1 : (q.map (fun z => (findM os z).getD 0)).length ≤ os.length := by
    refine pigeon _ _ ?_ ?_
    · refine List.Pairwise.map _ ?_ (List.Pairwise.and_mem.1 h.nd)
      rintro x y ⟨hx, hy, hne⟩ e
      obtain ⟨k, hk⟩ := h.fd x hx
      obtain ⟨j, hj⟩ := h.fd y hy
      rw [hk, hj] at e
      simp only [Option.getD_some] at e
      subst e
      exact hne (find_same (h.u x hx) (h.u y hy) hk hj)
    · intro x hx
      obtain ⟨z, hz, rfl⟩ := List.mem_map.1 hx
      obtain ⟨k, hk⟩ := h.fd z hz
      rw [hk]; exact (findM_lt hk).1
  simpa using h1
theorem tell_ok {os : List Ob} {st : List Int × List Int} {z : Int} (h : QOk os st.2) (hz : U64 z) : QOk os (tellS os st z).2 := by
  unfold tellS
  cases hf : findM os z with
  | none => exact h
  | some k =>
    simp only
    split
    · exact h
    · rename_i hm
      refine ⟨?_, fun y hy => ?_, fun y hy => ?_⟩
      · exact List.nodup_append.2 ⟨h.nd, by simp, fun a ha b hb e => by simp at hb; subst hb; subst e; exact hm ha⟩
      all_goals rcases List.mem_append.1 hy with hy | hy
      · exact h.u y hy
      · obtain rfl := List.mem_singleton.1 hy; exact hz
      · exact h.fd y hy
      · obtain rfl := List.mem_singleton.1 hy; exact ⟨k, hf⟩
theorem tell_len {os : List Ob} {st : List Int × List Int} {z : Int} : (tellS os st z).1.length = st.1.length + 2 ∧ st.2.length ≤ (tellS os st z).2.length := by
  unfold tellS
  cases findM os z with
  | none => simp
  | some k => simp only; split <;> simp
theorem fold_ok {os : List Ob} {l : List Int} : ∀ {st : List Int × List Int}, QOk os st.2 → (∀ z ∈ l, U64 z) → QOk os (l.foldl (tellS os) st).2 := by
  induction l with
  | nil => intro st h _; exact h
  | cons z l ih => intro st h hu; exact ih (tell_ok h (hu z List.mem_cons_self)) (fun y hy => hu y (List.mem_cons_of_mem _ hy))

/-! ### a collection -/
/-- Words that are as they should be: none says a place that is not there; what is said lives. -/
def Fine (os : List Ob) (rs : List Int) (z : Int) : Prop := U64 z ∧ Whole os z ∧ ∀ k, findM os z = some k → Lv os rs k
theorem idx_map {f : Int → Int} {z : Int} : ∀ {l : List Int}, (∀ x ∈ l, f x = f z → x = z) → (l.map f).idxOf (f z) = l.idxOf z
  | [], _ => rfl
  | x :: l, h => by
    have ih := idx_map (l := l) (fun y hy => h y (List.mem_cons_of_mem _ hy))
    rw [List.map_cons, List.idxOf_cons, List.idxOf_cons, ih]
    by_cases e : x = z
    · subst e; simp
    · have e2 : f x ≠ f z := fun e' => e (h x List.mem_cons_self e')
      have e3 : (x == z) = false := by simpa using e
      have e4 : (f x == f z) = false := by simpa using e2
      rw [e3, e4]
theorem mem_map_inj {f : Int → Int} {z : Int} {l : List Int} (h : ∀ x ∈ l, f x = f z → x = z) : f z ∈ l.map f ↔ z ∈ l := by
  constructor
  · intro hm
    obtain ⟨x, hx, e⟩ := List.mem_map.1 hm
    rw [← h x hx e]; exact hx
  · exact fun hm => List.mem_map_of_mem hm
theorem toM_mono {os : List Ob} {l : List Bool} (hl : l.length = os.length) {i j : Nat} (hij : i ≤ j) (hj : j ≤ os.length) : toM os l i ≤ toM os l j := by
  induction j with
  | zero => obtain rfl : i = 0 := by omega
            exact Nat.le_refl _
  | succ j ih =>
    by_cases e : i = j + 1
    · rw [e]; exact Nat.le_refl _
    · have := ih (by omega) (by omega)
      rw [toM_succ (by omega) hl]; omega
theorem moved_none {os : List Ob} {rs : List Int} {z : Int} (h : findM os z = none) (hw : Whole os z) : movedM os (lvL os rs) z = z ∧ findM (collO os (lvL os rs)) z = none := by
  refine ⟨by unfold movedM; rw [h], ?_⟩
  rcases hw with ⟨k, hk⟩ | hw
  · rw [h] at hk; cases hk
  · unfold findM; rw [if_neg hw]
theorem toM_inj {os : List Ob} {l : List Bool} (hl : l.length = os.length) {i j : Nat} (hi : i < os.length) (hj : j < os.length) (bi : l.getD i false = true) (bj : l.getD j false = true) (e : toM os l i = toM os l j) : i = j := by
  rcases Nat.lt_trichotomy i j with h | h | h
  · have h1 := toM_mono hl (i := i + 1) (j := j) h (by omega)
    rw [toM_succ hi hl, bi] at h1
    simp at h1; omega
  · exact h
  · have h1 := toM_mono hl (i := j + 1) (j := i) h (by omega)
    rw [toM_succ hj hl, bj] at h1
    simp at h1; omega
section
variable {os : List Ob} {rs : List Int} (hu : usedL os ≤ 1099511627776)
include hu
theorem moved_some {z : Int} {k : Nat} (h : findM os z = some k) (hk : Lv os rs k) : movedM os (lvL os rs) z = wordR 2 (toM os (lvL os rs) k : Nat) 0 ∧ findM (collO os (lvL os rs)) (movedM os (lvL os rs) z) = some (cntM os (lvL os rs) k) ∧ (collO os (lvL os rs)).getD (cntM os (lvL os rs) k) default = movOb os (lvL os rs) (os.getD k default) := by
  have e : movedM os (lvL os rs) z = wordR 2 (toM os (lvL os rs) k : Nat) 0 := by unfold movedM; rw [h]; simp only [lvL_iff.2 hk, if_true]
  refine ⟨e, ?_, (coll_at hk.lt (lvL_length os rs) (lvL_iff.2 hk)).2.1⟩
  rw [e]
  exact find_coll hu (lvL_length os rs) hk.lt (lvL_iff.2 hk)
theorem moved_inj {x z : Int} (hx : U64 x) (hz : U64 z) {i j : Nat} (hi : findM os x = some i) (hj : findM os z = some j) (li : Lv os rs i) (lj : Lv os rs j) (e : movedM os (lvL os rs) x = movedM os (lvL os rs) z) : x = z := by
  have e1 := (moved_some hu hi li).2.1
  have e2 := (moved_some hu hj lj).2.1
  rw [(moved_some hu hi li).1, (moved_some hu hj lj).1] at e
  have hl := lvL_length os rs
  have b1 := toM_le hl (i := i) (Nat.le_of_lt li.lt)
  have b2 := toM_le hl (i := j) (Nat.le_of_lt lj.lt)
  have c1 := at_lt li.lt
  have c2 := at_lt lj.lt
  have d1 := ptr_of (n := toM os (lvL os rs) i) (by omega)
  have d2 := ptr_of (n := toM os (lvL os rs) j) (by omega)
  rw [e, d2] at d1
  have : toM os (lvL os rs) i = toM os (lvL os rs) j := by
    have := congrArg (fun t : Int × Int × Int => t.2.1) d1
    simp only at this
    omega
  obtain rfl := toM_inj hl li.lt lj.lt (lvL_iff.2 li) (lvL_iff.2 lj) this
  exact find_same hx hz hi hj
/-- Both tell the same. -/
def Tw (os : List Ob) (rs : List Int) (a b : List Int × List Int) : Prop := b.1 = a.1 ∧ b.2 = a.2.map (movedM os (lvL os rs)) ∧ ∀ z ∈ a.2, U64 z ∧ ∃ k, findM os z = some k ∧ Lv os rs k
theorem tw_tell {a b : List Int × List Int} (h : Tw os rs a b) {z : Int} (hz : Fine os rs z) : Tw os rs (tellS os a z) (tellS (collO os (lvL os rs)) b (movedM os (lvL os rs) z)) := by
  obtain ⟨h1, h2, h3⟩ := h
  obtain ⟨u, wh, lv⟩ := hz
  cases hf : findM os z with
  | none =>
    obtain ⟨e1, e2⟩ := moved_none (rs := rs) hf wh
    unfold tellS
    rw [e1, hf, e2]
    exact ⟨by simp only [h1], h2, h3⟩
  | some k =>
    have lk := lv k hf
    obtain ⟨_, e2, _⟩ := moved_some hu hf lk
    have inj : ∀ x ∈ a.2, movedM os (lvL os rs) x = movedM os (lvL os rs) z → x = z := fun x hx e => by
      obtain ⟨hxu, i, hi, li⟩ := h3 x hx
      exact moved_inj hu hxu u hi hf li lk e
    unfold tellS
    rw [hf, e2]
    simp only
    have em : movedM os (lvL os rs) z ∈ b.2 ↔ z ∈ a.2 := by rw [h2]; exact mem_map_inj inj
    by_cases hm : z ∈ a.2
    · rw [if_pos hm, if_pos (em.2 hm)]
      refine ⟨?_, h2, h3⟩
      simp only
      rw [h1, h2, idx_map inj]
    · rw [if_neg hm, if_neg (fun h => hm (em.1 h))]
      refine ⟨?_, ?_, fun y hy => ?_⟩
      · simp only; rw [h1, h2, List.length_map]
      · simp only; rw [h2, List.map_append]; rfl
      · rcases List.mem_append.1 hy with hy | hy
        · exact h3 y hy
        · obtain rfl := List.mem_singleton.1 hy; exact ⟨u, k, hf, lk⟩
theorem tw_fold {l : List Int} : ∀ {a b : List Int × List Int}, Tw os rs a b → (∀ z ∈ l, Fine os rs z) → Tw os rs (l.foldl (tellS os) a) ((l.map (movedM os (lvL os rs))).foldl (tellS (collO os (lvL os rs))) b) := by
  induction l with
  | nil => intro a b h _; exact h
  | cons z l ih => intro a b h hf; exact ih (tw_tell hu h (hf z List.mem_cons_self)) (fun y hy => hf y (List.mem_cons_of_mem _ hy))
theorem tw_run (hfs : ∀ x ∈ os, ∀ z ∈ x.f, U64 z ∧ Whole os z) : ∀ (f i : Nat) {a b : List Int × List Int}, Tw os rs a b → Tw os rs (runS os f i a) (runS (collO os (lvL os rs)) f i b)
  | 0, _, a, b, h => h
  | f + 1, i, a, b, h => by
    have hl : b.2.length = a.2.length := by rw [h.2.1, List.length_map]
    rw [runS, runS, hl]
    by_cases hi : i < a.2.length
    · rw [if_pos hi, if_pos hi]
      refine tw_run hfs f (i + 1) ?_
      have hp : a.2.getD i 0 ∈ a.2 := getD_in_f hi
      have hpb : b.2.getD i 0 = movedM os (lvL os rs) (a.2.getD i 0) := by
        rw [h.2.1, List.getD_eq_getElem?_getD, List.getElem?_map, List.getElem?_eq_getElem hi, List.getD_eq_getElem?_getD, List.getElem?_eq_getElem hi]; rfl
      obtain ⟨_, k, hk, lk⟩ := h.2.2 _ hp
      obtain ⟨_, e2, e3⟩ := moved_some hu hk lk
      unfold objS
      rw [hpb, hk, e2]
      simp only
      rw [e3]
      have ef : (movOb os (lvL os rs) (os.getD k default)).f = (os.getD k default).f.map (movedM os (lvL os rs)) := rfl
      have ek : (movOb os (lvL os rs) (os.getD k default)).kind = (os.getD k default).kind := rfl
      rw [ef, ek, List.length_map]
      refine tw_fold hu ⟨by simp only [h.1], h.2.1, h.2.2⟩ (fun z hz => ?_)
      obtain ⟨zu, zw⟩ := hfs _ (getD_in_os lk.lt) z hz
      exact ⟨zu, zw, fun j hj => .step lk hz hj⟩
    · rw [if_neg hi, if_neg hi]; exact h
theorem shape_coll (hfs : ∀ x ∈ os, ∀ z ∈ x.f, U64 z ∧ Whole os z) (hr : ∀ z ∈ rs, U64 z ∧ Whole os z) (fuel : Nat) : shapeM (collO os (lvL os rs)) (collR os (lvL os rs) rs) fuel = shapeM os rs fuel := by
  unfold shapeM
  have h0 : Tw os rs (([], []) : List Int × List Int) ([], []) := ⟨rfl, rfl, fun z hz => by cases hz⟩
  exact (tw_run hu hfs fuel 0 (tw_fold hu h0 (fun z hz => ⟨(hr z hz).1, (hr z hz).2, fun k hk => .root hz hk⟩))).1
end
end Go.Proofs.Ythgkonjglappjaa
