/-
  Walks, of the document's heap: Set.
-/
import Derived.Test.YtdekkieajffblaaW22
import Derived.Test.YtdekkieajffblaaW21
import Derived.Deep.AppendLies
import Derived.Laws.AppendOwnNone
import Derived.Deep.RegionHeld3
import Derived.BigQuiet
import Derived.Deep.QuietTactic
set_option linter.unusedVariables false
set_option linter.unusedSimpArgs false
namespace Go.Proofs.Ytdekkieajffblaa
open Go.RowKit

section
variable {P : Program} {ops : Array Oper} {Q : Exit → Act → World → Prop} {md : Region.Mode} {S : World → Prop} {σ : Type} {L : σ → Array Bool} {m : σ → Nat} {Inv : σ → Act → World → Prop}

/-- Whichever of 'rs' comes up in state s, a state behind it is reached. -/
def Steps (P : Program) (ops : Array Oper) (Q : Exit → Act → World → Prop) (S : World → Prop) (L : σ → Array Bool) (m : σ → Nat) (Inv : σ → Act → World → Prop) (s : σ) (a : Act) (w : World) (rs : List Nat) : Prop :=
  ∀ i ∈ rs, wpOp P ops Q i (fun a' w' => S w' ∧ ∃ s', L s' = (L s).setIfInBounds i true ∧ m s = m s' + 1 ∧ Inv s' a' w') a w
theorem Steps.nil {s : σ} {a : Act} {w : World} : Steps P ops Q S L m Inv s a w [] := fun _ h => by cases h
theorem Steps.cons {s : σ} {a : Act} {w : World} {i : Nat} {o : Oper} {rs : List Nat} (s' : σ) (ho : ops[i]? = some o) (hL : L s' = (L s).setIfInBounds i true) (hm : m s = m s' + 1)
    (h : ∀ K' : Act → World → Prop, Shut (∀ a w, S w → Inv s' a w → K' a w) → if Region.wanted o (yielded ops a.tmps) = true then Oper.wp P o a w K' Q else K' (a.put o.dst undef) w)
    (hs : Steps P ops Q S L m Inv s a w rs) : Steps P ops Q S L m Inv s a w (i :: rs) := fun j hj => by
  rcases List.mem_cons.1 hj with rfl | hj
  · exact wpOp_step ho (fun K' hK => h K' (fun a w hS hW => hK a w ⟨hS, s', hL, hm, hW⟩))
  · exact hs j hj
theorem wpAnyH_inv (L : σ → Array Bool) (m : σ → Nat) (Inv : σ → Act → World → Prop) (base : Nat)
    (h : ∀ s a w, Inv s a w → (m s = 0 ∧ wpAnyH P md ops Q S base (L s) a w) ∨ (∃ rs, 0 < m s ∧ Region.ready md ops (L s) = rs ∧ rs ≠ [] ∧ Steps P ops Q S L m Inv s a w rs)) :
    ∀ n s a w, m s = n → Inv s a w → wpAnyH P md ops Q S (base + n) (L s) a w
  | 0, s, a, w, hn, hI => by
    rcases h s a w hI with ⟨_, h1⟩ | ⟨rs, h1, _⟩
    · exact h1
    · omega
  | n + 1, s, a, w, hn, hI => by
    rcases h s a w hI with ⟨h0, _⟩ | ⟨rs, _, h1, h2, h3⟩
    · omega
    · refine wpAnyH_all h1 h2 (fun i hi => wpOp_mono (fun a' w' => ?_) (h3 i hi))
      rintro ⟨hS, s', hL, hm, hI'⟩
      refine ⟨hS, ?_⟩
      rw [← hL]
      exact wpAnyH_inv L m Inv base h n s' a' w' (by omega) hI'
theorem wpAnyH_from (L : σ → Array Bool) (m : σ → Nat) (Inv : Act → σ → Act → World → Prop) (base n : Nat) (s : σ) {a0 : Act} {w : World} (hn : m s = n) (h0 : Inv a0 s a0 w)
    (h : ∀ s a w, Inv a0 s a w → (m s = 0 ∧ wpAnyH P md ops Q S base (L s) a w) ∨ (∃ rs, 0 < m s ∧ Region.ready md ops (L s) = rs ∧ rs ≠ [] ∧ Steps P ops Q S L m (Inv a0) s a w rs)) :
    wpAnyH P md ops Q S (base + n) (L s) a0 w := wpAnyH_inv L m (Inv a0) base h n s a0 w hn h0
end

end Go.Proofs.Ytdekkieajffblaa

set_option linter.unusedVariables false
set_option linter.unusedSimpArgs false
namespace Go.Proofs.Ytdekkieajffblaa
open Go.RowKit

/-- An object: its type, its fields. -/
structure Ob where
  kind : Int
  f : List Int
deriving Inhabited
/-- Where a row of words lies. -/
abbrev Sl := Option Addr × Nat × Nat
/-- How many words objects have. -/
def usedL : List Ob → Nat
  | [] => 0
  | x :: l => 1 + x.f.length + usedL l
theorem usedL_append (a b : List Ob) : usedL (a ++ b) = usedL a + usedL b := by
  induction a with
  | nil => simp [usedL]
  | cons x l ih => simp only [List.cons_append, usedL, ih]; omega
/-- The cells of an object at a place. -/
def oc (at_ : Nat) (x : Ob × Sl) : List Value := [.int .i64 at_, .int .i64 x.1.kind, .slice x.2.1 x.2.2.1 x.2.2.2]
def ocs (at_ : Nat) : List (Ob × Sl) → List Value
  | [] => []
  | x :: l => oc at_ x ++ ocs (at_ + (1 + x.1.f.length)) l
theorem ocs_append (a : Nat) (l r : List (Ob × Sl)) : ocs a (l ++ r) = ocs a l ++ ocs (a + usedL (l.map Prod.fst)) r := by
  induction l generalizing a with
  | nil => simp [ocs, usedL]
  | cons x l ih =>
    simp only [List.cons_append, ocs, ih, List.map_cons, usedL, List.append_assoc]
    rw [show a + (1 + x.1.f.length) + usedL (l.map Prod.fst) = a + (1 + x.1.f.length + usedL (l.map Prod.fst)) by omega]
theorem ocs_length (a : Nat) (l : List (Ob × Sl)) : (ocs a l).length = l.length * 3 := by
  induction l generalizing a with
  | nil => rfl
  | cons x l ih => simp only [ocs, List.length_append, ih, List.length_cons]; simp [oc]; omega
/-- Where the object number i lies. -/
def atI (l : List (Ob × Sl)) (i : Nat) : Nat := usedL ((l.take i).map Prod.fst)
theorem ocs_get {l : List (Ob × Sl)} {i j : Nat} (hi : i < l.length) (hj : j < 3) : (ocs 0 l)[i * 3 + j]? = (oc (atI l i) (l.getD i default))[j]? := by
  have h1 : l = l.take i ++ l.drop i := (List.take_append_drop i l).symm
  have h2 : l.drop i = l.getD i default :: l.drop (i + 1) := by
    rw [List.drop_eq_getElem_cons hi, List.getD_eq_getElem?_getD, List.getElem?_eq_getElem hi]; rfl
  have h3 : ocs 0 l = ocs 0 (l.take i) ++ (oc (atI l i) (l.getD i default) ++ ocs (atI l i + (1 + (l.getD i default).1.f.length)) (l.drop (i + 1))) := by
    conv => lhs; rw [h1, ocs_append, h2]
    simp only [ocs, Nat.zero_add]
    rfl
  have h4 : (ocs 0 (l.take i)).length = i * 3 := by rw [ocs_length, List.length_take, Nat.min_eq_left (by omega)]
  rw [h3, List.getElem?_append_right (by omega), h4, List.getElem?_append_left (by simp [oc]; omega)]
  congr 1; omega
/-- Words in a row. -/
def uz (l : List Int) : List Value := l.map (Value.int .u64)
theorem uz_append (a b : List Int) : uz (a ++ b) = uz a ++ uz b := by simp [uz]
theorem uz_length (l : List Int) : (uz l).length = l.length := by simp [uz]
theorem uz_get {l : List Int} {i : Nat} (h : i < l.length) : (uz l)[i]? = some (.int .u64 (l.getD i 0)) := by
  simp [uz, List.getElem?_map, List.getElem?_eq_getElem h, List.getD_eq_getElem?_getD]
/-- Only some blocks, and new ones, are turned. -/
structure Mod (F : Nat → Prop) (w w' : World) : Prop where
  os : w'.os = w.os
  tape : w'.tape = w.tape
  output : w'.output = w.output
  size : w.heap.size ≤ w'.heap.size
  block : ∀ b, b < w.heap.size → ¬ F b → w'.heap[b]? = w.heap[b]?
section
variable {F G : Nat → Prop} {w w1 w2 : World}
theorem Mod.refl (F : Nat → Prop) (w : World) : Mod F w w := ⟨rfl, rfl, rfl, Nat.le_refl _, fun _ _ _ => rfl⟩
theorem Mod.of_below (F : Nat → Prop) (h : Below w.heap.size w w1) : Mod F w w1 := ⟨h.os, h.tape, h.output, h.size, fun b hb _ => h.block b hb⟩
theorem Mod.trans (h : Mod F w w1) (k : Mod G w1 w2) (hG : ∀ b, b < w.heap.size → G b → F b) : Mod F w w2 :=
  ⟨k.os.trans h.os, k.tape.trans h.tape, k.output.trans h.output, Nat.le_trans h.size k.size, fun b hb hF => (k.block b (Nat.lt_of_lt_of_le hb h.size) (fun e => hF (hG b hb e))).trans (h.block b hb hF)⟩
theorem Mod.mono (h : Mod F w w1) (hG : ∀ b, b < w.heap.size → F b → G b) : Mod G w w1 := ⟨h.os, h.tape, h.output, h.size, fun b hb hg => h.block b hb (fun e => hg (hG b hb e))⟩
theorem Mod.below (h : Mod F w w1) {B : Nat} (hF : ∀ b, F b → B ≤ b) (hB : B ≤ w.heap.size) : Below B w w1 := ⟨h.os, h.tape, h.output, h.size, fun b hb => h.block b (by omega) (fun e => by have := hF b e; omega)⟩
theorem Mod.setCell (h : Mod F w w1) {p : Addr} (hp : F p.block ∨ w.heap.size ≤ p.block) (u : Value) : Mod F w (w1.setCell p u) :=
  ⟨h.os, h.tape, h.output, by have := h.size; simp [World.setCell]; omega, fun b hb hF => (Below.heap_setCell _ _ _ _ (fun e => by subst e; rcases hp with h' | h'; exact hF h'; omega)).trans (h.block b hb hF)⟩
theorem Mod.grown {row : Option Nat} (h : Mod F w w1) (hg : w1.grownBy w2 row) (hr : ∀ k, row = some k → F k ∨ w.heap.size ≤ k) : Mod F w w2 :=
  ⟨hg.os.trans h.os, hg.tape.trans h.tape, hg.output.trans h.output, Nat.le_trans h.size hg.size, fun b hb hF => (hg.block b (Nat.lt_of_lt_of_le hb h.size) (fun e => by rcases hr b e.symm with h' | h'; exact hF h'; omega)).trans (h.block b hb hF)⟩
end
/-- The blocks that it owns. -/
def RF (g : Nat) (vL : Value) (ls : List (Ob × Sl)) : Nat → Prop := fun b => b = g ∨ vL.ownBlock = some b ∨ ∃ x ∈ ls, ∃ a, x.2.1 = some a ∧ a.block = b
theorem own_at {w w' : World} {base : Nat} {e : TypeId} {k : Nat} {v : Value} {n : Nat} {xs : List Value} (h : w.ownsRow base e k v n xs) (hb : ∀ b, v.ownBlock = some b → w'.heap[b]? = w.heap[b]?) : w'.ownsRow base e k v n xs := by
  refine ⟨h.1, ?_⟩
  rcases h.2 with h0 | ⟨g, cap, cur, h1, h2, h3, h4⟩
  · exact .inl h0
  · exact .inr ⟨g, cap, cur, h1, h2, (hb g (by rw [h1]; rfl)).trans h3, h4⟩
theorem getD_in_ob {l : List (Ob × Sl)} {i : Nat} (h : i < l.length) : l.getD i default ∈ l := by
  rw [List.getD_eq_getElem?_getD, List.getElem?_eq_getElem h]; exact List.getElem_mem h
end Go.Proofs.Ytdekkieajffblaa

set_option linter.unusedVariables false
set_option linter.unusedSimpArgs false
set_option maxRecDepth 100000
namespace Go.Proofs.Ytdekkieajffblaa
open Go.RowKit

def atO (os : List Ob) (i : Nat) : Nat := usedL (os.take i)
theorem atI_eq (ls : List (Ob × Sl)) (i : Nat) : atI ls i = atO (ls.map Prod.fst) i := by unfold atI atO; rw [List.map_take]
theorem getD_fst (ls : List (Ob × Sl)) (i : Nat) : (ls.getD i default).1 = (ls.map Prod.fst).getD i default := by
  rw [List.getD_eq_getElem?_getD, List.getD_eq_getElem?_getD, List.getElem?_map]
  cases h : ls[i]? <;> rfl
theorem used_last {os : List Ob} (h : 0 < os.length) : atO os (os.length - 1) + 1 + (os.getD (os.length - 1) default).f.length = usedL os := by
  have e : os = os.take (os.length - 1) ++ [os.getD (os.length - 1) default] := by
    conv => lhs; rw [← List.take_append_drop (os.length - 1) os]
    congr 1
    rw [List.drop_eq_getElem_cons (by omega), List.getD_eq_getElem?_getD, List.getElem?_eq_getElem (by omega)]
    rw [List.drop_eq_nil_of_le (by omega)]; rfl
  conv => rhs; rw [e, usedL_append]
  simp [usedL, atO]; omega
theorem used_take_le (os : List Ob) (i : Nat) : atO os i ≤ usedL os := by
  have : usedL os = usedL (os.take i) + usedL (os.drop i) := by rw [← usedL_append, List.take_append_drop]
  unfold atO; omega
theorem used_mem {os : List Ob} {x : Ob} (h : x ∈ os) : 1 + x.f.length ≤ usedL os := by
  induction os with
  | nil => cases h
  | cons y l ih =>
    rcases List.mem_cons.1 h with rfl | h
    · unfold usedL; omega
    · have := ih h; unfold usedL; omega
theorem len_le_used (os : List Ob) : os.length ≤ usedL os := by
  induction os with
  | nil => simp
  | cons x l ih => simp only [List.length_cons, usedL]; omega

theorem h2_on {w1 wx wy : World} {p : Nat} {a0 : Value} (h : wx.cell? ⟨p, 0, none⟩ = some a0 ∧ Below w1.heap.size w1 wx) (hb : Below wx.heap.size wx wy) : wy.cell? ⟨p, 0, none⟩ = some a0 ∧ Below w1.heap.size w1 wy := ⟨(hb.cell (p := ⟨p, 0, none⟩) (cell_lt h.1)).trans h.1, Bt h.2 hb⟩
theorem h2_bel {w1 wx : World} {p : Nat} {a0 : Value} (h : wx.cell? ⟨p, 0, none⟩ = some a0 ∧ Below w1.heap.size w1 wx) : Below w1.heap.size w1 wx := h.2
section
variable {B g : Nat} {N : Int} {vL : Value} {ls : List (Ob × Sl)}
end

/-- The first object at a place, from number i on. -/
def fnd (os : List Ob) (n : Int) (i : Nat) : Option Nat := if i < os.length then (if (atO os i : Int) = n then some i else fnd os n (i + 1)) else none
termination_by os.length - i
def findM (os : List Ob) (p : Int) : Option Nat := if (ofR p).1 = 2 then fnd os (ofR p).2.1 0 else none
def optI : Option Nat → Int
  | some i => i
  | none => -1
theorem fnd_lt {os : List Ob} {n : Int} {i j : Nat} (h : fnd os n i = some j) : j < os.length ∧ (atO os j : Int) = n := by
  induction hk : os.length - i generalizing i with
  | zero => rw [fnd, if_neg (by omega)] at h; cases h
  | succ k ih =>
    rw [fnd, if_pos (by omega)] at h
    split at h
    · injection h with h; subst h; exact ⟨by omega, by assumption⟩
    · exact ih h (by omega)
section
variable {B g : Nat} {N : Int} {vL : Value} {ls : List (Ob × Sl)}
end
end Go.Proofs.Ytdekkieajffblaa

set_option linter.unusedVariables false
set_option linter.unusedSimpArgs false
set_option maxRecDepth 100000
namespace Go.Proofs.Ytdekkieajffblaa
open Go.RowKit

/-- The number of the object that has the field, and what is wrong. -/
def fieldM (os : List Ob) (p kind i : Int) : Int × Int :=
  match findM os p with
  | none => (0, 70)
  | some n => if kind ≠ 0 ∧ (os.getD n default).kind ≠ kind then (0, 70) else if i < 0 ∨ ((os.getD n default).f.length : Int) ≤ i then (0, 2) else ((n : Int), 0)
def getM (os : List Ob) (p kind i : Int) : Int × Int :=
  if (fieldM os p kind i).2 = 0 then ((os.getD (fieldM os p kind i).1.toNat default).f.getD i.toNat 0, 0) else (0, (fieldM os p kind i).2)
theorem findM_lt {os : List Ob} {p : Int} {n : Nat} (h : findM os p = some n) : n < os.length ∧ (atO os n : Int) = (ofR p).2.1 := by
  unfold findM at h
  split at h
  · exact fnd_lt h
  · cases h
theorem fieldM_ok {os : List Ob} {p kind i : Int} (h : (fieldM os p kind i).2 = 0) : ∃ n : Nat, fieldM os p kind i = ((n : Int), 0) ∧ n < os.length ∧ findM os p = some n ∧ 0 ≤ i ∧ i < (os.getD n default).f.length := by
  unfold fieldM at h ⊢
  cases hf : findM os p with
  | none => rw [hf] at h; simp at h
  | some n =>
    rw [hf] at h
    simp only at h ⊢
    split at h
    · simp at h
    · rename_i h1
      split at h
      · simp at h
      · rename_i h2
        exact ⟨n, by rw [if_neg h1, if_neg h2], (findM_lt hf).1, rfl, by omega, by omega⟩
section
variable {B g : Nat} {N : Int} {vL : Value} {ls : List (Ob × Sl)}
end

section
variable {B g : Nat} {N : Int} {vL : Value} {ls : List (Ob × Sl)}
theorem owned_cell {w : World} {B : Nat} {e : TypeId} {v : Value} {l : List Int} (h : w.ownsRow B e 1 v l.length (uz l)) {i : Nat} (hi : i < l.length) :
    ∃ gr cap, v = .slice (some ⟨gr, 0, none⟩) l.length cap ∧ B ≤ gr ∧ l.length ≤ cap ∧ cap ≤ maxLen ∧ w.cell? ⟨gr, i, none⟩ = some (.int .u64 (l.getD i 0)) ∧ w.frozen? ⟨gr, i, none⟩ = false := by
  rcases h.2 with ⟨h0, h1⟩ | ⟨gr, cap, cur, h1, h2, h3, h4, h5, h6, h7⟩
  · omega
  · refine ⟨gr, cap, h1, h2, h4, h5, ?_, blk_free h3 i⟩
    rw [blk_cell h3]
    have : cur[i]? = (uz l)[i]? := by rw [← h7, List.getElem?_take, if_pos (by omega)]; simp
    rw [this, uz_get hi]
end
end Go.Proofs.Ytdekkieajffblaa

set_option linter.unusedVariables false
set_option linter.unusedSimpArgs false
set_option maxRecDepth 100000
namespace Go.Proofs.Ytdekkieajffblaa
open Go.RowKit

/-- An object with one field set. -/
def setF (x : Ob) (j : Nat) (z : Int) : Ob := { x with f := x.f.set j z }
def setM (os : List Ob) (p kind i z : Int) : List Ob × Int :=
  if (fieldM os p kind i).2 ≠ 0 then (os, (fieldM os p kind i).2)
  else if (ofR z).1 = 8 then (os, 1)
  else (os.set (fieldM os p kind i).1.toNat (setF (os.getD (fieldM os p kind i).1.toNat default) i.toNat z), 0)
theorem uset {w : World} {base : Nat} {e : TypeId} {g n cap : Nat} {l : List Int} (h : w.ownsRow base e 1 (.slice (some ⟨g, 0, none⟩) n cap) n (uz l)) {k : Nat} (z : Int) : (w.setCell ⟨g, k, none⟩ (.int .u64 z)).ownsRow base e 1 (.slice (some ⟨g, 0, none⟩) n cap) n (uz (l.set k z)) := by
  have e1 : uz (l.set k z) = (uz l).set k (.int .u64 z) := by simp [uz, List.map_set]
  rw [e1]
  refine ⟨by rw [List.length_set]; exact h.1, ?_⟩
  rcases h.2 with ⟨h0, _⟩ | ⟨g', cap', cur, h1, h2, h3, h4, h5, h6, h7⟩
  · cases h0
  · cases h1
    refine .inr ⟨g, cap, cur.setIfInBounds k (.int .u64 z), rfl, h2, blk_set (i := k) h3 _, h4, h5, by simpa using h6, ?_⟩
    rw [← h7, Array.toList_setIfInBounds, List.take_set]
theorem ocs_set (y : Ob × Sl) : ∀ (l : List (Ob × Sl)) (a n : Nat), n < l.length → y.1.kind = (l.getD n default).1.kind → y.1.f.length = (l.getD n default).1.f.length → y.2 = (l.getD n default).2 → ocs a (l.set n y) = ocs a l
  | [], _, _, h, _, _, _ => by simp at h
  | x :: l, a, 0, _, h1, h2, h3 => by
    simp only [List.getD_cons_zero] at h1 h2 h3
    simp only [List.set_cons_zero, ocs, oc, h1, h2, h3]
  | x :: l, a, n + 1, h, h1, h2, h3 => by
    simp only [List.getD_cons_succ] at h1 h2 h3
    simp only [List.set_cons_succ, ocs]
    rw [ocs_set y l _ n (by simpa using h) h1 h2 h3]
theorem used_set (y : Ob) : ∀ (l : List Ob) (n : Nat), n < l.length → y.f.length = (l.getD n default).f.length → usedL (l.set n y) = usedL l
  | [], _, h, _ => by simp at h
  | x :: l, 0, _, h2 => by simp only [List.getD_cons_zero] at h2; simp only [List.set_cons_zero, usedL, h2]
  | x :: l, n + 1, h, h2 => by
    simp only [List.getD_cons_succ] at h2
    simp only [List.set_cons_succ, usedL]
    rw [used_set y l n (by simpa using h) h2]
section
variable {B g : Nat} {N : Int} {vL : Value} {ls : List (Ob × Sl)}
theorem mem_set_cases {α : Type} {l : List α} {n : Nat} {y x : α} (h : x ∈ l.set n y) : x = y ∨ ∃ m, ∃ hm : m < l.length, m ≠ n ∧ x = l[m] := by
  obtain ⟨m, hm, rfl⟩ := List.mem_iff_getElem.1 h
  rw [List.getElem_set]
  by_cases e : n = m
  · left; rw [if_pos e]
  · right; rw [if_neg e]; exact ⟨m, by simpa using hm, fun e' => e e'.symm, rfl⟩
end
end Go.Proofs.Ytdekkieajffblaa
