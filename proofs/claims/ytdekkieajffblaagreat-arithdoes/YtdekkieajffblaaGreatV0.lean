/-
  Objects one behind the other, as the document's heap keeps them, and how they lie in memory.
-/
import Derived.Test.YtdekkieajffblaaGreatW22
import Derived.Test.YtdekkieajffblaaGreatW21
import Derived.Deep.AppendLies
import Derived.Laws.AppendOwnNone
set_option linter.unusedVariables false
set_option linter.unusedSimpArgs false
namespace Go.Proofs.YtdekkieajffblaaGreat
open Go.RowKit

section
variable {P : Program} {ops : Array Oper} {Q : Exit → Act → World → Prop} {md : Region.Mode} {S : World → Prop} {σ : Type} {L : σ → Array Bool} {m : σ → Nat} {Inv : σ → Act → World → Prop}

/-- Whichever of 'rs' comes up in state s, a state behind it is reached. -/
def Steps (P : Program) (ops : Array Oper) (Q : Exit → Act → World → Prop) (S : World → Prop) (L : σ → Array Bool) (m : σ → Nat) (Inv : σ → Act → World → Prop) (s : σ) (a : Act) (w : World) (rs : List Nat) : Prop :=
  ∀ i ∈ rs, wpOp P ops Q i (fun a' w' => S w' ∧ ∃ s', L s' = (L s).setIfInBounds i true ∧ m s = m s' + 1 ∧ Inv s' a' w') a w
theorem Steps.nil {s : σ} {a : Act} {w : World} : Steps P ops Q S L m Inv s a w [] := fun _ h => by cases h
theorem Steps.cons {s : σ} {a : Act} {w : World} {i : Nat} {o : Oper} {rs : List Nat} (s' : σ) (ho : ops[i]? = some o) (hL : L s' = (L s).setIfInBounds i true) (hm : m s = m s' + 1)
    (h : ∀ K' : Act → World → Prop, Shut (∀ a w, S w → Inv s' a w → K' a w) → if Region.wanted o (yielded ops a.tmps) = true then Oper.wp P o a w K' Q else K' (a.put o.dst undef) w)
    (hs : Steps P ops Q S L m Inv s a w rs) : Steps P ops Q S L m Inv s a w (i :: rs) := fun j hj => by
  rcases List.mem_cons.1 hj with rfl | hj
  · exact wpOp_step ho (fun K' hK => h K' (fun a w hS hW => hK a w ⟨hS, s', hL, hm, hW⟩))
  · exact hs j hj
theorem wpAnyH_inv (L : σ → Array Bool) (m : σ → Nat) (Inv : σ → Act → World → Prop) (base : Nat)
    (h : ∀ s a w, Inv s a w → (m s = 0 ∧ wpAnyH P md ops Q S base (L s) a w) ∨ (∃ rs, 0 < m s ∧ Region.ready md ops (L s) = rs ∧ rs ≠ [] ∧ Steps P ops Q S L m Inv s a w rs)) :
    ∀ n s a w, m s = n → Inv s a w → wpAnyH P md ops Q S (base + n) (L s) a w
  | 0, s, a, w, hn, hI => by
    rcases h s a w hI with ⟨_, h1⟩ | ⟨rs, h1, _⟩
    · exact h1
    · omega
  | n + 1, s, a, w, hn, hI => by
    rcases h s a w hI with ⟨h0, _⟩ | ⟨rs, _, h1, h2, h3⟩
    · omega
    · refine wpAnyH_all h1 h2 (fun i hi => wpOp_mono (fun a' w' => ?_) (h3 i hi))
      rintro ⟨hS, s', hL, hm, hI'⟩
      refine ⟨hS, ?_⟩
      rw [← hL]
      exact wpAnyH_inv L m Inv base h n s' a' w' (by omega) hI'
theorem wpAnyH_from (L : σ → Array Bool) (m : σ → Nat) (Inv : Act → σ → Act → World → Prop) (base n : Nat) (s : σ) {a0 : Act} {w : World} (hn : m s = n) (h0 : Inv a0 s a0 w)
    (h : ∀ s a w, Inv a0 s a w → (m s = 0 ∧ wpAnyH P md ops Q S base (L s) a w) ∨ (∃ rs, 0 < m s ∧ Region.ready md ops (L s) = rs ∧ rs ≠ [] ∧ Steps P ops Q S L m (Inv a0) s a w rs)) :
    wpAnyH P md ops Q S (base + n) (L s) a0 w := wpAnyH_inv L m (Inv a0) base h n s a0 w hn h0
end

end Go.Proofs.YtdekkieajffblaaGreat

set_option linter.unusedVariables false
set_option linter.unusedSimpArgs false
namespace Go.Proofs.YtdekkieajffblaaGreat
open Go.RowKit

/-- An object: its type, its fields. -/
structure Ob where
  kind : Int
  f : List Int
deriving Inhabited
/-- Where a row of words lies. -/
abbrev Sl := Option Addr × Nat × Nat
/-- How many words objects have. -/
def usedL : List Ob → Nat
  | [] => 0
  | x :: l => 1 + x.f.length + usedL l
theorem usedL_append (a b : List Ob) : usedL (a ++ b) = usedL a + usedL b := by
  induction a with
  | nil => simp [usedL]
  | cons x l ih => simp only [List.cons_append, usedL, ih]; omega
/-- The cells of an object at a place. -/
def oc (at_ : Nat) (x : Ob × Sl) : List Value := [.int .i64 at_, .int .i64 x.1.kind, .slice x.2.1 x.2.2.1 x.2.2.2]
def ocs (at_ : Nat) : List (Ob × Sl) → List Value
  | [] => []
  | x :: l => oc at_ x ++ ocs (at_ + (1 + x.1.f.length)) l
theorem ocs_append (a : Nat) (l r : List (Ob × Sl)) : ocs a (l ++ r) = ocs a l ++ ocs (a + usedL (l.map Prod.fst)) r := by
  induction l generalizing a with
  | nil => simp [ocs, usedL]
  | cons x l ih =>
    simp only [List.cons_append, ocs, ih, List.map_cons, usedL, List.append_assoc]
    rw [show a + (1 + x.1.f.length) + usedL (l.map Prod.fst) = a + (1 + x.1.f.length + usedL (l.map Prod.fst)) by omega]
theorem ocs_length (a : Nat) (l : List (Ob × Sl)) : (ocs a l).length = l.length * 3 := by
  induction l generalizing a with
  | nil => rfl
  | cons x l ih => simp only [ocs, List.length_append, ih, List.length_cons]; simp [oc]; omega
/-- Where the object number i lies. -/
def atI (l : List (Ob × Sl)) (i : Nat) : Nat := usedL ((l.take i).map Prod.fst)
theorem ocs_get {l : List (Ob × Sl)} {i j : Nat} (hi : i < l.length) (hj : j < 3) : (ocs 0 l)[i * 3 + j]? = (oc (atI l i) (l.getD i default))[j]? := by
  have h1 : l = l.take i ++ l.drop i := (List.take_append_drop i l).symm
  have h2 : l.drop i = l.getD i default :: l.drop (i + 1) := by
    rw [List.drop_eq_getElem_cons hi, List.getD_eq_getElem?_getD, List.getElem?_eq_getElem hi]; rfl
  have h3 : ocs 0 l = ocs 0 (l.take i) ++ (oc (atI l i) (l.getD i default) ++ ocs (atI l i + (1 + (l.getD i default).1.f.length)) (l.drop (i + 1))) := by
    conv => lhs; rw [h1, ocs_append, h2]
    simp only [ocs, Nat.zero_add]
    rfl
  have h4 : (ocs 0 (l.take i)).length = i * 3 := by rw [ocs_length, List.length_take, Nat.min_eq_left (by omega)]
  rw [h3, List.getElem?_append_right (by omega), h4, List.getElem?_append_left (by simp [oc]; omega)]
  congr 1; omega
/-- Words in a row. -/
def uz (l : List Int) : List Value := l.map (Value.int .u64)
theorem uz_append (a b : List Int) : uz (a ++ b) = uz a ++ uz b := by simp [uz]
theorem uz_length (l : List Int) : (uz l).length = l.length := by simp [uz]
theorem uz_get {l : List Int} {i : Nat} (h : i < l.length) : (uz l)[i]? = some (.int .u64 (l.getD i 0)) := by
  simp [uz, List.getElem?_map, List.getElem?_eq_getElem h, List.getD_eq_getElem?_getD]
/-- Only some blocks, and new ones, are turned. -/
structure Mod (F : Nat → Prop) (w w' : World) : Prop where
  os : w'.os = w.os
  tape : w'.tape = w.tape
  output : w'.output = w.output
  size : w.heap.size ≤ w'.heap.size
  block : ∀ b, b < w.heap.size → ¬ F b → w'.heap[b]? = w.heap[b]?
section
variable {F G : Nat → Prop} {w w1 w2 : World}
theorem Mod.refl (F : Nat → Prop) (w : World) : Mod F w w := ⟨rfl, rfl, rfl, Nat.le_refl _, fun _ _ _ => rfl⟩
theorem Mod.of_below (F : Nat → Prop) (h : Below w.heap.size w w1) : Mod F w w1 := ⟨h.os, h.tape, h.output, h.size, fun b hb _ => h.block b hb⟩
theorem Mod.trans (h : Mod F w w1) (k : Mod G w1 w2) (hG : ∀ b, b < w.heap.size → G b → F b) : Mod F w w2 :=
  ⟨k.os.trans h.os, k.tape.trans h.tape, k.output.trans h.output, Nat.le_trans h.size k.size, fun b hb hF => (k.block b (Nat.lt_of_lt_of_le hb h.size) (fun e => hF (hG b hb e))).trans (h.block b hb hF)⟩
theorem Mod.mono (h : Mod F w w1) (hG : ∀ b, b < w.heap.size → F b → G b) : Mod G w w1 := ⟨h.os, h.tape, h.output, h.size, fun b hb hg => h.block b hb (fun e => hg (hG b hb e))⟩
theorem Mod.below (h : Mod F w w1) {B : Nat} (hF : ∀ b, F b → B ≤ b) (hB : B ≤ w.heap.size) : Below B w w1 := ⟨h.os, h.tape, h.output, h.size, fun b hb => h.block b (by omega) (fun e => by have := hF b e; omega)⟩
theorem Mod.setCell (h : Mod F w w1) {p : Addr} (hp : F p.block ∨ w.heap.size ≤ p.block) (u : Value) : Mod F w (w1.setCell p u) :=
  ⟨h.os, h.tape, h.output, by have := h.size; simp [World.setCell]; omega, fun b hb hF => (Below.heap_setCell _ _ _ _ (fun e => by subst e; rcases hp with h' | h'; exact hF h'; omega)).trans (h.block b hb hF)⟩
theorem Mod.grown {row : Option Nat} (h : Mod F w w1) (hg : w1.grownBy w2 row) (hr : ∀ k, row = some k → F k ∨ w.heap.size ≤ k) : Mod F w w2 :=
  ⟨hg.os.trans h.os, hg.tape.trans h.tape, hg.output.trans h.output, Nat.le_trans h.size hg.size, fun b hb hF => (hg.block b (Nat.lt_of_lt_of_le hb h.size) (fun e => by rcases hr b e.symm with h' | h'; exact hF h'; omega)).trans (h.block b hb hF)⟩
end
/-- The document's heap in memory. -/
structure RH (B g : Nat) (N : Int) (vL : Value) (ls : List (Ob × Sl)) (w : World) : Prop where
  box : w.heap[g]? = some (.cells #[.int .i64 N, vL] 68 (0, 0))
  own : w.ownsRow B 82 3 vL ls.length (ocs 0 ls)
  rows : ∀ x ∈ ls, w.ownsRow B 35 1 (.slice x.2.1 x.2.2.1 x.2.2.2) x.1.f.length (uz x.1.f) ∧ x.2.2.1 = x.1.f.length
  apart : ls.Pairwise (fun x y => ∀ a a', x.2.1 = some a → y.2.1 = some a' → a.block ≠ a'.block)
  ao : ∀ x ∈ ls, ∀ a, x.2.1 = some a → vL.ownBlock ≠ some a.block ∧ a.block ≠ g
  gl : vL.ownBlock ≠ some g
  Bg : B ≤ g
  uf : ∀ x ∈ ls, ∀ z ∈ x.1.f, U64 z
  kd : ∀ x ∈ ls, 1 ≤ x.1.kind ∧ x.1.kind ≤ 22
  room : (usedL (ls.map Prod.fst) : Int) ≤ N ∧ N ≤ 1099511627776
/-- The blocks that it owns. -/
def RF (g : Nat) (vL : Value) (ls : List (Ob × Sl)) : Nat → Prop := fun b => b = g ∨ vL.ownBlock = some b ∨ ∃ x ∈ ls, ∃ a, x.2.1 = some a ∧ a.block = b
theorem RH.foot_ge {B g : Nat} {N : Int} {vL : Value} {ls : List (Ob × Sl)} {w : World} (h : RH B g N vL ls w) : ∀ b, RF g vL ls b → B ≤ b ∧ b < w.heap.size := by
  rintro b (rfl | h1 | ⟨x, hx, a, ha, rfl⟩)
  · exact ⟨h.Bg, (Array.getElem?_eq_some_iff.1 h.box).1⟩
  · exact h.own.lt b h1
  · exact (h.rows x hx).1.lt a.block (by rw [ha]; rfl)
theorem own_at {w w' : World} {base : Nat} {e : TypeId} {k : Nat} {v : Value} {n : Nat} {xs : List Value} (h : w.ownsRow base e k v n xs) (hb : ∀ b, v.ownBlock = some b → w'.heap[b]? = w.heap[b]?) : w'.ownsRow base e k v n xs := by
  refine ⟨h.1, ?_⟩
  rcases h.2 with h0 | ⟨g, cap, cur, h1, h2, h3, h4⟩
  · exact .inl h0
  · exact .inr ⟨g, cap, cur, h1, h2, (hb g (by rw [h1]; rfl)).trans h3, h4⟩
/-- It is as it was where its blocks are. -/
theorem RH.keep {B g : Nat} {N : Int} {vL : Value} {ls : List (Ob × Sl)} {w w' : World} (h : RH B g N vL ls w) (hb : ∀ b, RF g vL ls b → w'.heap[b]? = w.heap[b]?) : RH B g N vL ls w' :=
  { h with
    box := (hb g (.inl rfl)).trans h.box
    own := own_at h.own (fun b e => hb b (.inr (.inl e)))
    rows := fun x hx => ⟨own_at (h.rows x hx).1 (fun b e => hb b (.inr (.inr ⟨x, hx, by
      cases e' : x.2.1 with
      | none => rw [e'] at e; cases e
      | some a => rw [e'] at e; exact ⟨a, rfl, by injection e⟩⟩))), (h.rows x hx).2⟩ }
theorem RH.mod {B g : Nat} {N : Int} {vL : Value} {ls : List (Ob × Sl)} {w w' : World} {F : Nat → Prop} (h : RH B g N vL ls w) (hm : Mod F w w') (hF : ∀ b, RF g vL ls b → ¬ F b) : RH B g N vL ls w' :=
  h.keep (fun b hb => hm.block b (h.foot_ge b hb).2 (hF b hb))
theorem RH.on {B g : Nat} {N : Int} {vL : Value} {ls : List (Ob × Sl)} {w w' : World} (h : RH B g N vL ls w) (hb : Below w.heap.size w w') : RH B g N vL ls w' :=
  h.keep (fun b hf => hb.block b (h.foot_ge b hf).2)
/-- An object is read. -/
theorem RH.obj {B g : Nat} {N : Int} {vL : Value} {ls : List (Ob × Sl)} {w : World} (h : RH B g N vL ls w) {i : Nat} (hi : i < ls.length) {x : Ob × Sl} (hx : x = ls.getD i default) :
    ∃ gl cap, vL = .slice (some ⟨gl, 0, none⟩) ls.length cap ∧ ls.length ≤ cap ∧ cap ≤ maxLen ∧ w.cell? ⟨gl, i * 3, none⟩ = some (.int .i64 (atI ls i : Nat)) ∧ w.cell? ⟨gl, i * 3 + 1, none⟩ = some (.int .i64 x.1.kind) ∧ w.cell? ⟨gl, i * 3 + 2, none⟩ = some (.slice x.2.1 x.2.2.1 x.2.2.2) := by
  rcases h.own.2 with ⟨h0, h1⟩ | ⟨gl, cap, cur, h1, h2, h3, h4, h5, h6, h7⟩
  · omega
  · have key : ∀ j, j < 3 → w.cell? ⟨gl, i * 3 + j, none⟩ = (oc (atI ls i) x)[j]? := fun j hj => by
      rw [blk_cell h3, hx, ← ocs_get hi hj, ← h7, List.getElem?_take, if_pos (by omega)]; simp
    exact ⟨gl, cap, h1, h4, h5, key 0 (by omega), key 1 (by omega), key 2 (by omega)⟩
theorem getD_in_ob {l : List (Ob × Sl)} {i : Nat} (h : i < l.length) : l.getD i default ∈ l := by
  rw [List.getD_eq_getElem?_getD, List.getElem?_eq_getElem h]; exact List.getElem_mem h
end Go.Proofs.YtdekkieajffblaaGreat
