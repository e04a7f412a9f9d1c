/-
  Walk: step.
-/
import Derived.Test.YthgkonjglappjaaV9
set_option linter.unusedVariables false
set_option linter.unusedSimpArgs false
set_option maxRecDepth 100000
namespace Go.Proofs.Ythgkonjglappjaa
open Go.RowKit

/-- Both heaps in one memory, with their blocks. -/
structure Mx (B : Nat) (v : Value) (g : Nat) (N : Int) (osP osR : List Ob) (F : Nat → Prop) (vL : Value) (ls : List (Ob × Sl)) (w : World) : Prop where
  ph : PH B v N (wordsL osP) F w
  rh : RH B g N vL ls w
  mp : ls.map Prod.fst = osR
  dj : ∀ b, F b → ¬ RF g vL ls b
  okP : OsOk osP
  okR : OsOk osR
  bw : B ≤ w.heap.size
section
variable {B g : Nat} {v : Value} {N : Int} {osP osR os' : List Ob} {F : Nat → Prop} {vL : Value} {ls : List (Ob × Sl)} {w w' : World}
theorem Mx.keep (h : Mx B v g N osP osR F vL ls w) (hs : w.heap.size ≤ w'.heap.size) (hF : ∀ b, F b → w'.heap[b]? = w.heap[b]?) (hR : ∀ b, RF g vL ls b → w'.heap[b]? = w.heap[b]?) : Mx B v g N osP osR F vL ls w' :=
  ⟨h.ph.keep hF, h.rh.keep hR, h.mp, h.dj, h.okP, h.okR, Nat.le_trans h.bw hs⟩
theorem Mx.on (h : Mx B v g N osP osR F vL ls w) (hb : Below w.heap.size w w') : Mx B v g N osP osR F vL ls w' :=
  h.keep hb.size (fun b hf => hb.block b (h.ph.ge b hf).2) (fun b hf => hb.block b (h.rh.foot_ge b hf).2)
theorem Mx.p (h : Mx B v g N osP osR F vL ls w) (ho : OsOk os') (hp : PPost B v N F w (wordsL os') w') : ∃ F', Mx B v g N os' osR F' vL ls w' ∧ (∀ b, b < w.heap.size → ¬ F b → ¬ F' b ∧ w'.heap[b]? = w.heap[b]?) ∧ Below B w w' := by
  obtain ⟨F', p1, p2, p3⟩ := hp
  refine ⟨F', ⟨p1, h.rh.mod p3 (fun b hb hf => h.dj b hf hb), h.mp, fun b hb hr => ?_, ho, h.okR, Nat.le_trans h.bw p3.size⟩, fun b hb hn => ⟨fun e => ?_, p3.block b hb hn⟩, p3.below (fun b hb => (h.ph.ge b hb).1) h.bw⟩
  · rcases p2 b hb with h' | h'
    · exact h.dj b h' hr
    · have := (h.rh.foot_ge b hr).2; omega
  · rcases p2 b e with h' | h'
    · exact hn h'
    · omega
theorem Mx.r (h : Mx B v g N osP osR F vL ls w) (ho : OsOk os') (hp : RPost B g N vL ls w os' w') : ∃ vL' ls', Mx B v g N osP os' F vL' ls' w' ∧ (∀ b, b < w.heap.size → ¬ RF g vL ls b → ¬ RF g vL' ls' b ∧ w'.heap[b]? = w.heap[b]?) ∧ Below B w w' := by
  obtain ⟨vL', ls', p1, p2, p3, p4⟩ := hp
  refine ⟨vL', ls', ⟨h.ph.keep (fun b hb => p4.block b (h.ph.ge b hb).2 (h.dj b hb)), p1, p2, fun b hb hr => ?_, h.okP, ho, Nat.le_trans h.bw p4.size⟩, fun b hb hn => ⟨fun e => ?_, p4.block b hb hn⟩, p4.below (fun b hb => (h.rh.foot_ge b hb).1) h.bw⟩
  · rcases p3 b hr with h' | h'
    · exact h.dj b hb h'
    · have := (h.ph.ge b hb).2; omega
  · rcases p3 b e with h' | h'
    · exact hn h'
    · omega
theorem Mx.mix (h : Mx B v g N osP osR F vL ls w) : Mix B v g N osP osR w := ⟨⟨F, vL, ls, h.ph, h.rh, h.mp, h.dj⟩, h.okP, h.okR, h.bw⟩
end
/-- What is of neither heap stays so, and as it is. -/
def Fr (g : Nat) (F : Nat → Prop) (vL : Value) (ls : List (Ob × Sl)) (F' : Nat → Prop) (vL' : Value) (ls' : List (Ob × Sl)) (w w' : World) : Prop := ∀ b, b < w.heap.size → ¬ F b → ¬ RF g vL ls b → ¬ F' b ∧ ¬ RF g vL' ls' b ∧ w'.heap[b]? = w.heap[b]?
section
variable {g : Nat} {F F' F2 : Nat → Prop} {vL vL' vL2 : Value} {ls ls' ls2 : List (Ob × Sl)} {w w1 w2 : World}
theorem Fr.on (h : Below w.heap.size w w1) : Fr g F vL ls F vL ls w w1 := fun b hb n1 n2 => ⟨n1, n2, h.block b hb⟩
theorem Fr.p (h : ∀ b, b < w.heap.size → ¬ F b → ¬ F' b ∧ w1.heap[b]? = w.heap[b]?) : Fr g F vL ls F' vL ls w w1 := fun b hb n1 n2 => ⟨(h b hb n1).1, n2, (h b hb n1).2⟩
theorem Fr.r (h : ∀ b, b < w.heap.size → ¬ RF g vL ls b → ¬ RF g vL' ls' b ∧ w1.heap[b]? = w.heap[b]?) : Fr g F vL ls F vL' ls' w w1 := fun b hb n1 n2 => ⟨n1, (h b hb n2).1, (h b hb n2).2⟩
theorem Fr.trans (h : Fr g F vL ls F' vL' ls' w w1) (hs : w.heap.size ≤ w1.heap.size) (k : Fr g F' vL' ls' F2 vL2 ls2 w1 w2) : Fr g F vL ls F2 vL2 ls2 w w2 := fun b hb n1 n2 => by
  obtain ⟨a1, a2, a3⟩ := h b hb n1 n2
  obtain ⟨b1, b2, b3⟩ := k b (Nat.lt_of_lt_of_le hb hs) a1 a2
  exact ⟨b1, b2, b3.trans a3⟩
end
end Go.Proofs.Ythgkonjglappjaa
