/-
  Walk: graph.Same.
-/
import Derived.Test.YtaenegcnobindacDoorH1
import Derived.Test.YtaenegcnobindacDoorG20
import Derived.Test.YtaenegcnobindacDoorW16
import Derived.Deep.RegionLaw
set_option linter.unusedVariables false
set_option linter.unusedSimpArgs false
set_option maxRecDepth 100000
namespace Go.Proofs.YtaenegcnobindacDoor
open Go.RowKit

/-- A graph that lies there and is small enough to be walked. -/
structure GOk (w : World) (an : Option Addr) (nn cn : Nat) (ar : Option Addr) (nr cr : Nat) (ns : List Nd) (rs : List Int) : Prop where
  is : GIs w an nn cn ar nr cr ns rs
  small : smallG ns
  kids : ∀ d ∈ ns, d.kids.length ≤ 100
  nn_le : nn ≤ 1000
  nr_le : nr ≤ 1000
theorem GOk.below {w w' : World} {an ar : Option Addr} {nn cn nr cr : Nat} {ns : List Nd} {rs : List Int} (h : GOk w an nn cn ar nr cr ns rs) (hb : Below w.heap.size w w') : GOk w' an nn cn ar nr cr ns rs := ⟨h.is.below hb, h.small, h.kids, h.nn_le, h.nr_le⟩
def canonN (ns : List Nd) (rs : List Int) : List Nd × List Int := canonG ns rs 100001
theorem canonN_any {an ar : Option Addr} {nn cn nr cr : Nat} {ns : List Nd} {rs : List Int} {w : World} (G : GOk w an nn cn ar nr cr ns rs) (hT : Tabs w) :
    Calls Tryd.prog 11 #[.agg #[.slice an nn cn, .slice ar nr cr]] w fun e w' => ∃ an' nn' cn' ar' nr' cr', e = .returned (GVal an' nn' cn' ar' nr' cr') ∧ GIs w' an' nn' cn' ar' nr' cr' (canonN ns rs).1 (canonN ns rs).2 ∧ Below w.heap.size w w' :=
  canon_any an ar nn cn nr cr ns rs w G.is G.small G.kids G.nn_le G.nr_le hT 100001 (by have := G.nn_le; omega) (by omega)
def sameGB (ns : List Nd) (rs : List Int) (ns' : List Nd) (rs' : List Int) : Bool := goodG ns rs && goodG ns' rs' && decide ((canonN ns rs).1 = (canonN ns' rs').1) && decide ((canonN ns rs).2 = (canonN ns' rs').2)

end Go.Proofs.YtaenegcnobindacDoor

set_option linter.unusedVariables false
set_option linter.unusedSimpArgs false
namespace Go.Proofs.YtaenegcnobindacDoor
open Go.RowKit

theorem keepb {wx wy : World} {p : Nat} {u v : Value} (h : wx.cell? ⟨p, 0, none⟩ = some u ∧ wx.cell? ⟨p, 1, none⟩ = some v) (hb : Below wx.heap.size wx wy) : wy.cell? ⟨p, 0, none⟩ = some u ∧ wy.cell? ⟨p, 1, none⟩ = some v :=
  ⟨(hb.cell (p := ⟨p, 0, none⟩) (cell_lt h.1)).trans h.1, (hb.cell (p := ⟨p, 1, none⟩) (cell_lt h.1)).trans h.2⟩
theorem keepbs {wx : World} {p s : Nat} {u v u' v' : Value} (h : wx.cell? ⟨p, 0, none⟩ = some u ∧ wx.cell? ⟨p, 1, none⟩ = some v) (hp : p ≠ s) :
    ((wx.setCell ⟨s, 0, none⟩ u').setCell ⟨s, 1, none⟩ v').cell? ⟨p, 0, none⟩ = some u ∧ ((wx.setCell ⟨s, 0, none⟩ u').setCell ⟨s, 1, none⟩ v').cell? ⟨p, 1, none⟩ = some v :=
  ⟨(World.cell?_of_block (w := wx) (a := ⟨p, 0, none⟩) ((Below.heap_setCell _ _ _ _ hp).trans (Below.heap_setCell _ _ _ _ hp))).trans h.1, (World.cell?_of_block (w := wx) (a := ⟨p, 1, none⟩) ((Below.heap_setCell _ _ _ _ hp).trans (Below.heap_setCell _ _ _ _ hp))).trans h.2⟩

/-- What a turned sign is. -/
theorem sgn_neg (s : Bool) (v : Nat) : sgn (!s) v = - sgn s v := by cases s <;> simp [sgn]

end Go.Proofs.YtaenegcnobindacDoor

set_option linter.unusedVariables false
set_option linter.unusedSimpArgs false
namespace Go.Proofs.YtaenegcnobindacDoor
open Go.RowKit

section
variable {P : Program} {w : World} {ops : Array Oper} {o : Oper} {a : Act} {K : Act → World → Prop} {Q : Exit → Act → World → Prop} {E : Prop}

/-- 'append(own, src...)' as a step of a region that draws its order. -/
theorem stepRow (hgd : o.guard = none) (s x : Operand) (t : TypeId) (ho : o.op = .call { callee := .builtin .append, args := #[s, x], argTypes := #[t, t] })
    (base : Nat) (e : TypeId) (k : IntKind) (bytes : Nat) (hby : bytes ≤ 8) (ht : P.underlying t = some (.slice e)) (hi : (P.info? e).map (fun i => (i.zero, i.size, i.bytes)) = some (some (.int k 0), 1, bytes))
    (v : Value) (n : Nat) (l : List Nat) (hs : a.eval s = v) (hown : w.ownsRow base e 1 v n (cs k l))
    (B : Nat) (ao : Option Addr) (m c : Nat) (r : List Nat) (hx : a.eval x = .slice ao m c) (hr : Row k B w ao m c r) (hl : Dg B l) (hsm : n + m ≤ 1000000) (hbase : base ≤ w.heap.size)
    (h : ∀ ao' cap' w', Own k e B base w' ao' (n + m) cap' (l ++ r) → Below base w w' → K (a.put o.dst (.slice ao' (n + m) cap')) w') :
    if Region.wanted o (yielded ops a.tmps) = true then Oper.wp P o a w K Q else E := by
  have hw : Region.wanted o (yielded ops a.tmps) = true := by simp [Region.wanted, hgd]
  rw [if_pos hw]
  obtain ⟨i0, hi0, hz0, hz1, hz2⟩ := info_parts hi
  cases ao with
  | none =>
    have hc := hr.nil_ rfl
    subst hc
    have hm : m = 0 := by have := hr.fits; omega
    subst hm
    have hl2 : r = [] := List.length_eq_zero_iff.1 hr.len
    subst hl2
    have hrun := run_append_owned_none (P := P) (w := w) base t o.type e i0 1 ht hi0 v n (cs k l) hown
    obtain ⟨ao', cap', hv, hO⟩ := own_of hown hl
    subst hv
    unfold Oper.wp
    simp [execOp, ho, resolve, invoke, builtin, hs, hx, hrun, Result.andThen]
    exact h ao' cap' w (by simpa using hO) (Below.refl _ _)
  | some ad =>
    refine wp_append_own w s x t ho base e i0 (.int k 0) 1 bytes ht hi0 hz0 hz1 hz2 rfl (by decide) v n (cs k l) hs hown ad m c (cs k r) hx (by rw [cs_length, hr.len]; omega) ?_ (cs_one k r) (by unfold maxLen; omega) ?_ hbase ?_
    · intro j u hj
      obtain ⟨h1, rfl⟩ := cs_get hj
      obtain ⟨b, o', hao, _, hc⟩ := hr.rd.some (by omega)
      cases hao
      have := hc j h1
      unfold Addr.add
      by_cases hj0 : j = 0
      · subst hj0; simpa using this
      · rw [if_neg hj0]; exact this
    · have : (n + m) * bytes ≤ 1000000 * 8 := Nat.mul_le_mul hsm hby
      omega
    · intro v' w' h1 h2 _
      rw [← cs_append] at h1
      obtain ⟨ao', cap', hv, hO⟩ := own_of h1 (hl.append hr.dg)
      subst hv
      exact h ao' cap' w' hO (bel_of hown hbase h2)
theorem stepRowAt (d : Option Nat) (hd : o.dst = d) (hgd : o.guard = none) (s x : Operand) (t : TypeId) (ho : o.op = .call { callee := .builtin .append, args := #[s, x], argTypes := #[t, t] })
    (base : Nat) (e : TypeId) (k : IntKind) (bytes : Nat) (hby : bytes ≤ 8) (ht : P.underlying t = some (.slice e)) (hi : (P.info? e).map (fun i => (i.zero, i.size, i.bytes)) = some (some (.int k 0), 1, bytes))
    (v : Value) (n : Nat) (l : List Nat) (hs : a.eval s = v) (hown : w.ownsRow base e 1 v n (cs k l))
    (B : Nat) (ao : Option Addr) (m c : Nat) (r : List Nat) (hx : a.eval x = .slice ao m c) (hr : Row k B w ao m c r) (hl : Dg B l) (hsm : n + m ≤ 1000000) (hbase : base ≤ w.heap.size)
    (h : ∀ ao' cap' w', Own k e B base w' ao' (n + m) cap' (l ++ r) → Below base w w' → K (a.put d (.slice ao' (n + m) cap')) w') :
    if Region.wanted o (yielded ops a.tmps) = true then Oper.wp P o a w K Q else E := by
  subst hd
  exact stepRow hgd s x t ho base e k bytes hby ht hi v n l hs hown B ao m c r hx hr hl hsm hbase h
end

section
variable {P : Program} {ops : Array Oper} {Q : Exit → Act → World → Prop} {md : Region.Mode} {S : World → Prop}
/-- 'wpAnyH_take' with the slot named. -/
theorem htake (i : Nat) (d : Option Nat) (v : Value) {oi : Oper} {fuel : Nat} {listed : Array Bool} {a : Act} {w : World} (hi : ops[i]? = some oi) (hd : oi.dst = d)
    (hs : Region.noSelect ops = true) (hf : Region.free md ops listed i = true) (hr : (Region.ready md ops listed).contains i = true)
    (hQ : ∀ c a w, Q (.panic c) (a.put d v) w → Q (.panic c) a w) (hy : YieldsIf P ops S oi v a) (hS : S w)
    (h : wpAnyH P md ops Q S fuel (listed.setIfInBounds i true) (a.put d v) w) : wpAnyH P md ops Q S (fuel + 1) listed a w := by
  subst hd
  exact wpAnyH_take hi hs hf hr hQ hy hS h
/-- The one operation that may come up. -/
theorem hone (i : Nat) (o : Oper) {fuel : Nat} {listed : Array Bool} {a : Act} {w : World} (ho : ops[i]? = some o) (hr : Region.ready md ops listed = [i])
    (h : ∀ K' : Act → World → Prop, Shut (∀ a w, S w → (S w → wpAnyH P md ops Q S fuel (listed.setIfInBounds i true) a w) → K' a w) → if Region.wanted o (yielded ops a.tmps) = true then Oper.wp P o a w K' Q else K' (a.put o.dst undef) w) :
    wpAnyH P md ops Q S (fuel + 1) listed a w := wpAnyH_ready hr (by simp) (AllReadyH.cons ho h AllReadyH.nil)
end


end Go.Proofs.YtaenegcnobindacDoor

set_option linter.unusedVariables false
set_option linter.unusedSimpArgs false
namespace Go.Proofs.YtaenegcnobindacDoor
open Go.RowKit

section
variable {P : Program} {ops : Array Oper} {Q : Exit → Act → World → Prop} {md : Region.Mode} {S : World → Prop} {σ : Type} {L : σ → Array Bool} {m : σ → Nat} {Inv : σ → Act → World → Prop}

/-- Whichever of 'rs' comes up in state s, a state behind it is reached. -/
def Steps (P : Program) (ops : Array Oper) (Q : Exit → Act → World → Prop) (S : World → Prop) (L : σ → Array Bool) (m : σ → Nat) (Inv : σ → Act → World → Prop) (s : σ) (a : Act) (w : World) (rs : List Nat) : Prop :=
  ∀ i ∈ rs, wpOp P ops Q i (fun a' w' => S w' ∧ ∃ s', L s' = (L s).setIfInBounds i true ∧ m s = m s' + 1 ∧ Inv s' a' w') a w
theorem Steps.nil {s : σ} {a : Act} {w : World} : Steps P ops Q S L m Inv s a w [] := fun _ h => by cases h
theorem Steps.cons {s : σ} {a : Act} {w : World} {i : Nat} {o : Oper} {rs : List Nat} (s' : σ) (ho : ops[i]? = some o) (hL : L s' = (L s).setIfInBounds i true) (hm : m s = m s' + 1)
    (h : ∀ K' : Act → World → Prop, Shut (∀ a w, S w → Inv s' a w → K' a w) → if Region.wanted o (yielded ops a.tmps) = true then Oper.wp P o a w K' Q else K' (a.put o.dst undef) w)
    (hs : Steps P ops Q S L m Inv s a w rs) : Steps P ops Q S L m Inv s a w (i :: rs) := fun j hj => by
  rcases List.mem_cons.1 hj with rfl | hj
  · exact wpOp_step ho (fun K' hK => h K' (fun a w hS hW => hK a w ⟨hS, s', hL, hm, hW⟩))
  · exact hs j hj
theorem wpAnyH_inv (L : σ → Array Bool) (m : σ → Nat) (Inv : σ → Act → World → Prop) (base : Nat)
    (h : ∀ s a w, Inv s a w → (m s = 0 ∧ wpAnyH P md ops Q S base (L s) a w) ∨ (∃ rs, 0 < m s ∧ Region.ready md ops (L s) = rs ∧ rs ≠ [] ∧ Steps P ops Q S L m Inv s a w rs)) :
    ∀ n s a w, m s = n → Inv s a w → wpAnyH P md ops Q S (base + n) (L s) a w
  | 0, s, a, w, hn, hI => by
    rcases h s a w hI with ⟨_, h1⟩ | ⟨rs, h1, _⟩
    · exact h1
    · omega
  | n + 1, s, a, w, hn, hI => by
    rcases h s a w hI with ⟨h0, _⟩ | ⟨rs, _, h1, h2, h3⟩
    · omega
    · refine wpAnyH_all h1 h2 (fun i hi => wpOp_mono (fun a' w' => ?_) (h3 i hi))
      rintro ⟨hS, s', hL, hm, hI'⟩
      refine ⟨hS, ?_⟩
      rw [← hL]
      exact wpAnyH_inv L m Inv base h n s' a' w' (by omega) hI'
theorem wpAnyH_from (L : σ → Array Bool) (m : σ → Nat) (Inv : Act → σ → Act → World → Prop) (base n : Nat) (s : σ) {a0 : Act} {w : World} (hn : m s = n) (h0 : Inv a0 s a0 w)
    (h : ∀ s a w, Inv a0 s a w → (m s = 0 ∧ wpAnyH P md ops Q S base (L s) a w) ∨ (∃ rs, 0 < m s ∧ Region.ready md ops (L s) = rs ∧ rs ≠ [] ∧ Steps P ops Q S L m (Inv a0) s a w rs)) :
    wpAnyH P md ops Q S (base + n) (L s) a0 w := wpAnyH_inv L m (Inv a0) base h n s a0 w hn h0
end

end Go.Proofs.YtaenegcnobindacDoor

set_option linter.unusedVariables false
set_option linter.unusedSimpArgs false
set_option maxRecDepth 100000
namespace Go.Proofs.YtaenegcnobindacDoor
open Go.RowKit

theorem box_noint {w : World} {t : TypeId} {p : Nat} {a b : Option Addr} {c d e f : Nat} (hB : GBox t w p a c d b e f) {o : Nat} {z : Int} (h : w.cell? ⟨p, o, none⟩ = some (.int .i64 z)) : False := by
  rw [blk_cell hB] at h
  match o, h with
  | 0, h => simp at h
  | 1, h => simp at h
  | o + 2, h => simp at h
/-- The value is a graph with these nodes and roots. -/
def IsG (w : World) (v : Value) (X : List Nd × List Int) : Prop := ∃ an nn cn ar nr cr, v = GVal an nn cn ar nr cr ∧ GIs w an nn cn ar nr cr X.1 X.2
theorem IsG.below {w w' : World} {v : Value} {X : List Nd × List Int} (h : IsG w v X) (hb : Below w.heap.size w w') : IsG w' v X := by
  obtain ⟨an, nn, cn, ar, nr, cr, h1, h2⟩ := h
  exact ⟨an, nn, cn, ar, nr, cr, h1, h2.below hb⟩
theorem IRow.notBox {w w' : World} {ao : Option Addr} {n cap : Nat} {l : List Int} (h : IRow w ao n cap l) {t : TypeId} {p : Nat} {a b : Option Addr} {c d e f : Nat} (hB : GBox t w p a c d b e f) (hs : w.heap.size ≤ w'.heap.size) (hb : ∀ q, q ≠ p → w'.heap[q]? = w.heap[q]?) : IRow w' ao n cap l := by
  refine ⟨h.len, h.fits, h.most, h.nil_, h.bd, ?_⟩
  rcases h.rd with e | ⟨bb, o, e, hl, hc⟩
  · exact .inl e
  · by_cases h0 : l = []
    · exact .inl h0
    · have hq : bb ≠ p := by
        rintro rfl
        have := hc 0 (List.length_pos_iff.2 h0)
        exact box_noint hB this
      exact .inr ⟨bb, o, e, Nat.lt_of_lt_of_le hl hs, fun i hi => (World.cell?_of_block (w := w) (a := ⟨bb, o + i, none⟩) (hb bb hq)).trans (hc i hi)⟩
theorem NRow.notBox {w w' : World} {ao : Option Addr} {n cap : Nat} {l : List Nd} (h : NRow w ao n cap l) {t : TypeId} {p : Nat} {a b : Option Addr} {c d e f : Nat} (hB : GBox t w p a c d b e f) (hs : w.heap.size ≤ w'.heap.size) (hb : ∀ q, q ≠ p → w'.heap[q]? = w.heap[q]?) : NRow w' ao n cap l := by
  refine ⟨h.len, h.fits, h.most, h.nil_, h.ok, ?_⟩
  rcases h.rd with e | ⟨bb, o, e, hl, hc⟩
  · exact .inl e
  · by_cases h0 : l = []
    · exact .inl h0
    · have hq : bb ≠ p := by
        rintro rfl
        have := (hc 0 (List.length_pos_iff.2 h0)).1
        exact box_noint hB this
      have hcell : ∀ k v, w.cell? ⟨bb, k, none⟩ = Option.some v → w'.cell? ⟨bb, k, none⟩ = Option.some v := fun k v hv => (World.cell?_of_block (w := w) (a := ⟨bb, k, none⟩) (hb bb hq)).trans hv
      refine .inr ⟨bb, o, e, Nat.lt_of_lt_of_le hl hs, fun i hi => ?_⟩
      obtain ⟨k1, k2, k3, ak, nk, ck, k4, k5⟩ := hc i hi
      exact ⟨hcell _ _ k1, hcell _ _ k2, hcell _ _ k3, ak, nk, ck, hcell _ _ k4, k5.notBox hB hs hb⟩
theorem GIs.notBox {w w' : World} {an ar : Option Addr} {nn cn nr cr : Nat} {ns : List Nd} {rs : List Int} (h : GIs w an nn cn ar nr cr ns rs) {t : TypeId} {p : Nat} {a b : Option Addr} {c d e f : Nat} (hB : GBox t w p a c d b e f) (hs : w.heap.size ≤ w'.heap.size) (hb : ∀ q, q ≠ p → w'.heap[q]? = w.heap[q]?) : GIs w' an nn cn ar nr cr ns rs :=
  ⟨h.nodes.notBox hB hs hb, h.roots.notBox hB hs hb⟩
theorem GIs.set2 {w : World} {an ar : Option Addr} {nn cn nr cr : Nat} {ns : List Nd} {rs : List Int} (h : GIs w an nn cn ar nr cr ns rs) {t : TypeId} {p : Nat} {a b : Option Addr} {c d e f : Nat} (hB : GBox t w p a c d b e f) (v1 v2 : Value) : GIs ((w.setCell ⟨p, 0, none⟩ v1).setCell ⟨p, 1, none⟩ v2) an nn cn ar nr cr ns rs :=
  h.notBox hB (by simp [World.setCell]) (fun q hq => store2_far hq)

structure SSt (w1 : World) (X Y : List Nd × List Int) (k : Nat) (al be : Bool) (t16 t18 t5 t6 : Value) (wx : World) : Prop where
  bel : Below w1.heap.size w1 wx
  i1 : 1 ≤ k → IsG wx t16 X
  i2 : 2 ≤ k → IsG wx t18 Y
  b5 : al = true → ∃ p, t5 = .pointer (some ⟨p, 0, none⟩) ∧ w1.heap.size ≤ p ∧ GBox 25 wx p none 0 0 none 0 0
  b6 : be = true → ∃ p, t6 = .pointer (some ⟨p, 0, none⟩) ∧ w1.heap.size ≤ p ∧ GBox 25 wx p none 0 0 none 0 0
  ne : al = true → be = true → t5 ≠ t6
section
variable {w1 wx wy : World} {X Y : List Nd × List Int} {k : Nat} {al be : Bool} {t16 t18 t5 t6 : Value}
theorem SSt.on (h : SSt w1 X Y k al be t16 t18 t5 t6 wx) (hb : Below wx.heap.size wx wy) : SSt w1 X Y k al be t16 t18 t5 t6 wy :=
  ⟨Bt h.bel hb, fun e => (h.i1 e).below hb, fun e => (h.i2 e).below hb, fun e => by obtain ⟨p, h1, h2, h3⟩ := h.b5 e; exact ⟨p, h1, h2, h3.on hb⟩, fun e => by obtain ⟨p, h1, h2, h3⟩ := h.b6 e; exact ⟨p, h1, h2, h3.on hb⟩, h.ne⟩
theorem SSt.s1 (h : SSt w1 X Y 0 al be t16 t18 t5 t6 wx) (hb : Below wx.heap.size wx wy) {v : Value} (hv : IsG wy v X) : SSt w1 X Y 1 al be v t18 t5 t6 wy :=
  ⟨Bt h.bel hb, fun _ => hv, fun e => by omega, (h.on hb).b5, (h.on hb).b6, h.ne⟩
theorem SSt.s2 (h : SSt w1 X Y 1 al be t16 t18 t5 t6 wx) (hb : Below wx.heap.size wx wy) {v : Value} (hv : IsG wy v Y) : SSt w1 X Y 2 al be t16 v t5 t6 wy :=
  ⟨Bt h.bel hb, fun _ => (h.on hb).i1 (by omega), fun _ => hv, (h.on hb).b5, (h.on hb).b6, h.ne⟩
theorem gptr_ne {p q : Nat} (h : p ≠ q) : (Value.pointer (some ⟨p, 0, none⟩)) ≠ .pointer (some ⟨q, 0, none⟩) := by
  intro e; injection e with e; injection e with e; injection e with e; exact h e
theorem SSt.a5 (h : SSt w1 X Y k false be t16 t18 t5 t6 wx) : SSt w1 X Y k true be t16 t18 (.pointer (some ⟨wx.heap.size, 0, none⟩)) t6 (wx.alloc (.cells #[.slice none 0 0, .slice none 0 0] 25)) :=
  let h' := h.on (Ba wx (.cells #[.slice none 0 0, .slice none 0 0] 25))
  ⟨h'.bel, h'.i1, h'.i2, fun _ => ⟨_, rfl, h.bel.size, GBox.new _ _ _ _ _ _ _ _⟩, h'.b6, fun _ e => by
    obtain ⟨p, rfl, h2, h3⟩ := h.b6 e
    exact gptr_ne (Nat.ne_of_gt h3.lt)⟩
theorem SSt.a6 (h : SSt w1 X Y k al false t16 t18 t5 t6 wx) : SSt w1 X Y k al true t16 t18 t5 (.pointer (some ⟨wx.heap.size, 0, none⟩)) (wx.alloc (.cells #[.slice none 0 0, .slice none 0 0] 25)) :=
  let h' := h.on (Ba wx (.cells #[.slice none 0 0, .slice none 0 0] 25))
  ⟨h'.bel, h'.i1, h'.i2, h'.b5, fun _ => ⟨_, rfl, h.bel.size, GBox.new _ _ _ _ _ _ _ _⟩, fun e _ => by
    obtain ⟨p, rfl, h2, h3⟩ := h.b5 e
    exact gptr_ne (Nat.ne_of_lt h3.lt)⟩
theorem SSt.mk0 (hb : Below w1.heap.size w1 wx) : SSt w1 X Y 0 false false t16 t18 t5 t6 wx :=
  ⟨hb, fun e => by omega, fun e => by omega, fun e => (by cases e), fun e => (by cases e), fun e => (by cases e)⟩
/-- The cells of the two that are handed in, in a world behind w1. -/
def GHeld (w1 : World) (p q : Nat) (a0 a1 b0 b1 : Value) (wx : World) : Prop := (wx.cell? ⟨p, 0, none⟩ = some a0 ∧ wx.cell? ⟨p, 1, none⟩ = some a1 ∧ wx.cell? ⟨q, 0, none⟩ = some b0 ∧ wx.cell? ⟨q, 1, none⟩ = some b1) ∧ Below w1.heap.size w1 wx
theorem GHeld.on {p q : Nat} {a0 a1 b0 b1 : Value} (h : GHeld w1 p q a0 a1 b0 b1 wx) (hb : Below wx.heap.size wx wy) : GHeld w1 p q a0 a1 b0 b1 wy :=
  ⟨⟨(hb.cell (p := ⟨p, 0, none⟩) (cell_lt h.1.1)).trans h.1.1, (hb.cell (p := ⟨p, 1, none⟩) (cell_lt h.1.1)).trans h.1.2.1, (hb.cell (p := ⟨q, 0, none⟩) (cell_lt h.1.2.2.1)).trans h.1.2.2.1, (hb.cell (p := ⟨q, 1, none⟩) (cell_lt h.1.2.2.1)).trans h.1.2.2.2⟩, Bt h.2 hb⟩
theorem GHeld.set2 {p q s : Nat} {a0 a1 b0 b1 u v : Value} (h : GHeld w1 p q a0 a1 b0 b1 wx) (hs : w1.heap.size ≤ s) (hp : p < w1.heap.size) (hq : q < w1.heap.size) : GHeld w1 p q a0 a1 b0 b1 ((wx.setCell ⟨s, 0, none⟩ u).setCell ⟨s, 1, none⟩ v) := by
  have e1 : ∀ k : Nat, ((wx.setCell ⟨s, 0, none⟩ u).setCell ⟨s, 1, none⟩ v).cell? ⟨p, k, none⟩ = wx.cell? ⟨p, k, none⟩ := fun k => World.cell?_of_block (a := ⟨p, k, none⟩) (store2_far (by show p ≠ s; omega))
  have e2 : ∀ k : Nat, ((wx.setCell ⟨s, 0, none⟩ u).setCell ⟨s, 1, none⟩ v).cell? ⟨q, k, none⟩ = wx.cell? ⟨q, k, none⟩ := fun k => World.cell?_of_block (a := ⟨q, k, none⟩) (store2_far (by show q ≠ s; omega))
  exact ⟨⟨(e1 0).trans h.1.1, (e1 1).trans h.1.2.1, (e2 0).trans h.1.2.2.1, (e2 1).trans h.1.2.2.2⟩, store2_below h.2 hs⟩
end
def Lsm (s : Nat × Bool × Bool) : Array Bool := #[true, Nat.ble 1 s.1, true, Nat.ble 2 s.1, s.2.1, s.2.2, false, false]
def Msm (s : Nat × Bool × Bool) : Nat := (2 - s.1) + (if s.2.1 then 0 else 1) + (if s.2.2 then 0 else 1)

set_option maxHeartbeats 4000000 in
theorem same_g (an ar : Option Addr) (nn cn nr cr : Nat) (ns : List Nd) (rs : List Int) (an' ar' : Option Addr) (nn' cn' nr' cr' : Nat) (ns' : List Nd) (rs' : List Int) (w : World) (G : GOk w an nn cn ar nr cr ns rs) (G' : GOk w an' nn' cn' ar' nr' cr' ns' rs') (hT : Tabs w) :
    Calls Tryd.prog 18 #[GVal an nn cn ar nr cr, GVal an' nn' cn' ar' nr' cr'] w fun e w' => e = .returned (.bool (sameGB ns rs ns' rs')) ∧ Below w.heap.size w w' := by
  have HG := hid G
  have HG' := hid G'
  have HT := hid hT
  unfold GVal
  clear G G' hT
  go_enter Tryd.func18, Tryd.ntmps18
  go_wp2_with fail
  have bA := Baa w (.cells #[.slice an nn cn, .slice ar nr cr] 25) (.cells #[.slice an' nn' cn', .slice ar' nr' cr'] 25)
  have x1 := (GBox.new 25 w an ar nn cn nr cr).on (Ba (w.alloc (.cells #[.slice an nn cn, .slice ar nr cr] 25)) (.cells #[.slice an' nn' cn', .slice ar' nr' cr'] 25))
  have x2 := GBox.new 25 (w.alloc (.cells #[.slice an nn cn, .slice ar nr cr] 25)) an' ar' nn' cn' nr' cr'
  rw [size_alloc] at x2
  generalize (w.alloc (.cells #[.slice an nn cn, .slice ar nr cr] 25)).alloc (.cells #[.slice an' nn' cn', .slice ar' nr' cr'] 25) = W1 at *
  obtain ⟨g1, hg1⟩ : ∃ g, g = w.heap.size := ⟨_, rfl⟩
  obtain ⟨g2, hg2⟩ : ∃ g, g = w.heap.size + 1 := ⟨_, rfl⟩
  rw [← hg2] at x2
  rw [← hg1] at x1
  rw [← hg2, ← hg1]
  clear hg1 hg2
  refine (good_g an ar nn cn nr cr ns rs W1 (HG.out.is.below bA) HG.out.small HG.out.nn_le (HT.out.below bA)).mono ?_
  rintro e w2 ⟨rfl, b2⟩
  have y1 := x1.on b2
  have y2 := x2.on b2
  have HB2 := hid (Bt bA b2)
  have Y1 := hid y1
  have Y2 := hid y2
  obtain ⟨z1, z2⟩ := y1.c
  obtain ⟨v1, v2⟩ := y2.c
  clear bA x1 x2 b2 y1 y2
  obtain ⟨gd, hgd⟩ : ∃ gd, gd = goodG ns rs := ⟨_, rfl⟩
  rw [← hgd]
  have HGD := hid hgd
  clear hgd
  cases gd
  · go_wp2_with fail
    go_ret
    exact ⟨by unfold sameGB; rw [← HGD.out]; simp, HB2.out⟩
  · go_wp2_with fail
    refine (good_g an' ar' nn' cn' nr' cr' ns' rs' w2 (HG'.out.is.below HB2.out) HG'.out.small HG'.out.nn_le (HT.out.below HB2.out)).mono ?_
    rintro e w3 ⟨rfl, b3⟩
    have HB3 := hid (Bt HB2.out b3)
    have Z1 := hid (Y1.out.on b3)
    have Z2 := hid (Y2.out.on b3)
    clear z1 z2 v1 v2
    obtain ⟨z1, z2⟩ := Z1.out.c
    obtain ⟨v1, v2⟩ := Z2.out.c
    clear b3
    obtain ⟨gd', hgd'⟩ : ∃ gd, gd = goodG ns' rs' := ⟨_, rfl⟩
    rw [← hgd']
    have HGD' := hid hgd'
    clear hgd'
    cases gd'
    · go_wp2_with fail
      go_ret
      exact ⟨by unfold sameGB; rw [← HGD'.out]; simp, HB3.out⟩
    · go_wp2_with fail
      have HG3 := hid (HG.out.below HB3.out)
      have HG3' := hid (HG'.out.below HB3.out)
      have HT3 := hid (HT.out.below HB3.out)
      have hlt1 := Z1.out.lt
      have hlt2 := Z2.out.lt
      have HS0 : Hid (GHeld w3 g1 g2 (.slice an nn cn) (.slice ar nr cr) (.slice an' nn' cn') (.slice ar' nr' cr') w3) := ⟨⟨z1, z2, v1, v2⟩, Below.refl _ _⟩
      clear HG HG' HT HB2 Y1 Y2 z1 z2 v1 v2
      refine wp_region_held_drew (S := GHeld w3 g1 g2 (.slice an nn cn) (.slice ar nr cr) (.slice an' nn' cn') (.slice ar' nr' cr')) (by kernel_rfl) (HS0.out.on (Bd w3 1)) (fun hHeld => ?_)
      refine htake 0 (some 15) (.agg #[.slice an nn cn, .slice ar nr cr]) rfl rfl (by kernel_rfl) (by kernel_rfl) (by kernel_rfl) (fun _ _ _ h => h) (Or.inl ⟨by rfl, fun wx hSw => ?_⟩) (by assumption) ?_
      · obtain ⟨⟨s0, s1, s2, s3⟩, _⟩ := hSw
        go_simp
      simp only [Act.put, List.setIfInBounds_toArray, List.set_cons_zero, List.set_cons_succ]
      refine htake 2 (some 17) (.agg #[.slice an' nn' cn', .slice ar' nr' cr']) rfl rfl (by kernel_rfl) (by kernel_rfl) (by kernel_rfl) (fun _ _ _ h => h) (Or.inl ⟨by rfl, fun wx hSw => ?_⟩) (by assumption) ?_
      · obtain ⟨⟨s0, s1, s2, s3⟩, _⟩ := hSw
        go_simp
      simp only [Act.put, List.setIfInBounds_toArray, List.set_cons_zero, List.set_cons_succ]
      refine wpAnyH_from Lsm Msm (fun a0 s a wx => s.1 ≤ 2 ∧ GHeld w3 g1 g2 (.slice an nn cn) (.slice ar nr cr) (.slice an' nn' cn') (.slice ar' nr' cr') wx ∧ ∃ t16 t18 t5 t6, a = (((a0.put (some 16) t16).put (some 18) t18).put (some 5) t5).put (some 6) t6 ∧ SSt w3 (canonN ns rs) (canonN ns' rs') s.1 s.2.1 s.2.2 t16 t18 t5 t6 wx) 2 4 (0, false, false) rfl ?_ ?_
      · exact ⟨by decide, hHeld, undef, undef, undef, undef, rfl, SSt.mk0 (Bd w3 1)⟩
      clear hHeld
      rintro ⟨k, al, be⟩ a wx ⟨hk, hH, t16, t18, t5, t6, rfl, hst⟩
      simp only [Act.put, List.setIfInBounds_toArray, List.set_cons_zero, List.set_cons_succ]
      simp only at hk hst
      have HHe := hid hH
      have HSt := hid hst
      clear hH hst
      rcases (show k = 0 ∨ k = 1 ∨ k = 2 by omega) with rfl | rfl | rfl <;> clear hk <;> cases al <;> cases be
      · refine .inr ⟨[1, 4, 5], by decide, by kernel_rfl, by simp, ?_⟩
        refine Steps.cons (1, false, false) rfl rfl rfl (fun K hK => ?_) ?_
        · go_simp; go_at_call 11; refine (canonN_any (HG3.out.below HSt.out.bel) (HT3.out.below HSt.out.bel)).mono ?_; rintro e wy ⟨b1, b2, b3, b4, b5, b6, rfl, iv, bv⟩; exact hK.out _ _ (HHe.out.on bv) ⟨by decide, HHe.out.on bv, _, t18, t5, t6, rfl, HSt.out.s1 bv ⟨_, _, _, _, _, _, rfl, iv⟩⟩
        refine Steps.cons (0, true, false) rfl rfl rfl (fun K hK => ?_) ?_
        · go_simp; exact hK.out _ _ (HHe.out.on (Ba _ _)) ⟨by decide, HHe.out.on (Ba _ _), t16, t18, .pointer (some ⟨wx.heap.size, 0, none⟩), t6, rfl, HSt.out.a5⟩
        refine Steps.cons (0, false, true) rfl rfl rfl (fun K hK => ?_) ?_
        · go_simp; exact hK.out _ _ (HHe.out.on (Ba _ _)) ⟨by decide, HHe.out.on (Ba _ _), t16, t18, t5, .pointer (some ⟨wx.heap.size, 0, none⟩), rfl, HSt.out.a6⟩
        exact Steps.nil
      · refine .inr ⟨[1, 4], by decide, by kernel_rfl, by simp, ?_⟩
        refine Steps.cons (1, false, true) rfl rfl rfl (fun K hK => ?_) ?_
        · go_simp; go_at_call 11; refine (canonN_any (HG3.out.below HSt.out.bel) (HT3.out.below HSt.out.bel)).mono ?_; rintro e wy ⟨b1, b2, b3, b4, b5, b6, rfl, iv, bv⟩; exact hK.out _ _ (HHe.out.on bv) ⟨by decide, HHe.out.on bv, _, t18, t5, t6, rfl, HSt.out.s1 bv ⟨_, _, _, _, _, _, rfl, iv⟩⟩
        refine Steps.cons (0, true, true) rfl rfl rfl (fun K hK => ?_) ?_
        · go_simp; exact hK.out _ _ (HHe.out.on (Ba _ _)) ⟨by decide, HHe.out.on (Ba _ _), t16, t18, .pointer (some ⟨wx.heap.size, 0, none⟩), t6, rfl, HSt.out.a5⟩
        exact Steps.nil
      · refine .inr ⟨[1, 5], by decide, by kernel_rfl, by simp, ?_⟩
        refine Steps.cons (1, true, false) rfl rfl rfl (fun K hK => ?_) ?_
        · go_simp; go_at_call 11; refine (canonN_any (HG3.out.below HSt.out.bel) (HT3.out.below HSt.out.bel)).mono ?_; rintro e wy ⟨b1, b2, b3, b4, b5, b6, rfl, iv, bv⟩; exact hK.out _ _ (HHe.out.on bv) ⟨by decide, HHe.out.on bv, _, t18, t5, t6, rfl, HSt.out.s1 bv ⟨_, _, _, _, _, _, rfl, iv⟩⟩
        refine Steps.cons (0, true, true) rfl rfl rfl (fun K hK => ?_) ?_
        · go_simp; exact hK.out _ _ (HHe.out.on (Ba _ _)) ⟨by decide, HHe.out.on (Ba _ _), t16, t18, t5, .pointer (some ⟨wx.heap.size, 0, none⟩), rfl, HSt.out.a6⟩
        exact Steps.nil
      · refine .inr ⟨[1], by decide, by kernel_rfl, by simp, ?_⟩
        refine Steps.cons (1, true, true) rfl rfl rfl (fun K hK => ?_) ?_
        · go_simp; go_at_call 11; refine (canonN_any (HG3.out.below HSt.out.bel) (HT3.out.below HSt.out.bel)).mono ?_; rintro e wy ⟨b1, b2, b3, b4, b5, b6, rfl, iv, bv⟩; exact hK.out _ _ (HHe.out.on bv) ⟨by decide, HHe.out.on bv, _, t18, t5, t6, rfl, HSt.out.s1 bv ⟨_, _, _, _, _, _, rfl, iv⟩⟩
        exact Steps.nil
      · refine .inr ⟨[3, 4, 5], by decide, by kernel_rfl, by simp, ?_⟩
        refine Steps.cons (2, false, false) rfl rfl rfl (fun K hK => ?_) ?_
        · go_simp; go_at_call 11; refine (canonN_any (HG3'.out.below HSt.out.bel) (HT3.out.below HSt.out.bel)).mono ?_; rintro e wy ⟨b1, b2, b3, b4, b5, b6, rfl, iv, bv⟩; exact hK.out _ _ (HHe.out.on bv) ⟨by decide, HHe.out.on bv, t16, _, t5, t6, rfl, HSt.out.s2 bv ⟨_, _, _, _, _, _, rfl, iv⟩⟩
        refine Steps.cons (1, true, false) rfl rfl rfl (fun K hK => ?_) ?_
        · go_simp; exact hK.out _ _ (HHe.out.on (Ba _ _)) ⟨by decide, HHe.out.on (Ba _ _), t16, t18, .pointer (some ⟨wx.heap.size, 0, none⟩), t6, rfl, HSt.out.a5⟩
        refine Steps.cons (1, false, true) rfl rfl rfl (fun K hK => ?_) ?_
        · go_simp; exact hK.out _ _ (HHe.out.on (Ba _ _)) ⟨by decide, HHe.out.on (Ba _ _), t16, t18, t5, .pointer (some ⟨wx.heap.size, 0, none⟩), rfl, HSt.out.a6⟩
        exact Steps.nil
      · refine .inr ⟨[3, 4], by decide, by kernel_rfl, by simp, ?_⟩
        refine Steps.cons (2, false, true) rfl rfl rfl (fun K hK => ?_) ?_
        · go_simp; go_at_call 11; refine (canonN_any (HG3'.out.below HSt.out.bel) (HT3.out.below HSt.out.bel)).mono ?_; rintro e wy ⟨b1, b2, b3, b4, b5, b6, rfl, iv, bv⟩; exact hK.out _ _ (HHe.out.on bv) ⟨by decide, HHe.out.on bv, t16, _, t5, t6, rfl, HSt.out.s2 bv ⟨_, _, _, _, _, _, rfl, iv⟩⟩
        refine Steps.cons (1, true, true) rfl rfl rfl (fun K hK => ?_) ?_
        · go_simp; exact hK.out _ _ (HHe.out.on (Ba _ _)) ⟨by decide, HHe.out.on (Ba _ _), t16, t18, .pointer (some ⟨wx.heap.size, 0, none⟩), t6, rfl, HSt.out.a5⟩
        exact Steps.nil
      · refine .inr ⟨[3, 5], by decide, by kernel_rfl, by simp, ?_⟩
        refine Steps.cons (2, true, false) rfl rfl rfl (fun K hK => ?_) ?_
        · go_simp; go_at_call 11; refine (canonN_any (HG3'.out.below HSt.out.bel) (HT3.out.below HSt.out.bel)).mono ?_; rintro e wy ⟨b1, b2, b3, b4, b5, b6, rfl, iv, bv⟩; exact hK.out _ _ (HHe.out.on bv) ⟨by decide, HHe.out.on bv, t16, _, t5, t6, rfl, HSt.out.s2 bv ⟨_, _, _, _, _, _, rfl, iv⟩⟩
        refine Steps.cons (1, true, true) rfl rfl rfl (fun K hK => ?_) ?_
        · go_simp; exact hK.out _ _ (HHe.out.on (Ba _ _)) ⟨by decide, HHe.out.on (Ba _ _), t16, t18, t5, .pointer (some ⟨wx.heap.size, 0, none⟩), rfl, HSt.out.a6⟩
        exact Steps.nil
      · refine .inr ⟨[3], by decide, by kernel_rfl, by simp, ?_⟩
        refine Steps.cons (2, true, true) rfl rfl rfl (fun K hK => ?_) ?_
        · go_simp; go_at_call 11; refine (canonN_any (HG3'.out.below HSt.out.bel) (HT3.out.below HSt.out.bel)).mono ?_; rintro e wy ⟨b1, b2, b3, b4, b5, b6, rfl, iv, bv⟩; exact hK.out _ _ (HHe.out.on bv) ⟨by decide, HHe.out.on bv, t16, _, t5, t6, rfl, HSt.out.s2 bv ⟨_, _, _, _, _, _, rfl, iv⟩⟩
        exact Steps.nil
      · refine .inr ⟨[4, 5], by decide, by kernel_rfl, by simp, ?_⟩
        refine Steps.cons (2, true, false) rfl rfl rfl (fun K hK => ?_) ?_
        · go_simp; exact hK.out _ _ (HHe.out.on (Ba _ _)) ⟨by decide, HHe.out.on (Ba _ _), t16, t18, .pointer (some ⟨wx.heap.size, 0, none⟩), t6, rfl, HSt.out.a5⟩
        refine Steps.cons (2, false, true) rfl rfl rfl (fun K hK => ?_) ?_
        · go_simp; exact hK.out _ _ (HHe.out.on (Ba _ _)) ⟨by decide, HHe.out.on (Ba _ _), t16, t18, t5, .pointer (some ⟨wx.heap.size, 0, none⟩), rfl, HSt.out.a6⟩
        exact Steps.nil
      · refine .inr ⟨[4], by decide, by kernel_rfl, by simp, ?_⟩
        refine Steps.cons (2, true, true) rfl rfl rfl (fun K hK => ?_) ?_
        · go_simp; exact hK.out _ _ (HHe.out.on (Ba _ _)) ⟨by decide, HHe.out.on (Ba _ _), t16, t18, .pointer (some ⟨wx.heap.size, 0, none⟩), t6, rfl, HSt.out.a5⟩
        exact Steps.nil
      · refine .inr ⟨[5], by decide, by kernel_rfl, by simp, ?_⟩
        refine Steps.cons (2, true, true) rfl rfl rfl (fun K hK => ?_) ?_
        · go_simp; exact hK.out _ _ (HHe.out.on (Ba _ _)) ⟨by decide, HHe.out.on (Ba _ _), t16, t18, t5, .pointer (some ⟨wx.heap.size, 0, none⟩), rfl, HSt.out.a6⟩
        exact Steps.nil
      · refine .inl ⟨rfl, ?_⟩
        obtain ⟨p5, rfl, hp5, B5⟩ := HSt.out.b5 rfl
        obtain ⟨p6, rfl, hp6, B6⟩ := HSt.out.b6 rfl
        have hne : p5 ≠ p6 := fun e => HSt.out.ne rfl rfl (by rw [e])
        obtain ⟨a1, n1, c1, a2, n2, c2, rfl, I1⟩ := HSt.out.i1 (by omega)
        obtain ⟨d1, m1, e1, d2, m2, e2, rfl, I2⟩ := HSt.out.i2 (by omega)
        unfold GVal
        have B56 : GBox 25 ((wx.setCell ⟨p5, 0, none⟩ (.slice a1 n1 c1)).setCell ⟨p5, 1, none⟩ (.slice a2 n2 c2)) p6 none 0 0 none 0 0 := (store2_far hne.symm).trans B6
        have HJ1 := hid ((I1.set2 B5 (.slice a1 n1 c1) (.slice a2 n2 c2)).set2 B56 (.slice d1 m1 e1) (.slice d2 m2 e2))
        have HJ2 := hid ((I2.set2 B5 (.slice a1 n1 c1) (.slice a2 n2 c2)).set2 B56 (.slice d1 m1 e1) (.slice d2 m2 e2))
        have HBW := hid (store2_below (v1 := .slice d1 m1 e1) (v2 := .slice d2 m2 e2) (store2_below (v1 := .slice a1 n1 c1) (v2 := .slice a2 n2 c2) HSt.out.bel hp5) hp6)
        have X5 := hid ((store2_far (g := p6) (v1 := .slice d1 m1 e1) (v2 := .slice d2 m2 e2) hne).trans (store2 (v1 := .slice a1 n1 c1) (v2 := .slice a2 n2 c2) B5))
        have X6 := hid (store2 (v1 := .slice d1 m1 e1) (v2 := .slice d2 m2 e2) B56)
        have c50 : wx.cell? ⟨p5, 0, none⟩ = some (.slice none 0 0) := blk_cell B5 0
        have c51 : wx.cell? ⟨p5, 1, none⟩ = some (.slice none 0 0) := blk_cell B5 1
        have f50 : wx.frozen? ⟨p5, 0, none⟩ = false := blk_free B5 0
        have f51 : wx.frozen? ⟨p5, 1, none⟩ = false := blk_free B5 1
        have HB56 := hid B56
        clear HSt I1 I2 B5 B6 B56
        refine hone 6 _ rfl (by kernel_rfl) (fun K hK => ?_)
        go_simp
        refine hK.out _ _ (HHe.out.set2 hp5 hlt1 hlt2) (fun hHeld => ?_)
        clear hK K c50 c51 f50 f51
        have c60 := blk_cell HB56.out 0
        have c61 := blk_cell HB56.out 1
        have f60 := blk_free HB56.out 0
        have f61 := blk_free HB56.out 1
        refine hone 7 _ rfl (by kernel_rfl) (fun K hK => ?_)
        go_simp
        refine hK.out _ _ (GHeld.set2 hHeld hp6 hlt1 hlt2) (fun hHeld2 => ?_)
        clear hK K c60 c61 f60 f61 hHeld hHeld2 HB56 HHe
        refine wpAnyH_done (by kernel_rfl) ?_ _
        generalize ((((wx.setCell ⟨p5, 0, none⟩ (.slice a1 n1 c1)).setCell ⟨p5, 1, none⟩ (.slice a2 n2 c2)).setCell ⟨p6, 0, none⟩ (.slice d1 m1 e1)).setCell ⟨p6, 1, none⟩ (.slice d2 m2 e2)) = W4 at *
        have u0 : W4.cell? ⟨p5, 0, none⟩ = some (.slice a1 n1 c1) := blk_cell X5.out 0
        have u1 : W4.cell? ⟨p5, 1, none⟩ = some (.slice a2 n2 c2) := blk_cell X5.out 1
        have u2 : W4.cell? ⟨p6, 0, none⟩ = some (.slice d1 m1 e1) := blk_cell X6.out 0
        have u3 : W4.cell? ⟨p6, 1, none⟩ = some (.slice d2 m2 e2) := blk_cell X6.out 1
        have HB4 := hid (Bt HB3.out HBW.out)
        clear HBW HB3 Z1 Z2 HS0 HG3 HG3' HT3 hp5 hp6 hne hlt1 hlt2
        go_wp2_with fail
        refine (eqNodes_any _ _ _ _ _ _ _ _ W4 HJ1.out.nodes HJ2.out.nodes).mono ?_
        rintro e w5 ⟨rfl, b5⟩
        have HJ3 := hid (HJ1.out.below b5)
        have HJ4 := hid (HJ2.out.below b5)
        have y5 := (b5.block p5 (Array.getElem?_eq_some_iff.1 X5.out).1).trans X5.out
        have y6 := (b5.block p6 (Array.getElem?_eq_some_iff.1 X6.out).1).trans X6.out
        clear u0 u1 u2 u3
        have u1 : w5.cell? ⟨p5, 1, none⟩ = some (.slice a2 n2 c2) := blk_cell y5 1
        have u3 : w5.cell? ⟨p6, 1, none⟩ = some (.slice d2 m2 e2) := blk_cell y6 1
        have HB5 := hid (Bt HB4.out b5)
        clear y5 y6 X5 X6 HJ1 HJ2 HB4 b5
        obtain ⟨q1, hq1⟩ : ∃ q, q = decide ((canonN ns rs).1 = (canonN ns' rs').1) := ⟨_, rfl⟩
        rw [← hq1]
        have HQ1 := hid hq1
        clear hq1
        have hsm : Hid (sameGB ns rs ns' rs' = (q1 && decide ((canonN ns rs).2 = (canonN ns' rs').2))) := by unfold Hid sameGB; rw [← HGD.out, ← HGD'.out, HQ1.out]; rfl
        cases q1
        · go_wp2_with fail
          go_ret
          exact ⟨by rw [hsm.out]; rfl, HB5.out⟩
        · go_wp2_with fail
          refine (eqInts_any _ _ _ _ _ _ _ _ w5 HJ3.out.roots HJ4.out.roots).mono ?_
          rintro e w6 ⟨rfl, b6⟩
          have HB6 := hid (Bt HB5.out b6)
          clear b6 u1 u3
          go_wp2_with fail
          go_ret
          exact ⟨by rw [hsm.out]; simp, HB6.out⟩
end Go.Proofs.YtaenegcnobindacDoor
