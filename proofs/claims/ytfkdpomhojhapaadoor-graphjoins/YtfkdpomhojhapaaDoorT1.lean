/-
  The walk of GraphTurns.
-/
import Derived.Test.YtfkdpomhojhapaaDoorC2
import Derived.Test.YtfkdpomhojhapaaDoorM3
import Derived.Test.YtfkdpomhojhapaaDoorK1
import Derived.Test.YtfkdpomhojhapaaDoorH6
import Derived.Test.YtfkdpomhojhapaaDoorJ1
import Derived.Test.YtfkdpomhojhapaaDoorM5
set_option linter.unusedVariables false
set_option linter.unusedSimpArgs false
namespace Go.Proofs.YtfkdpomhojhapaaDoor
open Go.RowKit

theorem ncs_set : ∀ {ls : List (Nd × (Option Addr × Nat × Nat))} {i : Nat} (a : Option Addr) (m c : Nat) (l' : List Int), i < ls.length → (ncs ls).set (i * 4 + 3) (.slice a m c) = ncs (ls.set i ({ (ls.getD i (default, none, 0, 0)).1 with kids := l' }, a, m, c))
  | [], _, _, _, _, _, h => by simp at h
  | x :: ls, 0, a, m, c, l', _ => by simp [ncs, nc]
  | x :: ls, i + 1, a, m, c, l', h => by
    have ih := ncs_set (ls := ls) (i := i) a m c l' (by simpa using h)
    have e : (i + 1) * 4 + 3 = (nc x).length + (i * 4 + 3) := by simp [nc]; omega
    simp only [ncs, List.flatMap_cons, List.set_cons_succ, List.getD_cons_succ] at *
    rw [e, List.set_append_right _ _ (by omega), Nat.add_sub_cancel_left, ih]
/-- Node i's kids are set one by one: its block, the row of its kids, and that nothing else changed. -/
structure KI (w Wi : World) (gN : Nat) (cur : Array Value) (i : Nat) (v : Value) (l : List Int) (wz : World) : Prop where
  cells : wz.heap[gN]? = some (.cells (cur.setIfInBounds (i * 4 + 3) v) 32 (0, 0))
  gNl : gN < Wi.heap.size
  row : wz.ownsRow Wi.heap.size 3 1 v l.length (cz l)
  keep : ∀ b, b < Wi.heap.size → b ≠ gN → wz.heap[b]? = Wi.heap[b]?
  size : Wi.heap.size ≤ wz.heap.size
  bel : Below w.heap.size w wz
  gw : w.heap.size ≤ gN
  wi : w.heap.size ≤ Wi.heap.size
section
variable {w Wi : World} {gN : Nat} {cur : Array Value} {i : Nat} {v : Value} {l : List Int} {wz wy : World}
theorem KI.on_ (h : KI w Wi gN cur i v l wz) (hb : Below wz.heap.size wz wy) : KI w Wi gN cur i v l wy :=
  ⟨(hb.block gN (Nat.lt_of_lt_of_le h.gNl h.size)).trans h.cells, h.gNl, owns_on h.row hb, fun b h1 h2 => (hb.block b (Nat.lt_of_lt_of_le h1 h.size)).trans (h.keep b h1 h2), Nat.le_trans h.size hb.size, h.bel.trans (hb.mono h.bel.size), h.gw, h.wi⟩
theorem KI.grown (h : KI w Wi gN cur i v l wz) (hg : wz.grownBy wy v.ownBlock) : wy.heap[gN]? = some (.cells (cur.setIfInBounds (i * 4 + 3) v) 32 (0, 0)) ∧ (∀ b, b < Wi.heap.size → wy.heap[b]? = wz.heap[b]?) := by
  have hr : ∀ b, b < Wi.heap.size → some b ≠ v.ownBlock := fun b hb e => by have := (h.row.lt b e.symm).1; omega
  exact ⟨(hg.block gN (Nat.lt_of_lt_of_le h.gNl h.size) (hr gN h.gNl)).trans h.cells, fun b hb => hg.block b (Nat.lt_of_lt_of_le hb h.size) (hr b hb)⟩
theorem KI.push (h : KI w Wi gN cur i v l wz) (hg : wz.grownBy wy v.ownBlock) {v' : Value} {z : Int} {n : Nat} (ho : wy.ownsRow Wi.heap.size 3 1 v' n (cz (l ++ [z]))) : KI w Wi gN cur i v' (l ++ [z]) (wy.setCell ⟨gN, i * 4 + 3, none⟩ v') := by
  obtain ⟨h1, h2⟩ := h.grown hg
  have hn : n = (l ++ [z]).length := by have := ho.1; rw [cz_length] at this; omega
  subst hn
  have hs : (wy.setCell ⟨gN, i * 4 + 3, none⟩ v').heap.size = wy.heap.size := by simp [World.setCell]
  refine ⟨?_, h.gNl, owns_afar ho (fun e => by have := (ho.lt gN e).1; have := h.gNl; omega), fun b hb hbg => (Below.heap_setCell _ _ _ _ hbg).trans ((h2 b hb).trans (h.keep b hb hbg)), by rw [hs]; exact Nat.le_trans h.size hg.size, (h.bel.trans ((Below.refl _ _).grown hg (Nat.le_trans h.wi h.size) (fun k hk => Nat.le_trans h.wi (h.row.lt k hk).1))).setCell (p := ⟨gN, i * 4 + 3, none⟩) h.gw _, h.gw, h.wi⟩
  have := blk_set (i := i * 4 + 3) h1 v'
  rw [this]; simp
/-- They are nodes still. -/
theorem KI.nown {base cN : Nat} {ls : List (Nd × (Option Addr × Nat × Nat))} {a : Option Addr} {m c : Nat} (h : KI w Wi gN cur i (.slice a m c) l wz) (hcur : Wi.heap[gN]? = some (.cells cur 32 (0, 0))) (hN : NOwn base Wi (.slice (some ⟨gN, 0, none⟩) ls.length cN) ls) (hi : i < ls.length) (hb : ∀ z ∈ l, I64 z) (hbase : base ≤ Wi.heap.size) :
    NOwn base wz (.slice (some ⟨gN, 0, none⟩) ls.length cN) (ls.set i ({ (ls.getD i (default, none, 0, 0)).1 with kids := l }, a, m, c)) := by
  have hmem : ls.getD i (default, none, 0, 0) ∈ ls := by rw [List.getD_eq_getElem?_getD, List.getElem?_eq_getElem hi]; exact List.getElem_mem hi
  obtain ⟨ao, cap, hv, hI⟩ := irow_of h.row hb
  cases hv
  refine ⟨?_, fun x hx => ?_, fun x hx => ?_⟩
  · rw [List.length_set]
    rcases hN.own.2 with ⟨h0, _⟩ | ⟨g', cap', cur', h1, h2, h3, h4, h5, h6, h7⟩
    · cases h0
    · cases h1
      rw [hcur] at h3
      cases h3
      refine ⟨by rw [ncs_length, List.length_set], .inr ⟨gN, cN, _, rfl, h2, h.cells, h4, h5, by rw [Array.size_setIfInBounds]; exact h6, ?_⟩⟩
      rw [← ncs_set a l.length c l hi, ← h7]
      rw [Array.toList_setIfInBounds]
      rw [List.take_set]
  · rcases List.mem_or_eq_of_mem_set hx with hx | hx
    · obtain ⟨q1, q2⟩ := hN.kids x hx
      refine ⟨q1.frame h.size (fun ad had => ?_), fun ad had => ?_⟩
      · obtain ⟨r1, r2, r3⟩ := q2 ad had
        exact h.keep _ r2 (fun e => r3 (by rw [e]; rfl))
      · obtain ⟨r1, r2, r3⟩ := q2 ad had
        exact ⟨r1, Nat.lt_of_lt_of_le r2 h.size, r3⟩
    · subst hx
      refine ⟨hI, fun ad had => ?_⟩
      have had' : a = some ad := had
      have hl := h.row.lt ad.block (by rw [had']; rfl)
      exact ⟨by omega, hl.2, fun e => by have e' : gN = ad.block := Option.some.inj e; have := h.gNl; omega⟩
  · rcases List.mem_or_eq_of_mem_set hx with hx | hx
    · exact hN.ok x hx
    · subst hx; exact ⟨(hN.ok _ hmem).1, (hN.ok _ hmem).2.1, (hN.ok _ hmem).2.2⟩
end
end Go.Proofs.YtfkdpomhojhapaaDoor

set_option linter.unusedVariables false
set_option linter.unusedSimpArgs false
set_option maxRecDepth 100000
namespace Go.Proofs.YtfkdpomhojhapaaDoor
open Go.RowKit

/-- A block of truths. -/
def cb (l : List Bool) : List Value := l.map Value.bool
def BBlk (w : World) (g : Nat) (l : List Bool) : Prop := w.heap[g]? = some (.cells (cb l).toArray 4 (0, 0))
theorem BBlk.lt {w : World} {g : Nat} {l : List Bool} (h : BBlk w g l) : g < w.heap.size := (Array.getElem?_eq_some_iff.1 h).1
theorem BBlk.cell {w : World} {g : Nat} {l : List Bool} (h : BBlk w g l) {i : Nat} (hi : i < l.length) : w.cell? ⟨g, i, none⟩ = some (.bool (l.getD i false)) := by
  rw [blk_cell h]; simp [cb, List.getElem?_eq_getElem hi]
theorem BBlk.free {w : World} {g : Nat} {l : List Bool} (h : BBlk w g l) (i : Nat) : w.frozen? ⟨g, i, none⟩ = false := blk_free h i
theorem BBlk.set {w : World} {g : Nat} {l : List Bool} (h : BBlk w g l) (i : Nat) (z : Bool) : BBlk (w.setCell ⟨g, i, none⟩ (.bool z)) g (l.set i z) := by
  have := blk_set (i := i) h (.bool z)
  unfold BBlk
  rw [this]
  congr 2
  simp [cb, List.map_set]
theorem BBlk.on {w w' : World} {g : Nat} {l : List Bool} (h : BBlk w g l) (hb : w'.heap[g]? = w.heap[g]?) : BBlk w' g l := hb.trans h
theorem made_cb (N : Nat) : madeCells #[Value.bool false] N = (cb (List.replicate N false)).toArray := by
  apply Array.ext
  · rw [size_madeCells]; simp [cb]
  · intro i h1 h2
    simp [madeCells, cb, Nat.mod_one]
theorem info_bool : (Tryd.prog.info? 4).map (fun i => (i.zero, i.size, i.bytes)) = some (some (.bool false), 1, 1) := by kernel_rfl
theorem bset_self {l : List Bool} {i : Nat} (h : i < l.length) : (l.set i true).getD i false = true := by
  rw [List.getD_eq_getElem?_getD, List.getElem?_set_self h]; rfl
theorem bset_mono {l : List Bool} {i j : Nat} (h : l.getD j false = true) : (l.set i true).getD j false = true := by
  by_cases e : i = j
  · subst e
    by_cases hl : i < l.length
    · exact bset_self hl
    · rw [List.getD_eq_getElem?_getD, List.getElem?_eq_none (by omega)] at h; cases h
  · rw [List.getD_eq_getElem?_getD, List.getElem?_set_ne e, ← List.getD_eq_getElem?_getD]; exact h
theorem fine_of {ns : List Nd} {rs : List Int} (hf : fewB ns rs 100 = true) (hg : goodG ns rs = true) : Fine ns rs 100001 := by
  obtain ⟨f1, f2, f3, f4⟩ := few_parts hf
  exact ⟨hg, f4, by omega, by omega⟩
theorem h4_on {w1 wx wy : World} {p q : Nat} {a0 a1 b0 b1 : Value} (h : wx.cell? ⟨p, 0, none⟩ = some a0 ∧ wx.cell? ⟨p, 1, none⟩ = some a1 ∧ wx.cell? ⟨q, 0, none⟩ = some b0 ∧ wx.cell? ⟨q, 1, none⟩ = some b1 ∧ Below w1.heap.size w1 wx) (hb : Below wx.heap.size wx wy) : wy.cell? ⟨p, 0, none⟩ = some a0 ∧ wy.cell? ⟨p, 1, none⟩ = some a1 ∧ wy.cell? ⟨q, 0, none⟩ = some b0 ∧ wy.cell? ⟨q, 1, none⟩ = some b1 ∧ Below w1.heap.size w1 wy := by
  obtain ⟨h1, h2, h3, h4, h7⟩ := h
  exact ⟨(hb.cell (p := ⟨p, 0, none⟩) (cell_lt h1)).trans h1, (hb.cell (p := ⟨p, 1, none⟩) (cell_lt h1)).trans h2, (hb.cell (p := ⟨q, 0, none⟩) (cell_lt h3)).trans h3, (hb.cell (p := ⟨q, 1, none⟩) (cell_lt h3)).trans h4, Bt h7 hb⟩
theorem h4_bel {w1 wx : World} {p q : Nat} {a0 a1 b0 b1 : Value} (h : wx.cell? ⟨p, 0, none⟩ = some a0 ∧ wx.cell? ⟨p, 1, none⟩ = some a1 ∧ wx.cell? ⟨q, 0, none⟩ = some b0 ∧ wx.cell? ⟨q, 1, none⟩ = some b1 ∧ Below w1.heap.size w1 wx) : Below w1.heap.size w1 wx := h.2.2.2.2

end Go.Proofs.YtfkdpomhojhapaaDoor

set_option linter.unusedVariables false
set_option linter.unusedSimpArgs false
set_option maxRecDepth 100000
namespace Go.Proofs.YtfkdpomhojhapaaDoor
open Go.RowKit

theorem turn_by {n : Nat} (hn : 0 < n) (b : Int) : ∃ k : Nat, k < n ∧ Int.tmod (Int.tmod b n + n) n = (k : Int) := by
  have h1 : (Int.tmod b n).natAbs < n := by
    rw [Int.natAbs_tmod]; exact Nat.mod_lt _ (by omega)
  have h2 : 0 ≤ Int.tmod b n + n := by omega
  have h3 : Int.tmod (Int.tmod b n + n) n = (Int.tmod b n + n) % n := Int.tmod_eq_emod_of_nonneg h2
  have h4 := Int.emod_nonneg (Int.tmod b n + n) (by omega : (n : Int) ≠ 0)
  have h5 := Int.emod_lt_of_pos (Int.tmod b n + n) (by omega : (0 : Int) < n)
  exact ⟨((Int.tmod b n + n) % n).toNat, by omega, by rw [h3]; omega⟩
theorem tmod_turn {n k : Nat} {z : Int} (hk : k < n) (h0 : 0 ≤ z) (h1 : z < n) : Int.tmod (z - k + n) n = turnI n k z := by
  unfold turnI; exact Int.tmod_eq_emod_of_nonneg (by omega)
theorem tmod_at {n i k : Nat} : Int.tmod ((i : Int) + (k : Int)) (n : Int) = (((i + k) % n : Nat) : Int) := by
  rw [Int.tmod_eq_emod_of_nonneg (by omega)]; simp

/-- Nodes are kept where their blocks are. -/
theorem NOwn.kept {base : Nat} {w w' : World} {v : Value} {l : List (Nd × (Option Addr × Nat × Nat))} (h : NOwn base w v l) (hb : ∀ b, base ≤ b → b < w.heap.size → w'.heap[b]? = w.heap[b]?) (hs : w.heap.size ≤ w'.heap.size) : NOwn base w' v l := by
  refine ⟨⟨h.own.1, ?_⟩, fun x hx => ⟨(h.kids x hx).1.frame hs (fun ad had => hb _ ((h.kids x hx).2 ad had).1 ((h.kids x hx).2 ad had).2.1), fun ad had => by obtain ⟨q1, q2, q3⟩ := (h.kids x hx).2 ad had; exact ⟨q1, Nat.lt_of_lt_of_le q2 hs, q3⟩⟩, h.ok⟩
  rcases h.own.2 with h0 | ⟨g, cap, cur, h1, h2, h3, h4⟩
  · exact .inl h0
  · exact .inr ⟨g, cap, cur, h1, h2, (hb g h2 (Array.getElem?_eq_some_iff.1 h3).1).trans h3, h4⟩
/-- While a number is put behind others: what slots hold. -/
structure QSt (W2 : World) (vR : Value) (z : Int) (k : Bool) (al : Bool) (t1 t2 : Value) (wx : World) : Prop where
  bel : Below W2.heap.size W2 wx
  i0 : al = true → t1 = vR
  i1 : k = true → ∃ g, t2 = .slice (some ⟨g, 0, none⟩) 1 1 ∧ wx.heap[g]? = some (.cells #[.int .i64 z] 3 (0, 0))
section
variable {W2 wx wy : World} {vR : Value} {z : Int} {k al : Bool} {t1 t2 : Value}
theorem QSt.mk0 (hb : Below W2.heap.size W2 wx) : QSt W2 vR z false false t1 t2 wx := ⟨hb, fun e => (by cases e), fun e => (by cases e)⟩
theorem QSt.load (h : QSt W2 vR z k false t1 t2 wx) : QSt W2 vR z k true vR t2 wx := ⟨h.bel, fun _ => rfl, h.i1⟩
theorem QSt.build (h : QSt W2 vR z false al t1 t2 wx) : QSt W2 vR z true al t1 (.slice (some ⟨wx.heap.size, 0, none⟩) 1 1) (wx.alloc (.cells #[.int .i64 z] 3)) :=
  ⟨Bt h.bel (Ba _ _), h.i0, fun _ => ⟨_, rfl, blk_new _ _ _⟩⟩
end
/-- A box's cell and a root's. -/
def QH (gb b o : Nat) (v : Value) (z : Int) (wx : World) : Prop := wx.cell? ⟨gb, 1, none⟩ = some v ∧ wx.cell? ⟨b, o, none⟩ = some (.int .i64 z)
theorem QH.on {gb b o : Nat} {v : Value} {z : Int} {wx wy : World} (h : QH gb b o v z wx) (hb : Below wx.heap.size wx wy) : QH gb b o v z wy :=
  ⟨(hb.cell (p := ⟨gb, 1, none⟩) (cell_lt h.1)).trans h.1, (hb.cell (p := ⟨b, o, none⟩) (cell_lt h.2)).trans h.2⟩
theorem QH.far {gb b o : Nat} {v : Value} {z : Int} {wx wy : World} (h : QH gb b o v z wx) (h1 : wy.heap[gb]? = wx.heap[gb]?) (h2 : wy.heap[b]? = wx.heap[b]?) : QH gb b o v z wy :=
  ⟨(World.cell?_of_block (a := ⟨gb, 1, none⟩) h1).trans h.1, (World.cell?_of_block (a := ⟨b, o, none⟩) h2).trans h.2⟩
def Lqn (s : Bool × Bool) : Array Bool := #[true, s.2, true, true, true, true, true, true, true, true, true, true, true, s.1, false, false, false]
def Mqn (s : Bool × Bool) : Nat := (if s.1 then 0 else 1) + (if s.2 then 0 else 1)
/-- The roots are put behind one another. -/
structure RInv (w Wl : World) (gt : Nat) (tG : TypeId) (vN vR : Value) (l : List Int) (wr : World) : Prop where
  out : wr.heap[gt]? = some (.cells #[vN, vR] tG (0, 0))
  own : wr.ownsRow Wl.heap.size 3 1 vR l.length (cz l)
  keep : ∀ b, b < Wl.heap.size → b ≠ gt → wr.heap[b]? = Wl.heap[b]?
  size : Wl.heap.size ≤ wr.heap.size
  bel : Below w.heap.size w wr

theorem raw_of_good {ns : List Nd} {rs : List Int} (hg : goodG ns rs = true) (hn : ns.length ≤ 1000) (hk : ∀ d ∈ ns, d.kids.length ≤ 100) : Raw ns rs := by
  obtain ⟨h1, h2⟩ := goodG_parts hg
  exact ⟨fun d hd => ⟨fun z hz => by have := places_rng (h1 d hd) z hz; omega, by have := hk d hd; omega⟩, fun z hz => by have := places_rng h2 z hz; omega⟩
theorem turned_kids {ns : List Nd} {b : Nat} (hn : 0 < ns.length) (hk : ∀ d ∈ ns, d.kids.length ≤ 100) : ∀ d ∈ turnN ns b, d.kids.length ≤ 100 := by
  intro d hd
  unfold turnN at hd
  obtain ⟨i, hi, rfl⟩ := List.mem_map.1 hd
  have := hk _ (getD_mem_nd (Nat.mod_lt (i + b) hn))
  simpa [turnD] using this
theorem turned_small {ns : List Nd} {b : Nat} (hn : 0 < ns.length) (hk : smallG ns) : smallG (turnN ns b) := by
  intro d hd
  unfold turnN at hd
  obtain ⟨i, hi, rfl⟩ := List.mem_map.1 hd
  exact hk (ns.getD ((i + b) % ns.length) default) (getD_mem_nd (Nat.mod_lt (i + b) hn))
theorem joined_kids {a b : List Nd} (ha : ∀ d ∈ a, d.kids.length ≤ 100) (hb : ∀ d ∈ b, d.kids.length ≤ 100) : ∀ d ∈ joinN a b, d.kids.length ≤ 100 := by
  intro d hd
  unfold joinN at hd
  rcases List.mem_append.1 hd with hd | hd
  · obtain ⟨e, he, rfl⟩ := List.mem_map.1 hd; simpa [movedN, movedL] using ha e he
  · obtain ⟨e, he, rfl⟩ := List.mem_map.1 hd; simpa [movedN, movedL] using hb e he
theorem joined_small {a b : List Nd} (ha : smallG a) (hb : smallG b) : smallG (joinN a b) := by
  intro d hd
  unfold joinN at hd
  rcases List.mem_append.1 hd with hd | hd
  · obtain ⟨e, he, rfl⟩ := List.mem_map.1 hd; exact ha e he
  · obtain ⟨e, he, rfl⟩ := List.mem_map.1 hd; exact hb e he
theorem goodG_turn {ns : List Nd} {rs : List Int} {b : Nat} (hg : goodG ns rs = true) (hn : 0 < ns.length) : goodG (turnN ns b) (rs.map (turnI ns.length b)) = true := by
  have := good_turned (hs := []) (hr := []) (b := b) rfl hg hn
  rw [joinN_nil, show (([] : List Nd).length : Int) = 0 from rfl, movedL_zero] at this
  exact this
theorem canonG_turn {ns : List Nd} {rs : List Int} {b f : Nat} (hF : Fine ns rs f) (hb : b < ns.length) : canonG (turnN ns b) (rs.map (turnI ns.length b)) f = canonG ns rs f := by
  have := canon_turned (hs := []) (hr := []) (b := b) rfl hF hb
  rw [joinN_nil, show (([] : List Nd).length : Int) = 0 from rfl, movedL_zero] at this
  exact this
/-- What is left of a row behind some numbers. -/
theorem IRow.rest {w : World} {b o n cap k : Nat} {l : List Int} (h : IRow w (Option.some ⟨b, o, none⟩) n cap l) (hk : k ≤ n) : IRow w (Option.some ⟨b, o + k, none⟩) (n - k) (cap - k) (l.drop k) := by
  have h1 := h.len
  have h2 := h.fits
  have h3 := h.most
  refine ⟨by rw [List.length_drop]; omega, by omega, by omega, fun e => (by cases e), fun z hz => h.bd z (List.mem_of_mem_drop hz), ?_⟩
  rcases h.rd with e | ⟨b', o', e, hl, hc⟩
  · left; rw [e]; simp
  · cases e
    right
    refine ⟨b, o + k, rfl, hl, fun i hi => ?_⟩
    rw [List.length_drop] at hi
    rw [Nat.add_assoc, hc (k + i) (by omega)]
    simp [List.getD_eq_getElem?_getD, List.getElem?_drop]


theorem addq (b o k : Nat) : Addr.add ⟨b, o, none⟩ k = ⟨b, o + k, none⟩ := by
  unfold Addr.add
  by_cases h : k = 0
  · subst h; simp
  · rw [if_neg h]
theorem IRow.behind {w : World} {ao : Option Addr} {n cap k : Nat} {l : List Int} (h : IRow w ao n cap l) (hk : k ≤ n) : IRow w (ao.map (fun x => x.add k)) (n - k) (cap - k) (l.drop k) := by
  cases ao with
  | none =>
    have hc := h.nil_ rfl
    have h2 := h.fits
    have h1 := h.len
    have : l = [] := List.length_eq_zero_iff.1 (by omega)
    subst this
    obtain rfl : n = 0 := by omega
    obtain rfl : k = 0 := by omega
    subst hc
    exact IRow.nil _ _
  | some ad =>
    have h1 := h.len
    have h2 := h.fits
    have h3 := h.most
    rcases h.rd with e | ⟨b', o', e, hl, hc⟩
    · subst e
      refine ⟨by simp at h1; simp; omega, by omega, by omega, fun e => (by cases e), fun z hz => (by simp at hz), .inl (by simp)⟩
    · cases e
      show IRow w (Option.some (Addr.add ⟨b', o', none⟩ k)) _ _ _
      rw [addq]
      exact h.rest hk
theorem IRow.none_left {w : World} {ao : Option Addr} {n cap k : Nat} {l : List Int} (h : IRow w ao n cap l) (hk : n = k) : IRow w ao (n - k) (cap - k) (l.drop k) ∨ True := .inr trivial
theorem IRow.empty {w : World} {ao : Option Addr} {n cap : Nat} (h : n = 0) (hc : cap = 0) : IRow w ao n cap [] := by subst h hc; exact IRow.nil _ _
theorem drop_joined (a b : List Int) (k : Nat) (h : a.length = k) : (a ++ b).drop k = b := by subst h; simp

end Go.Proofs.YtfkdpomhojhapaaDoor
