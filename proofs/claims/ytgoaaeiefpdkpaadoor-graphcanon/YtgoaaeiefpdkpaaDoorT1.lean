/-
  The walk of GraphTurns.
-/
import Derived.Test.YtgoaaeiefpdkpaaDoorO1
import Derived.Test.YtgoaaeiefpdkpaaDoorJ1
import Derived.Test.YtgoaaeiefpdkpaaDoorM5
set_option linter.unusedVariables false
set_option linter.unusedSimpArgs false
set_option maxRecDepth 100000
namespace Go.Proofs.YtgoaaeiefpdkpaaDoor
open Go.RowKit

theorem turn_by {n : Nat} (hn : 0 < n) (b : Int) : ∃ k : Nat, k < n ∧ Int.tmod (Int.tmod b n + n) n = (k : Int) := by
  have h1 : (Int.tmod b n).natAbs < n := by
    rw [Int.natAbs_tmod]; exact Nat.mod_lt _ (by omega)
  have h2 : 0 ≤ Int.tmod b n + n := by omega
  have h3 : Int.tmod (Int.tmod b n + n) n = (Int.tmod b n + n) % n := Int.tmod_eq_emod_of_nonneg h2
  have h4 := Int.emod_nonneg (Int.tmod b n + n) (by omega : (n : Int) ≠ 0)
  have h5 := Int.emod_lt_of_pos (Int.tmod b n + n) (by omega : (0 : Int) < n)
  exact ⟨((Int.tmod b n + n) % n).toNat, by omega, by rw [h3]; omega⟩
theorem tmod_turn {n k : Nat} {z : Int} (hk : k < n) (h0 : 0 ≤ z) (h1 : z < n) : Int.tmod (z - k + n) n = turnI n k z := by
  unfold turnI; exact Int.tmod_eq_emod_of_nonneg (by omega)
theorem tmod_at {n i k : Nat} : Int.tmod ((i : Int) + (k : Int)) (n : Int) = (((i + k) % n : Nat) : Int) := by
  rw [Int.tmod_eq_emod_of_nonneg (by omega)]; simp

/-- Nodes are kept where their blocks are. -/
theorem NOwn.kept {base : Nat} {w w' : World} {v : Value} {l : List (Nd × (Option Addr × Nat × Nat))} (h : NOwn base w v l) (hb : ∀ b, base ≤ b → b < w.heap.size → w'.heap[b]? = w.heap[b]?) (hs : w.heap.size ≤ w'.heap.size) : NOwn base w' v l := by
  refine ⟨⟨h.own.1, ?_⟩, fun x hx => ⟨(h.kids x hx).1.frame hs (fun ad had => hb _ ((h.kids x hx).2 ad had).1 ((h.kids x hx).2 ad had).2.1), fun ad had => by obtain ⟨q1, q2, q3⟩ := (h.kids x hx).2 ad had; exact ⟨q1, Nat.lt_of_lt_of_le q2 hs, q3⟩⟩, h.ok⟩
  rcases h.own.2 with h0 | ⟨g, cap, cur, h1, h2, h3, h4⟩
  · exact .inl h0
  · exact .inr ⟨g, cap, cur, h1, h2, (hb g h2 (Array.getElem?_eq_some_iff.1 h3).1).trans h3, h4⟩
/-- While a number is put behind others: what slots hold. -/
structure QSt (W2 : World) (vR : Value) (z : Int) (k : Bool) (al : Bool) (t1 t2 : Value) (wx : World) : Prop where
  bel : Below W2.heap.size W2 wx
  i0 : al = true → t1 = vR
  i1 : k = true → ∃ g, t2 = .slice (some ⟨g, 0, none⟩) 1 1 ∧ wx.heap[g]? = some (.cells #[.int .i64 z] 3 (0, 0))
section
variable {W2 wx wy : World} {vR : Value} {z : Int} {k al : Bool} {t1 t2 : Value}
theorem QSt.mk0 (hb : Below W2.heap.size W2 wx) : QSt W2 vR z false false t1 t2 wx := ⟨hb, fun e => (by cases e), fun e => (by cases e)⟩
theorem QSt.load (h : QSt W2 vR z k false t1 t2 wx) : QSt W2 vR z k true vR t2 wx := ⟨h.bel, fun _ => rfl, h.i1⟩
theorem QSt.build (h : QSt W2 vR z false al t1 t2 wx) : QSt W2 vR z true al t1 (.slice (some ⟨wx.heap.size, 0, none⟩) 1 1) (wx.alloc (.cells #[.int .i64 z] 3)) :=
  ⟨Bt h.bel (Ba _ _), h.i0, fun _ => ⟨_, rfl, blk_new _ _ _⟩⟩
end
/-- A box's cell and a root's. -/
def QH (gb b o : Nat) (v : Value) (z : Int) (wx : World) : Prop := wx.cell? ⟨gb, 1, none⟩ = some v ∧ wx.cell? ⟨b, o, none⟩ = some (.int .i64 z)
theorem QH.on {gb b o : Nat} {v : Value} {z : Int} {wx wy : World} (h : QH gb b o v z wx) (hb : Below wx.heap.size wx wy) : QH gb b o v z wy :=
  ⟨(hb.cell (p := ⟨gb, 1, none⟩) (cell_lt h.1)).trans h.1, (hb.cell (p := ⟨b, o, none⟩) (cell_lt h.2)).trans h.2⟩
theorem QH.far {gb b o : Nat} {v : Value} {z : Int} {wx wy : World} (h : QH gb b o v z wx) (h1 : wy.heap[gb]? = wx.heap[gb]?) (h2 : wy.heap[b]? = wx.heap[b]?) : QH gb b o v z wy :=
  ⟨(World.cell?_of_block (a := ⟨gb, 1, none⟩) h1).trans h.1, (World.cell?_of_block (a := ⟨b, o, none⟩) h2).trans h.2⟩
def Lqn (s : Bool × Bool) : Array Bool := #[true, s.2, true, true, true, true, true, true, true, true, true, true, true, s.1, false, false, false]
def Mqn (s : Bool × Bool) : Nat := (if s.1 then 0 else 1) + (if s.2 then 0 else 1)
/-- The roots are put behind one another. -/
structure RInv (w Wl : World) (gt : Nat) (tG : TypeId) (vN vR : Value) (l : List Int) (wr : World) : Prop where
  out : wr.heap[gt]? = some (.cells #[vN, vR] tG (0, 0))
  own : wr.ownsRow Wl.heap.size 3 1 vR l.length (cz l)
  keep : ∀ b, b < Wl.heap.size → b ≠ gt → wr.heap[b]? = Wl.heap[b]?
  size : Wl.heap.size ≤ wr.heap.size
  bel : Below w.heap.size w wr

theorem raw_of_good {ns : List Nd} {rs : List Int} (hg : goodG ns rs = true) (hn : ns.length ≤ 1000) (hk : ∀ d ∈ ns, d.kids.length ≤ 100) : Raw ns rs := by
  obtain ⟨h1, h2⟩ := goodG_parts hg
  exact ⟨fun d hd => ⟨fun z hz => by have := places_rng (h1 d hd) z hz; omega, by have := hk d hd; omega⟩, fun z hz => by have := places_rng h2 z hz; omega⟩
theorem turned_kids {ns : List Nd} {b : Nat} (hn : 0 < ns.length) (hk : ∀ d ∈ ns, d.kids.length ≤ 100) : ∀ d ∈ turnN ns b, d.kids.length ≤ 100 := by
  intro d hd
  unfold turnN at hd
  obtain ⟨i, hi, rfl⟩ := List.mem_map.1 hd
  have := hk _ (getD_mem_nd (Nat.mod_lt (i + b) hn))
  simpa [turnD] using this
theorem turned_small {ns : List Nd} {b : Nat} (hn : 0 < ns.length) (hk : smallG ns) : smallG (turnN ns b) := by
  intro d hd
  unfold turnN at hd
  obtain ⟨i, hi, rfl⟩ := List.mem_map.1 hd
  exact hk (ns.getD ((i + b) % ns.length) default) (getD_mem_nd (Nat.mod_lt (i + b) hn))
theorem joined_kids {a b : List Nd} (ha : ∀ d ∈ a, d.kids.length ≤ 100) (hb : ∀ d ∈ b, d.kids.length ≤ 100) : ∀ d ∈ joinN a b, d.kids.length ≤ 100 := by
  intro d hd
  unfold joinN at hd
  rcases List.mem_append.1 hd with hd | hd
  · obtain ⟨e, he, rfl⟩ := List.mem_map.1 hd; simpa [movedN, movedL] using ha e he
  · obtain ⟨e, he, rfl⟩ := List.mem_map.1 hd; simpa [movedN, movedL] using hb e he
theorem joined_small {a b : List Nd} (ha : smallG a) (hb : smallG b) : smallG (joinN a b) := by
  intro d hd
  unfold joinN at hd
  rcases List.mem_append.1 hd with hd | hd
  · obtain ⟨e, he, rfl⟩ := List.mem_map.1 hd; exact ha e he
  · obtain ⟨e, he, rfl⟩ := List.mem_map.1 hd; exact hb e he
theorem goodG_turn {ns : List Nd} {rs : List Int} {b : Nat} (hg : goodG ns rs = true) (hn : 0 < ns.length) : goodG (turnN ns b) (rs.map (turnI ns.length b)) = true := by
  have := good_turned (hs := []) (hr := []) (b := b) rfl hg hn
  rw [joinN_nil, show (([] : List Nd).length : Int) = 0 from rfl, movedL_zero] at this
  exact this
theorem canonG_turn {ns : List Nd} {rs : List Int} {b f : Nat} (hF : Fine ns rs f) (hb : b < ns.length) : canonG (turnN ns b) (rs.map (turnI ns.length b)) f = canonG ns rs f := by
  have := canon_turned (hs := []) (hr := []) (b := b) rfl hF hb
  rw [joinN_nil, show (([] : List Nd).length : Int) = 0 from rfl, movedL_zero] at this
  exact this
/-- What is left of a row behind some numbers. -/
theorem IRow.rest {w : World} {b o n cap k : Nat} {l : List Int} (h : IRow w (Option.some ⟨b, o, none⟩) n cap l) (hk : k ≤ n) : IRow w (Option.some ⟨b, o + k, none⟩) (n - k) (cap - k) (l.drop k) := by
  have h1 := h.len
  have h2 := h.fits
  have h3 := h.most
  refine ⟨by rw [List.length_drop]; omega, by omega, by omega, fun e => (by cases e), fun z hz => h.bd z (List.mem_of_mem_drop hz), ?_⟩
  rcases h.rd with e | ⟨b', o', e, hl, hc⟩
  · left; rw [e]; simp
  · cases e
    right
    refine ⟨b, o + k, rfl, hl, fun i hi => ?_⟩
    rw [List.length_drop] at hi
    rw [Nat.add_assoc, hc (k + i) (by omega)]
    simp [List.getD_eq_getElem?_getD, List.getElem?_drop]


theorem addq (b o k : Nat) : Addr.add ⟨b, o, none⟩ k = ⟨b, o + k, none⟩ := by
  unfold Addr.add
  by_cases h : k = 0
  · subst h; simp
  · rw [if_neg h]
theorem IRow.behind {w : World} {ao : Option Addr} {n cap k : Nat} {l : List Int} (h : IRow w ao n cap l) (hk : k ≤ n) : IRow w (ao.map (fun x => x.add k)) (n - k) (cap - k) (l.drop k) := by
  cases ao with
  | none =>
    have hc := h.nil_ rfl
    have h2 := h.fits
    have h1 := h.len
    have : l = [] := List.length_eq_zero_iff.1 (by omega)
    subst this
    obtain rfl : n = 0 := by omega
    obtain rfl : k = 0 := by omega
    subst hc
    exact IRow.nil _ _
  | some ad =>
    have h1 := h.len
    have h2 := h.fits
    have h3 := h.most
    rcases h.rd with e | ⟨b', o', e, hl, hc⟩
    · subst e
      refine ⟨by simp at h1; simp; omega, by omega, by omega, fun e => (by cases e), fun z hz => (by simp at hz), .inl (by simp)⟩
    · cases e
      show IRow w (Option.some (Addr.add ⟨b', o', none⟩ k)) _ _ _
      rw [addq]
      exact h.rest hk
theorem IRow.none_left {w : World} {ao : Option Addr} {n cap k : Nat} {l : List Int} (h : IRow w ao n cap l) (hk : n = k) : IRow w ao (n - k) (cap - k) (l.drop k) ∨ True := .inr trivial
theorem IRow.empty {w : World} {ao : Option Addr} {n cap : Nat} (h : n = 0) (hc : cap = 0) : IRow w ao n cap [] := by subst h hc; exact IRow.nil _ _
theorem drop_joined (a b : List Int) (k : Nat) (h : a.length = k) : (a ++ b).drop k = b := by subst h; simp

set_option maxHeartbeats 8000000 in
theorem graphTurns_walk (an ar : Option Addr) (nn cn nr cr : Nat) (ns : List Nd) (rs : List Int) (ah bh : Option Addr) (nh ch mh dh : Nat) (hs : List Nd) (hr : List Int) (bi : Int) (w : World) (G : GIs w an nn cn ar nr cr ns rs) (G' : GIs w ah nh ch bh mh dh hs hr) (hbi : I64 bi) (hT : Tabs w) :
    Calls Tryd.prog 6 #[GVal an nn cn ar nr cr, GVal ah nh ch bh mh dh, .int .i64 bi] w fun e w' => e = .returned (.bool true) ∧ Below w.heap.size w w' := by
  have HG := hid G
  have HG' := hid G'
  have HT := hid hT
  have hlen := G.nodes.len
  have hrl := G.roots.len
  have hlen' := G'.nodes.len
  have hrl' := G'.roots.len
  have hn1 := G.nodes.fits
  have hn2 := G.nodes.most
  have hr1 := G.roots.fits
  have hr2 := G.roots.most
  have hn1' := G'.nodes.fits
  have hn2' := G'.nodes.most
  have hr1' := G'.roots.fits
  have hr2' := G'.roots.most
  obtain ⟨hb1, hb2⟩ := hbi
  unfold maxLen at hn2 hr2 hn2' hr2'
  unfold GVal
  clear G G' hT
  go_enter Tryd.func6, Tryd.ntmps6
  go_wp2_with fail
  have bA := Baa w (.cells #[.slice an nn cn, .slice ar nr cr] 25) (.cells #[.slice ah nh ch, .slice bh mh dh] 25)
  have x1 := (GBox.new 25 w an ar nn cn nr cr).on (Ba (w.alloc (.cells #[.slice an nn cn, .slice ar nr cr] 25)) (.cells #[.slice ah nh ch, .slice bh mh dh] 25))
  have x2 := GBox.new 25 (w.alloc (.cells #[.slice an nn cn, .slice ar nr cr] 25)) ah bh nh ch mh dh
  rw [size_alloc] at x2
  generalize (w.alloc (.cells #[.slice an nn cn, .slice ar nr cr] 25)).alloc (.cells #[.slice ah nh ch, .slice bh mh dh] 25) = W1 at *
  obtain ⟨gh, hgh⟩ : ∃ g, g = w.heap.size + 1 := ⟨_, rfl⟩
  obtain ⟨gb, hgb⟩ : ∃ g, g = w.heap.size := ⟨_, rfl⟩
  rw [← hgb] at x1
  rw [← hgh] at x2
  rw [← hgh, ← hgb]
  clear hgb hgh
  refine (few_any an ar nn cn nr cr ns rs 100 (by omega) W1 (HG.out.below bA)).mono ?_
  rintro e W ⟨rfl, b2⟩
  have HBW := hid (Bt bA b2)
  have Y1 := hid (x1.on b2)
  have Y2 := hid (x2.on b2)
  obtain ⟨c0, c1⟩ := Y1.out.c
  obtain ⟨d0, d1⟩ := Y2.out.c
  clear bA x1 x2 b2
  obtain ⟨fb, hfb⟩ : ∃ gd, gd = fewB ns rs 100 := ⟨_, rfl⟩
  rw [← hfb]
  have HFB := hid hfb
  clear hfb
  cases fb
  · go_wp2_with (go_at_call 13; refine (wakes_any _ (HT.out.below HBW.out)).mono ?_; rintro e w9 ⟨rfl, b9⟩)
    go_ret
    exact ⟨rfl, Bt HBW.out b9⟩
  obtain ⟨f1, f2, f3, f4⟩ := few_parts HFB.out.symm
  rw [hlen] at f1
  rw [hrl] at f2
  go_wp2_with fail
  refine (few_any ah bh nh ch mh dh hs hr 100 (by omega) W (HG'.out.below HBW.out)).mono ?_
  rintro e W2 ⟨rfl, b2⟩
  have HBW2 := hid (Bt HBW.out b2)
  have Z1 := hid (Y1.out.on b2)
  have Z2 := hid (Y2.out.on b2)
  clear c0 c1 d0 d1 b2 Y1 Y2 HBW
  obtain ⟨c0, c1⟩ := Z1.out.c
  obtain ⟨d0, d1⟩ := Z2.out.c
  obtain ⟨fb', hfb'⟩ : ∃ gd, gd = fewB hs hr 100 := ⟨_, rfl⟩
  rw [← hfb']
  have HFB' := hid hfb'
  clear hfb'
  cases fb'
  · go_wp2_with (go_at_call 13; refine (wakes_any _ (HT.out.below HBW2.out)).mono ?_; rintro e w9 ⟨rfl, b9⟩)
    go_ret
    exact ⟨rfl, Bt HBW2.out b9⟩
  obtain ⟨f1', f2', f3', f4'⟩ := few_parts HFB'.out.symm
  rw [hlen'] at f1'
  rw [hrl'] at f2'
  go_wp2_with fail
  refine (rgood_g an ar nn cn nr cr ns rs W2 (HG.out.below HBW2.out) f3 (by omega)).mono ?_
  rintro e W3 ⟨rfl, b2⟩
  have HBW3 := hid (Bt HBW2.out b2)
  have Y1 := hid (Z1.out.on b2)
  have Y2 := hid (Z2.out.on b2)
  clear c0 c1 d0 d1 b2 Z1 Z2 HBW2
  obtain ⟨c0, c1⟩ := Y1.out.c
  obtain ⟨d0, d1⟩ := Y2.out.c
  obtain ⟨gd, hgd⟩ : ∃ gd, gd = goodG ns rs := ⟨_, rfl⟩
  rw [← hgd]
  have HGD := hid hgd
  clear hgd
  cases gd
  · go_wp2_with (go_at_call 13; refine (wakes_any _ (HT.out.below HBW3.out)).mono ?_; rintro e w9 ⟨rfl, b9⟩)
    go_ret
    exact ⟨rfl, Bt HBW3.out b9⟩
  go_wp2_with fail
  refine (rgood_g ah bh nh ch mh dh hs hr W3 (HG'.out.below HBW3.out) f3' (by omega)).mono ?_
  rintro e W4 ⟨rfl, b2⟩
  have HBW4 := hid (Bt HBW3.out b2)
  have Z1 := hid (Y1.out.on b2)
  have Z2 := hid (Y2.out.on b2)
  clear c0 c1 d0 d1 b2 Y1 Y2 HBW3
  obtain ⟨c0, c1⟩ := Z1.out.c
  obtain ⟨d0, d1⟩ := Z2.out.c
  obtain ⟨gd', hgd'⟩ : ∃ gd, gd = goodG hs hr := ⟨_, rfl⟩
  rw [← hgd']
  have HGD' := hid hgd'
  clear hgd'
  cases gd'
  · go_wp2_with (go_at_call 13; refine (wakes_any _ (HT.out.below HBW4.out)).mono ?_; rintro e w9 ⟨rfl, b9⟩)
    go_ret
    exact ⟨rfl, Bt HBW4.out b9⟩
  by_cases hz : nn = 0
  · have e1 : ((nn : Int) == 0) = true := by simp [hz]
    go_wp2_with (go_at_call 13; refine (wakes_any _ (HT.out.below HBW4.out)).mono ?_; rintro e w9 ⟨rfl, b9⟩)
    go_ret
    exact ⟨rfl, Bt HBW4.out b9⟩
  have e1 : ((nn : Int) == 0) = false := by simp [hz]
  have hnz : (nn : Int) ≠ 0 := by omega
  obtain ⟨bn, hbn, hbe⟩ := turn_by (n := nn) (by omega) bi
  have htm : (Int.tmod bi nn).natAbs < nn := by rw [Int.natAbs_tmod]; exact Nat.mod_lt _ (by omega)
  go_wp2_with fail
  have bX := Ba W4 (.cells #[.slice none 0 0, .slice none 0 0] 25)
  have xt := GBox.new 25 W4 none none 0 0 0 0
  have yb := Z1.out.on bX
  have yh := Z2.out.on bX
  obtain ⟨gt, hgt⟩ : ∃ g, g = W4.heap.size := ⟨_, rfl⟩
  have hgt2 : Hid (W4.heap.size ≤ gt ∧ gb ≠ gt ∧ gh ≠ gt) := by have := Z1.out.lt; have := Z2.out.lt; exact ⟨by omega, by omega, by omega⟩
  rw [← hgt] at xt
  rw [← hgt]
  clear hgt c0 c1 d0 d1
  generalize W4.alloc (.cells #[.slice none 0 0, .slice none 0 0] 25) = W5 at *
  have HB5 := hid (Bt HBW4.out bX)
  have YB := hid yb
  have YH := hid yh
  have XT := hid xt
  have HGW := hid (HG.out.below HB5.out)
  have HKP := hid (goodG_parts HGD.out.symm).1
  have HRP := hid (places_rng (goodG_parts HGD.out.symm).2)
  have hgtl : gt < W5.heap.size := xt.lt
  have hB5w : Hid (w.heap.size ≤ gt) := Nat.le_trans HBW4.out.size hgt2.out.1
  clear bX xt yb yh
  go_loopw [9] (fun i wr => ∃ m : Nat, m ≤ nn ∧ i = .int .i64 m ∧ Hid (∃ vN ls, JInv w W5 gt 25 vN ls wr ∧ ls.map Prod.fst = (turnN ns bn).take m)) (fun i _ => nn - (intOf i).toNat)
  case atStart => exact ⟨0, Nat.zero_le _, rfl, .slice none 0 0, [], ⟨XT.out, fun _ _ _ => rfl, NOwn.nil _ _, HB5.out, Nat.le_refl _⟩, rfl⟩
  case round =>
    obtain ⟨m, hmn, rfl, hI⟩ := hrel
    obtain ⟨wo, hwo⟩ : ∃ x, x = wr := ⟨_, rfl⟩
    subst hwo
    obtain ⟨vN, ls, hJ, hls⟩ := hI.out
    obtain ⟨av, cv, rfl, hNR⟩ := hJ.own.row
    have HJ := hid hJ
    have HLS := hid hls
    have HLM : Hid (ls.length = m) := by
      have := congrArg List.length hls; simp [turnN_length] at this; unfold Hid; omega
    have cb0 : wo.cell? ⟨gb, 0, none⟩ = some (.slice an nn cn) := blk_cell ((hJ.keep gb YB.out.lt hgt2.out.2.1).trans YB.out) 0
    have hlbr : gb < wo.heap.size := Nat.lt_of_lt_of_le YB.out.lt hJ.size
    clear hJ hls hNR hI
    by_cases hlt : m < nn
    · obtain ⟨b, o, rfl, hlb, hcc⟩ := HG.out.nodes.some (by omega)
      obtain ⟨jn, hjn⟩ : ∃ j, j = (m + bn) % nn := ⟨_, rfl⟩
      have hjl : jn < nn := by rw [hjn]; exact Nat.mod_lt _ (by omega)
      have htj : Int.tmod ((m : Int) + (bn : Int)) (nn : Int) = (jn : Int) := by rw [hjn]; exact tmod_at
      have hnd := (hcc jn hjl).below hlb HJ.out.bel
      have hbw : b < wo.heap.size := Nat.lt_of_lt_of_le hlb HJ.out.bel.size
      have hdok := HG.out.nodes.get hjl
      have htk : Hid ((turnN ns bn).take (m + 1) = (turnN ns bn).take m ++ [turnD nn bn (ns.getD jn default)]) := by
        unfold Hid
        have h1 : m < (turnN ns bn).length := by rw [turnN_length]; omega
        rw [List.take_succ_eq_append_getElem h1]
        have h2 := turnN_get (ns := ns) (b := bn) (i := m) (by omega)
        rw [List.getD_eq_getElem?_getD, List.getElem?_eq_getElem h1] at h2
        have h3 : (turnN ns bn)[m] = turnD ns.length bn (ns.getD ((m + bn) % ns.length) default) := h2
        rw [h3, hlen, ← hjn]
      have hkr := places_rng (HKP.out _ (getD_mem_nd (by omega : jn < ns.length)))
      rw [hlen] at hkr
      have hkl := f4 _ (getD_mem_nd (by omega : jn < ns.length))
      clear hjn
      generalize ns.getD jn default = d at *
      obtain ⟨j1, j2, j3, ak, nk, ck, j4, j5⟩ := hnd
      obtain ⟨dk, dn, dt, dl⟩ := d
      simp only [] at j1 j2 j3 j5 hdok hkr hkl
      have HDOK := hid hdok
      have HKR := hid hkr
      have hnk := j5.fits
      have hnk2 := j5.most
      have hnk3 := j5.len
      have hnk4 : nk ≤ 100 := by omega
      unfold maxLen at hnk2
      have J5 := hid j5
      have k0 : ∀ ob, (wo.alloc ob).cell? ⟨gb, 0, none⟩ = some (.slice (some ⟨b, o, none⟩) nn cn) := fun ob => (cell_old _ _ _ _ hlbr).trans cb0
      have k1 : ∀ ob, (wo.alloc ob).cell? ⟨b, o + jn * 4, none⟩ = some (.int .i64 dk) := fun ob => (cell_old _ _ _ _ hbw).trans j1
      have k2 : ∀ ob, (wo.alloc ob).cell? ⟨b, o + jn * 4 + 1, none⟩ = some (.int .i64 dn) := fun ob => (cell_old _ _ _ _ hbw).trans j2
      have k3 : ∀ ob, (wo.alloc ob).cell? ⟨b, o + jn * 4 + 2, none⟩ = some (.string dt) := fun ob => (cell_old _ _ _ _ hbw).trans j3
      have k4 : ∀ ob, (wo.alloc ob).cell? ⟨b, o + jn * 4 + 3, none⟩ = some (.slice ak nk ck) := fun ob => (cell_old _ _ _ _ hbw).trans j4
      clear hcc hdok hkr j5
      go_wp2_with fail
      go_region
      have HBX : Hid (Below wo.heap.size wo (wo.alloc (.cells #[.int .i64 dk, .int .i64 dn, .string dt, .slice ak nk ck] 34)).drew) := Bt (Ba wo (.cells #[.int .i64 dk, .int .i64 dn, .string dt, .slice ak nk ck] 34)) (Bd _ 1)
      have HBK : Hid ((wo.alloc (.cells #[.int .i64 dk, .int .i64 dn, .string dt, .slice ak nk ck] 34)).drew.heap[wo.heap.size]? = some (.cells #[.int .i64 dk, .int .i64 dn, .string dt, .slice ak nk ck] 34 (0, 0))) := blk_new wo #[.int .i64 dk, .int .i64 dn, .string dt, .slice ak nk ck] 34
      have hszX : Hid ((wo.alloc (.cells #[.int .i64 dk, .int .i64 dn, .string dt, .slice ak nk ck] 34)).drew.heap.size = wo.heap.size + 1) := size_alloc wo _
      obtain ⟨gx, hgx⟩ : ∃ g, g = wo.heap.size := ⟨_, rfl⟩
      have hgx2 : Hid (wo.heap.size = gx) := hgx.symm
      rw [← hgx] at HBK
      rw [← hgx]
      clear hgx k0 k1 k2 k3 k4 j1 j2 j3 j4 htj cb0
      generalize (wo.alloc (.cells #[.int .i64 dk, .int .i64 dn, .string dt, .slice ak nk ck] 34)).drew = W6 at *
      go_wp2_with fail
      go_loopw [11, 12] (fun v i wz => ∃ q : Nat, q ≤ nk ∧ i = .int .i64 q ∧ Hid (wz.ownsRow W6.heap.size 3 1 v q (cz ((dl.take q).map (turnI nn bn))) ∧ Below W6.heap.size W6 wz)) (fun _ i _ => nk - (intOf i).toNat)
      case atStart => exact ⟨0, Nat.zero_le _, rfl, by simpa [cz] using World.ownsRow_nil _ _ _ _, Below.refl _ _⟩
      case round =>
        obtain ⟨q, hqn, rfl, hI2⟩ := hrel
        have hbz := hI2.out.2
        have hgxl : Hid (gx < W6.heap.size ∧ wo.heap.size ≤ gx) := ⟨by rw [hszX.out, hgx2.out]; omega, Nat.le_of_eq hgx2.out⟩
        have hxk := (hbz.block gx hgxl.out.1).trans HBK.out
        have cx3 : wr.cell? ⟨gx, 3, none⟩ = some (.slice ak nk ck) := blk_cell hxk 3
        by_cases hq : q < nk
        · obtain ⟨bk, ok, rfl, hlk, hck⟩ := J5.out.some (by omega)
          have hql : q < dl.length := by omega
          obtain ⟨z, hz⟩ : ∃ z, z = dl.getD q 0 := ⟨_, rfl⟩
          have hzr := HKR.out z (by rw [hz, List.getD_eq_getElem?_getD, List.getElem?_eq_getElem hql]; exact List.getElem_mem hql)
          have hc1 : wr.cell? ⟨bk, ok + q, none⟩ = some (.int .i64 z) := by rw [hz]; exact ((Bt HBX.out hbz).cell (p := ⟨bk, ok + q, none⟩) hlk).trans (hck q hq)
          obtain ⟨tz, htz⟩ : ∃ t, t = turnI nn bn z := ⟨_, rfl⟩
          have ht : Int.tmod (z - (bn : Int) + (nn : Int)) (nn : Int) = tz := by rw [htz]; exact tmod_turn hbn hzr.1 hzr.2
          have hst : Hid ((dl.take (q + 1)).map (turnI nn bn) = (dl.take q).map (turnI nn bn) ++ [tz]) := by unfold Hid; rw [take_succ_of 0 hql, List.map_append, ← hz, htz]; rfl
          have HOA : Hid (∀ ox, (wr.alloc ox).ownsRow W6.heap.size 3 1 u11 q (cz ((dl.take q).map (turnI nn bn)))) := fun ox => hI2.out.1.alloc ox
          have HBW := hid hbz
          have hsz : Hid (W6.heap.size ≤ wr.heap.size) := hbz.size
          have HOW := hid hI2.out.1
          obtain ⟨hz1, hz2⟩ := hzr
          clear hck hz hbz hI2 htz hxk
          go_wp2_with (at_builtin; refine appz rfl _ _ 23 rfl W6.heap.size 3 Tryd.underlying23 info_int _ _ ((dl.take q).map (turnI nn bn)) rfl (HOA.out _) ⟨wr.heap.size, 0, none⟩ 1 tz rfl ?c0 (by omega) (by have := hsz.out; simp; omega) ?_; rotate_right; intro g2 cap2 w4 hown hgrow hloc hglt)
          case c0 => exact cell_new wr (.int .i64 tz) 3
          rw [← hst.out] at hown
          have hb2 : Below W6.heap.size (wr.alloc (.cells #[.int .i64 tz] 3)) w4 := (Below.refl _ _).grown hgrow (by have := hsz.out; rw [size_alloc]; omega) (fun k hk => (HOW.out.lt k hk).1)
          exact ⟨⟨q + 1, by omega, by go_num, hown, ((HBW.out.trans ((Ba wr _).mono hsz.out)).trans hb2)⟩, by simp [intOf] <;> omega⟩
        · obtain rfl : nk = q := by omega
          obtain ⟨h1, h2⟩ := hI2.out
          rw [List.take_of_length_le (by omega)] at h1
          have hren : ∀ z ∈ dl.map (turnI nn bn), I64 z := by
            intro z hz; obtain ⟨y, hy, rfl⟩ := List.mem_map.1 hz; have := turnI_rng (n := nn) (by omega) bn y; unfold I64; omega
          obtain ⟨ak', ck', rfl, hIR⟩ := irow_of h1 hren
          have f3 : wr.frozen? ⟨gx, 3, none⟩ = false := blk_free hxk 3
          have hblk4 : (wr.setCell ⟨gx, 3, none⟩ (.slice ak' nk ck')).heap[gx]? = some (.cells #[.int .i64 dk, .int .i64 dn, .string dt, .slice ak' nk ck'] 34 (0, 0)) := by
            have := blk_set (i := 3) hxk (.slice ak' nk ck'); rw [this]; rfl
          have B4 : Below wo.heap.size wo (wr.setCell ⟨gx, 3, none⟩ (.slice ak' nk ck')) := (Bt HBX.out h2).setCell (p := ⟨gx, 3, none⟩) hgxl.out.2 _
          have hown4 : (wr.setCell ⟨gx, 3, none⟩ (.slice ak' nk ck')).ownsRow W6.heap.size 3 1 (.slice ak' nk ck') nk (cz (dl.map (turnI nn bn))) := owns_frame h1 (fun b hb' => Below.heap_setCell _ _ _ _ (by have := (h1.lt b hb').1; have := hgxl.out; show b ≠ gx; omega))
          have hkl4 : ∀ ad, ak' = some ad → W6.heap.size ≤ ad.block ∧ ad.block < (wr.setCell ⟨gx, 3, none⟩ (.slice ak' nk ck')).heap.size := fun ad had => hown4.lt ad.block (by rw [had]; rfl)
          obtain ⟨_, _, hve, hIR4⟩ := irow_of hown4 hren
          cases hve
          have n0 : (wr.setCell ⟨gx, 3, none⟩ (.slice ak' nk ck')).cell? ⟨gx, 0, none⟩ = some (.int .i64 dk) := blk_cell hblk4 0
          have n1 : (wr.setCell ⟨gx, 3, none⟩ (.slice ak' nk ck')).cell? ⟨gx, 1, none⟩ = some (.int .i64 dn) := blk_cell hblk4 1
          have n2 : (wr.setCell ⟨gx, 3, none⟩ (.slice ak' nk ck')).cell? ⟨gx, 2, none⟩ = some (.string dt) := blk_cell hblk4 2
          have n3 : (wr.setCell ⟨gx, 3, none⟩ (.slice ak' nk ck')).cell? ⟨gx, 3, none⟩ = some (.slice ak' nk ck') := blk_cell hblk4 3
          have hgtw : gt < wo.heap.size := (Array.getElem?_eq_some_iff.1 HJ.out.out).1
          have hgo4 := (B4.block gt hgtw).trans HJ.out.out
          have g0c : (wr.setCell ⟨gx, 3, none⟩ (.slice ak' nk ck')).cell? ⟨gt, 0, none⟩ = some (.slice av ls.length cv) := blk_cell hgo4 0
          have hs4 : (wr.setCell ⟨gx, 3, none⟩ (.slice ak' nk ck')).heap.size = wr.heap.size := by simp [World.setCell]
          have bA := Ba (wr.setCell ⟨gx, 3, none⟩ (.slice ak' nk ck')) (.cells #[.int .i64 dk, .int .i64 dn, .string dt, .slice ak' nk ck'] 34)
          have hnA := blk_new (wr.setCell ⟨gx, 3, none⟩ (.slice ak' nk ck')) #[.int .i64 dk, .int .i64 dn, .string dt, .slice ak' nk ck'] 34
          rw [hs4] at hnA
          have HNA := hid hnA
          have HBA := hid (Bt B4 bA)
          have HNO := hid ((HJ.out.own.below B4).below bA)
          have HIA := hid (hIR4.below bA)
          have HKA : Hid (∀ ad, ak' = some ad → W6.heap.size ≤ ad.block ∧ ad.block < ((wr.setCell ⟨gx, 3, none⟩ (.slice ak' nk ck')).alloc (.cells #[.int .i64 dk, .int .i64 dn, .string dt, .slice ak' nk ck'] 34)).heap.size) := fun ad had => ⟨(hkl4 ad had).1, Nat.lt_of_lt_of_le (hkl4 ad had).2 bA.size⟩
          have HGA := hid ((bA.block gt (Nat.lt_of_lt_of_le hgtw B4.size)).trans hgo4)
          have hsmall : ls.length ≤ 1000000 := by have := HLM.out; omega
          have HSW : Hid (W5.heap.size ≤ ((wr.setCell ⟨gx, 3, none⟩ (.slice ak' nk ck')).alloc (.cells #[.int .i64 dk, .int .i64 dn, .string dt, .slice ak' nk ck'] 34)).heap.size) := Nat.le_trans HJ.out.size HBA.out.size
          clear hbz hxk hI2 h1 h2 hren hown4 hIR hIR4 hblk4 B4 hkl4 hgo4 hs4 bA hnA
          go_wp2_with (at_builtin; refine appn rfl _ _ 22 rfl W5.heap.size 34 Tryd.underlying22 info_node _ _ (ncs ls) rfl HNO.out.own wr.heap.size 1 (⟨dk, dn, dt, dl.map (turnI nn bn)⟩, ak', nk, ck') rfl ?c0 hsmall HSW.out ?_; rotate_right; intro g cap w6 hown hgrow hloc hglt; obtain ⟨q1, q2⟩ := nfar HNO.out hgrow HGA.out hgtl)
          case c0 => intro j u hj; exact news_of HNA.out hj
          have hNP := HNO.out.pushed (d := (⟨dk, dn, dt, dl.map (turnI nn bn)⟩, ak', nk, ck')) hgtl hown hgrow hloc HDOK.out HIA.out (fun ad had => ?kb)
          case kb =>
            obtain ⟨z1, z2⟩ := HKA.out ad had
            have s1 := HJ.out.size
            have s2 := HBX.out.size
            refine ⟨by omega, z2, fun e => ?_⟩
            have := HJ.out.own.own.lt _ e
            omega
          have hrowge : ∀ k, (Value.slice av ls.length cv).ownBlock = some k → W5.heap.size ≤ k := fun k hk => (HJ.out.own.own.lt k hk).1
          have hB6 : Below W5.heap.size wo w6 := (HBA.out.mono HJ.out.size).grown hgrow HSW.out hrowge
          have hgo6 := (hgrow.block gt (Array.getElem?_eq_some_iff.1 HGA.out).1 (fun e => by have := hrowge gt e.symm; omega)).trans HGA.out
          refine ⟨⟨m + 1, by omega, by go_num, .slice (some ⟨g, 0, none⟩) (ls.length + 1) cap, ls ++ [(⟨dk, dn, dt, dl.map (turnI nn bn)⟩, ak', nk, ck')], ⟨?_, fun b hb hbg => ?_, hNP, ?_, ?_⟩, ?_⟩, by simp [intOf] <;> omega⟩
          · have := blk_set (i := 0) hgo6 (.slice (some ⟨g, 0, none⟩) (ls.length + 1) cap); rw [this]; rfl
          · exact (Below.heap_setCell _ _ _ _ hbg).trans ((hB6.block b hb).trans (HJ.out.keep b hb hbg))
          · exact (HJ.out.bel.trans (hB6.mono HB5.out.size)).setCell (p := ⟨gt, 0, none⟩) hB5w.out _
          · have := hB6.size; have := HJ.out.size; simp [World.setCell]; omega
          · rw [htk.out, List.map_append, HLS.out]; rfl
    · obtain rfl : nn = m := by omega
      have hls := HLS.out
      rw [List.take_of_length_le (by rw [turnN_length]; omega)] at hls
      have HLT := hid hls
      have HLN : Hid (ls.length = nn) := HLM.out
      clear hls HLS HLM hmn hlt
      have cb1 : wo.cell? ⟨gb, 1, none⟩ = some (.slice ar nr cr) := blk_cell ((HJ.out.keep gb YB.out.lt hgt2.out.2.1).trans YB.out) 1
      have hgtw : Hid (gt < wo.heap.size) := (Array.getElem?_eq_some_iff.1 HJ.out.out).1
      go_wp2_with fail
      clear cb0 cb1
      go_loopw [13] (fun i wr => ∃ m : Nat, m ≤ nr ∧ i = .int .i64 m ∧ Hid (∃ vR, RInv w wo gt 25 (.slice av ls.length cv) vR ((rs.take m).map (turnI nn bn)) wr)) (fun i _ => nr - (intOf i).toNat)
      case atStart => exact ⟨0, Nat.zero_le _, rfl, .slice none 0 0, ⟨HJ.out.out, by simpa [cz] using World.ownsRow_nil _ _ _ _, fun _ _ _ => rfl, Nat.le_refl _, HJ.out.bel⟩⟩
      case round =>
        obtain ⟨m, hmn, rfl, hI⟩ := hrel
        obtain ⟨vR, hRI⟩ := hI.out
        have hgbk := (hRI.keep gb (Nat.lt_of_lt_of_le YB.out.lt HJ.out.size) hgt2.out.2.1).trans ((HJ.out.keep gb YB.out.lt hgt2.out.2.1).trans YB.out)
        have HGBK := hid hgbk
        have cb1 : wr.cell? ⟨gb, 1, none⟩ = some (.slice ar nr cr) := blk_cell hgbk 1
        have hrng : ∀ z ∈ (rs.take m).map (turnI nn bn), I64 z := by
          intro z hz; obtain ⟨y, hy, rfl⟩ := List.mem_map.1 hz; have := turnI_rng (n := nn) (by omega) bn y; unfold I64; omega
        obtain ⟨aR, cR, rfl, hIRR⟩ := irow_of hRI.own hrng
        have hlm : ((rs.take m).map (turnI nn bn)).length = m := by rw [List.length_map, List.length_take]; omega
        rw [hlm] at hRI
        have HRI := hid hRI
        clear hI hgbk hIRR hrng
        by_cases hlt : m < nr
        · obtain ⟨b, o, rfl, hlb, hcc⟩ := HG.out.roots.some (by omega)
          have hml : m < rs.length := by omega
          obtain ⟨z, hz⟩ : ∃ z, z = rs.getD m 0 := ⟨_, rfl⟩
          have hzr := HRP.out z (by rw [hz, List.getD_eq_getElem?_getD, List.getElem?_eq_getElem hml]; exact List.getElem_mem hml)
          rw [hlen] at hzr
          have hc1 : wr.cell? ⟨b, o + m, none⟩ = some (.int .i64 z) := by rw [hz]; exact (hRI.bel.cell (p := ⟨b, o + m, none⟩) hlb).trans (hcc m hlt)
          obtain ⟨tz, htz⟩ : ∃ t, t = turnI nn bn z := ⟨_, rfl⟩
          have ht : Int.tmod (z - (bn : Int) + (nn : Int)) (nn : Int) = tz := by rw [htz]; exact tmod_turn hbn hzr.1 hzr.2
          have htr := turnI_rng (n := nn) (by omega) bn z
          rw [← htz] at htr
          have hst : Hid ((rs.take (m + 1)).map (turnI nn bn) = (rs.take m).map (turnI nn bn) ++ [tz]) := by unfold Hid; rw [take_succ_of 0 hml, List.map_append, ← hz, htz]; rfl
          have hbgt : Hid (b ≠ gt ∧ b < wo.heap.size) := by have := hB5w.out; have := hgtw.out; exact ⟨by omega, by omega⟩
          have HS0 : Hid (QH gb b (o + m) (.slice (some ⟨b, o, none⟩) nr cr) z wr) := ⟨cb1, hc1⟩
          obtain ⟨hz1, hz2⟩ := hzr
          have HLM2 := hid hlm
          clear hcc hz htz hRI hlm hc1
          have hw1 : IntKind.i64.wrap (z - (bn : Int)) = z - (bn : Int) := by rw [IntKind.wrap_i64]; omega
          have hw2 : IntKind.i64.wrap (z - (bn : Int) + (nn : Int)) = z - (bn : Int) + (nn : Int) := by rw [IntKind.wrap_i64]; omega
          go_wp2_with fail
          clear cb1
          refine wp_region_held_drew (S := QH gb b (o + m) (.slice (some ⟨b, o, none⟩) nr cr) z) (by kernel_rfl) (HS0.out.on (Bd wr 1)) (fun hHeld => ?_)
          refine htake 0 (some 100) (.pointer (some ⟨gt, 1, none⟩)) rfl rfl (by kernel_rfl) (by kernel_rfl) (by kernel_rfl) (fun _ _ _ h => h) (Or.inl ⟨by rfl, fun wx hSw => ?_⟩) (by assumption) ?_
          · go_simp
          simp only [Act.put, List.setIfInBounds_toArray, List.set_cons_zero, List.set_cons_succ]
          refine htake 2 (some 102) (.pointer (some ⟨gb, 1, none⟩)) rfl rfl (by kernel_rfl) (by kernel_rfl) (by kernel_rfl) (fun _ _ _ h => h) (Or.inl ⟨by rfl, fun wx hSw => ?_⟩) (by assumption) ?_
          · go_simp
          simp only [Act.put, List.setIfInBounds_toArray, List.set_cons_zero, List.set_cons_succ]
          refine htake 3 (some 103) (.slice (some ⟨b, o, none⟩) nr cr) rfl rfl (by kernel_rfl) (by kernel_rfl) (by kernel_rfl) (fun _ _ _ h => h) (Or.inl ⟨by rfl, fun wx hSw => ?_⟩) (by assumption) ?_
          · obtain ⟨s0, s1⟩ := hSw; go_simp
          simp only [Act.put, List.setIfInBounds_toArray, List.set_cons_zero, List.set_cons_succ]
          refine htake 4 (some 104) (.int .i64 (m : Int)) rfl rfl (by kernel_rfl) (by kernel_rfl) (by kernel_rfl) (fun _ _ _ h => h) (Or.inl ⟨by rfl, fun wx hSw => ?_⟩) (by assumption) ?_
          · go_simp
          simp only [Act.put, List.setIfInBounds_toArray, List.set_cons_zero, List.set_cons_succ]
          refine htake 5 (some 105) (.pointer (some ⟨b, o + m, none⟩)) rfl rfl (by kernel_rfl) (by kernel_rfl) (by kernel_rfl) (fun _ _ _ h => h) (Or.inl ⟨by rfl, fun wx hSw => ?_⟩) (by assumption) ?_
          · go_simp
          simp only [Act.put, List.setIfInBounds_toArray, List.set_cons_zero, List.set_cons_succ]
          refine htake 6 (some 106) (.int .i64 z) rfl rfl (by kernel_rfl) (by kernel_rfl) (by kernel_rfl) (fun _ _ _ h => h) (Or.inl ⟨by rfl, fun wx hSw => ?_⟩) (by assumption) ?_
          · obtain ⟨s0, s1⟩ := hSw; go_simp
          simp only [Act.put, List.setIfInBounds_toArray, List.set_cons_zero, List.set_cons_succ]
          refine htake 7 (some 107) (.int .i64 (bn : Int)) rfl rfl (by kernel_rfl) (by kernel_rfl) (by kernel_rfl) (fun _ _ _ h => h) (Or.inl ⟨by rfl, fun wx hSw => ?_⟩) (by assumption) ?_
          · go_simp
          simp only [Act.put, List.setIfInBounds_toArray, List.set_cons_zero, List.set_cons_succ]
          refine htake 8 (some 108) (.int .i64 (z - (bn : Int))) rfl rfl (by kernel_rfl) (by kernel_rfl) (by kernel_rfl) (fun _ _ _ h => h) (Or.inl ⟨by rfl, fun wx hSw => ?_⟩) (by assumption) ?_
          · go_simp
          simp only [Act.put, List.setIfInBounds_toArray, List.set_cons_zero, List.set_cons_succ]
          refine htake 9 (some 109) (.int .i64 (nn : Int)) rfl rfl (by kernel_rfl) (by kernel_rfl) (by kernel_rfl) (fun _ _ _ h => h) (Or.inl ⟨by rfl, fun wx hSw => ?_⟩) (by assumption) ?_
          · go_simp
          simp only [Act.put, List.setIfInBounds_toArray, List.set_cons_zero, List.set_cons_succ]
          refine htake 10 (some 110) (.int .i64 (z - (bn : Int) + (nn : Int))) rfl rfl (by kernel_rfl) (by kernel_rfl) (by kernel_rfl) (fun _ _ _ h => h) (Or.inl ⟨by rfl, fun wx hSw => ?_⟩) (by assumption) ?_
          · go_simp
          simp only [Act.put, List.setIfInBounds_toArray, List.set_cons_zero, List.set_cons_succ]
          refine htake 11 (some 111) (.int .i64 (nn : Int)) rfl rfl (by kernel_rfl) (by kernel_rfl) (by kernel_rfl) (fun _ _ _ h => h) (Or.inl ⟨by rfl, fun wx hSw => ?_⟩) (by assumption) ?_
          · go_simp
          simp only [Act.put, List.setIfInBounds_toArray, List.set_cons_zero, List.set_cons_succ]
          refine htake 12 (some 112) (.int .i64 tz) rfl rfl (by kernel_rfl) (by kernel_rfl) (by kernel_rfl) (fun _ _ _ h => h) (Or.inl ⟨by rfl, fun wx hSw => ?_⟩) (by assumption) ?_
          · go_simp
          simp only [Act.put, List.setIfInBounds_toArray, List.set_cons_zero, List.set_cons_succ]
          refine wpAnyH_from Lqn Mqn (fun a0 s a wx => ∃ t1 t2, a = (a0.put (some 101) t1).put (some 113) t2 ∧ QSt wr (.slice aR m cR) tz s.1 s.2 t1 t2 wx) 3 2 (false, false) rfl ?_ ?_
          · exact ⟨u101, u113, rfl, QSt.mk0 (Bd wr 1)⟩
          clear hHeld
          rintro ⟨k, al⟩ a wx ⟨t1, t2, rfl, hst2⟩
          simp only [Act.put, List.setIfInBounds_toArray, List.set_cons_zero, List.set_cons_succ]
          simp only at hst2
          have HSt := hid hst2
          clear hst2
          have HSX := hid (HS0.out.on HSt.out.bel)
          have HGX := hid ((HSt.out.bel.block gt (Array.getElem?_eq_some_iff.1 HRI.out.out).1).trans HRI.out.out)
          have cgo : wx.cell? ⟨gt, 1, none⟩ = some (.slice aR m cR) := blk_cell HGX.out 1
          cases k <;> cases al
          · refine .inr ⟨[1, 13], by decide, by kernel_rfl, by simp, ?_⟩
            refine Steps.cons (false, true) rfl rfl rfl (fun K hK => ?_) ?_
            · go_simp; exact hK.out _ _ HSX.out ⟨_, t2, rfl, HSt.out.load⟩
            refine Steps.cons (true, false) rfl rfl rfl (fun K hK => ?_) ?_
            · go_simp; exact hK.out _ _ (HSX.out.on (Ba _ _)) ⟨t1, _, rfl, HSt.out.build⟩
            exact Steps.nil
          · refine .inr ⟨[13], by decide, by kernel_rfl, by simp, ?_⟩
            refine Steps.cons (true, true) rfl rfl rfl (fun K hK => ?_) ?_
            · go_simp; exact hK.out _ _ (HSX.out.on (Ba _ _)) ⟨t1, _, rfl, HSt.out.build⟩
            exact Steps.nil
          · refine .inr ⟨[1], by decide, by kernel_rfl, by simp, ?_⟩
            refine Steps.cons (true, true) rfl rfl rfl (fun K hK => ?_) ?_
            · go_simp; exact hK.out _ _ HSX.out ⟨_, t2, rfl, HSt.out.load⟩
            exact Steps.nil
          · refine .inl ⟨rfl, ?_⟩
            obtain ⟨g0, rfl, hg0⟩ := HSt.out.i1 rfl
            obtain rfl := HSt.out.i0 rfl
            have hI1 : IRow wx (some ⟨g0, 0, none⟩) 1 1 [tz] := lit_ints hg0 rfl rfl (by omega) (by intro y hy; have : y = tz := (by simpa using hy); unfold I64; omega)
            have HOX := hid (owns_on HRI.out.own HSt.out.bel)
            have hbx : wo.heap.size ≤ wx.heap.size := Nat.le_trans HRI.out.size HSt.out.bel.size
            clear cgo
            refine hone 14 _ rfl (by kernel_rfl) (fun K hK => ?_)
            refine stepInts (some 114) rfl rfl _ _ 23 rfl wo.heap.size 3 Tryd.underlying23 info_int _ _ ((rs.take m).map (turnI nn bn)) rfl HOX.out (some ⟨g0, 0, none⟩) 1 1 [tz] rfl hI1 (by have := HLM2.out; omega) hbx ?_
            intro v w5 ho hgrow
            rw [← hst.out] at ho
            have hrow : ∀ k, (Value.slice aR m cR).ownBlock = some k → wo.heap.size ≤ k := fun k hk => (HOX.out.lt k hk).1
            have hsame : ∀ c, c < wo.heap.size → w5.heap[c]? = wx.heap[c]? := fun c hc => hgrow.block c (by omega) (fun e => by have := hrow c e.symm; omega)
            have hgt5 := (hsame gt hgtw.out).trans HGX.out
            have hb5 : Below w.heap.size w w5 := (HRI.out.bel.trans (HSt.out.bel.mono HRI.out.bel.size)).trans ((Below.refl _ _).grown hgrow (Nat.le_trans HJ.out.bel.size hbx) (fun k hk => Nat.le_trans HJ.out.bel.size (hrow k hk)))
            have hgbl : gb < wo.heap.size := Nat.lt_of_lt_of_le YB.out.lt HJ.out.size
            have HSA : Hid (QH gb b (o + m) (.slice (some ⟨b, o, none⟩) nr cr) z w5) := HSX.out.far (hsame gb hgbl) (hsame b hbgt.out.2)
            have HSB : Hid (QH gb b (o + m) (.slice (some ⟨b, o, none⟩) nr cr) z (w5.setCell ⟨gt, 1, none⟩ v)) := HSA.out.far (Below.heap_setCell _ _ _ _ hgt2.out.2.1) (Below.heap_setCell _ _ _ _ hbgt.out.1)
            have q1 : w5.frozen? ⟨gt, 1, none⟩ = false := blk_free hgt5 1
            have q2 : w5.cell? ⟨gt, 1, none⟩ = some (.slice aR m cR) := blk_cell hgt5 1
            have hlm1 : ((rs.take (m + 1)).map (turnI nn bn)).length = m + 1 := by rw [List.length_map, List.length_take]; omega
            have hown5 : w5.ownsRow wo.heap.size 3 1 v ((rs.take (m + 1)).map (turnI nn bn)).length (cz ((rs.take (m + 1)).map (turnI nn bn))) := by rw [hlm1]; rw [HLM2.out] at ho; exact ho
            obtain ⟨aV, nV, cV, rfl⟩ : ∃ aV nV cV, v = .slice aV nV cV := by rcases ho.2 with ⟨h, _⟩ | ⟨g, cap, cur, h, _⟩ <;> exact ⟨_, _, _, h⟩
            have HNEW : Hid (RInv w wo gt 25 (.slice av ls.length cv) (.slice aV nV cV) ((rs.take (m + 1)).map (turnI nn bn)) (w5.setCell ⟨gt, 1, none⟩ (.slice aV nV cV))) := by
              refine ⟨?_, owns_frame hown5 (fun c hc => Below.heap_setCell _ _ _ _ (by have := (hown5.lt c hc).1; have := hgtw.out; show c ≠ gt; omega)), fun c hc hcg => ?_, ?_, hb5.setCell (p := ⟨gt, 1, none⟩) hB5w.out _⟩
              · have := blk_set (i := 1) hgt5 (.slice aV nV cV); rw [this]; rfl
              · exact (Below.heap_setCell _ _ _ _ hcg).trans ((hsame c hc).trans ((HSt.out.bel.block c (Nat.lt_of_lt_of_le hc HRI.out.size)).trans (HRI.out.keep c hc hcg)))
              · have := hgrow.size; simp [World.setCell]; omega
            clear ho hgrow hrow hsame hgt5 hb5 hgbl hlm1 hown5 hI1 hbx hg0
            refine hK.out _ _ HSA.out (fun hHeld => ?_)
            clear hK K hHeld
            try simp only [Act.put, List.setIfInBounds_toArray, List.set_cons_zero, List.set_cons_succ]
            refine hone 15 _ rfl (by kernel_rfl) (fun K hK => ?_)
            go_simp
            refine hK.out _ _ HSA.out (fun hHeld => ?_)
            clear hK K hHeld
            refine hone 16 _ rfl (by kernel_rfl) (fun K hK => ?_)
            go_simp
            refine hK.out _ _ HSB.out (fun hHeld => ?_)
            clear hK K hHeld q1 q2 HSA HSB
            refine wpAnyH_done (by kernel_rfl) ?_ _
            generalize w5.setCell ⟨gt, 1, none⟩ (.slice aV nV cV) = w7 at *
            go_wp2
            exact ⟨⟨m + 1, by omega, by go_num, _, HNEW.out⟩, by simp [intOf] <;> omega⟩
        · obtain rfl : nr = m := by omega
          have hR2 := hRI.own
          rw [List.take_of_length_le (by omega)] at hR2
          have hlm2 : (rs.map (turnI nn bn)).length = nr := by rw [List.length_map]; omega
          rw [hlm2] at hR2
          have hrng : ∀ z ∈ rs.map (turnI nn bn), I64 z := by
            intro z hz; obtain ⟨y, hy, rfl⟩ := List.mem_map.1 hz; have := turnI_rng (n := nn) (by omega) bn y; unfold I64; omega
          obtain ⟨_, _, hve, hIT⟩ := irow_of hR2 hrng
          cases hve
          have NT := HJ.out.own.kept (fun c hc hc2 => hRI.keep c hc2 (by omega)) hRI.size
          obtain ⟨_, _, hve, hNR⟩ := NT.row
          cases hve
          rw [HLT.out] at hNR
          have GT : Hid (GIs wr av ls.length cv aR nr cR (turnN ns bn) (rs.map (turnI nn bn))) := ⟨hNR, hIT⟩
          have GH := hid (HG'.out.below hRI.bel)
          have GG := hid (HG.out.below hRI.bel)
          have BR := hid hRI.bel
          have XB : Hid (GBox 25 wr gb an nn cn ar nr cr) := HGBK.out
          have XH : Hid (GBox 25 wr gh ah nh ch bh mh dh) := (hRI.keep gh (Nat.lt_of_lt_of_le YH.out.lt HJ.out.size) hgt2.out.2.2).trans ((HJ.out.keep gh YH.out.lt hgt2.out.2.2).trans YH.out)
          have XT2 : Hid (GBox 25 wr gt av ls.length cv aR nr cR) := hRI.out
          have hfit := hNR.fits
          have hmost := hNR.most
          have hfitR := hIT.fits
          have hmostR := hIT.most
          unfold maxLen at hmost hmostR
          obtain ⟨h0, h1⟩ := XH.out.c
          obtain ⟨t0, t1⟩ := XT2.out.c
          have hnl := HLN.out
          have RT : Hid (Raw (turnN ns bn) (rs.map (turnI nn bn))) := by
            have := raw_of_good (goodG_turn (b := bn) HGD.out.symm (by omega)) (by rw [turnN_length]; omega) (turned_kids (by omega) f4)
            rw [hlen] at this; exact this
          have RH := hid (raw_of_good HGD'.out.symm (by omega) f4')
          have hl100 : Hid (ls.length ≤ 1000) := by unfold Hid; omega
          clear hR2 hlm2 hrng hIT NT hNR hRI HJ HGBK YB YH XT hlm hmn hlt hlbr hgtl hnl HRI
          go_wp2_with fail
          clear cb1 h0 h1 t0 t1
          refine (join_any ah bh nh ch mh dh hs hr av aR ls.length cv nr cR (turnN ns bn) (rs.map (turnI nn bn)) wr GH.out GT.out RH.out RT.out (by omega) (by omega) hl100.out (by omega)).mono ?_
          rintro e w2 ⟨a1, n1, c1, a2, n2, c2, rfl, hGJ, b2⟩
          unfold GVal
          have hj1 := hGJ.nodes.len
          have hj2 := hGJ.roots.len
          rw [joinN_length, turnN_length, hlen, hlen'] at hj1
          have hj2' : mh + nr = n2 := by rw [List.length_append] at hj2; simp [movedL] at hj2; omega
          subst hj2'
          have hjf := hGJ.roots.fits
          have hjm := hGJ.roots.most
          unfold maxLen at hjm
          have bX := Ba w2 (.cells #[.slice a1 n1 c1, .slice a2 (mh + nr) c2] 25)
          have xj := GBox.new 25 w2 a1 a2 n1 c1 (mh + nr) c2
          have B2 := hid (Bt b2 bX)
          have XB2 := hid (XB.out.on B2.out)
          have XH2 := hid (XH.out.on B2.out)
          have XT3 := hid (XT2.out.on B2.out)
          have GJ := hid (hGJ.below bX)
          have e7 : (((mh + nr : Nat) : Int) != (mh : Int) + (nr : Int)) = false := by simp
          have e8 : ((mh : Int) + (nr : Int) != (mh : Int) + (nr : Int)) = false := by simp
          obtain ⟨h0, h1⟩ := XH2.out.c
          obtain ⟨t0, t1⟩ := XT3.out.c
          obtain ⟨j0, j1⟩ := xj.c
          have XJ := hid xj
          have fj1 := blk_free xj 1
          have HIJ0 := hid hGJ.roots
          have HNJ0 := hid hGJ.nodes
          have HDL : Hid ((movedL 0 hr).length = mh) := by unfold Hid; simp [movedL]; omega
          have B20 := hid b2
          clear b2 bX xj hGJ hj2
          by_cases hcm : c2 = mh
          · obtain rfl : nr = 0 := by omega
            subst hcm
            simp only [Nat.add_zero] at *
            go_wp2_with fail
            clear h0 h1 t0 t1 j0 j1 fj1
            have hIJ : IRow w2 a2 0 0 (movedL (nh : Nat) (rs.map (turnI nn bn))) := by rw [List.length_eq_zero_iff.1 hrl]; exact IRow.nil _ _
            have bX := Ba w2 (.cells #[.slice a1 n1 c1, .slice a2 0 0] 25)
            have xj := GBox.new 25 w2 a1 a2 n1 c1 0 0
            have BF := hid (Bt B20.out bX)
            have FB := hid (XB.out.on BF.out)
            have FT := hid (XT2.out.on BF.out)
            have GJ2 : Hid (GIs (w2.alloc (.cells #[.slice a1 n1 c1, .slice a2 0 0] 25)) a1 n1 c1 a2 0 0 (joinN hs (turnN ns bn)) (movedL (nh : Nat) (rs.map (turnI nn bn)))) := ⟨HNJ0.out.below bX, hIJ.below bX⟩
            obtain ⟨gj, hgj⟩ : ∃ g, g = w2.heap.size := ⟨_, rfl⟩
            rw [← hgj] at xj
            rw [← hgj]
            clear hgj bX hIJ
            generalize w2.alloc (.cells #[.slice a1 n1 c1, .slice a2 0 0] 25) = W8 at *
            have XJ2 := hid xj
            clear xj
            have TW := hid (HT.out.below (BR.out.trans (BF.out.mono BR.out.size)))
            have OG : Hid (GOk W8 an nn cn ar 0 cr ns rs) := ⟨GG.out.below BF.out, f3, f4, by omega, by omega⟩
            have OT : Hid (GOk W8 av ls.length cv aR 0 cR (turnN ns bn) (rs.map (turnI nn bn))) := ⟨GT.out.below BF.out, turned_small (by omega) f3, turned_kids (by omega) f4, hl100.out, by omega⟩
            have OJ : Hid (GOk W8 a1 n1 c1 a2 0 0 (joinN hs (turnN ns bn)) (movedL (nh : Nat) (rs.map (turnI nn bn)))) := ⟨GJ2.out, joined_small f3' (turned_small (by omega) f3), joined_kids f4' (turned_kids (by omega) f4), by omega, by omega⟩
            have FN := fine_of HFB.out.symm HGD.out.symm
            have K1 : canonN (turnN ns bn) (rs.map (turnI nn bn)) = canonN ns rs := by have := canonG_turn (b := bn) FN (by omega); rw [hlen] at this; exact this
            have K2 : canonN (joinN hs (turnN ns bn)) (movedL (nh : Nat) (rs.map (turnI nn bn))) = canonN ns rs := by have := canon_turned (b := bn) HGD'.out.symm FN (by omega); rw [hlen, hlen'] at this; exact this
            have K3 : goodG (turnN ns bn) (rs.map (turnI nn bn)) = true := by have := goodG_turn (b := bn) HGD.out.symm (by omega); rw [hlen] at this; exact this
            have K4 : goodG (joinN hs (turnN ns bn)) (movedL (nh : Nat) (rs.map (turnI nn bn))) = true := by have := good_turned (b := bn) HGD'.out.symm HGD.out.symm (by omega); rw [hlen, hlen'] at this; exact this
            have K5 : sameGB ns rs (turnN ns bn) (rs.map (turnI nn bn)) = true := by unfold sameGB; rw [K1, K3, ← HGD.out]; simp
            have K6 : sameGB (joinN hs (turnN ns bn)) (movedL (nh : Nat) (rs.map (turnI nn bn))) ns rs = true := by unfold sameGB; rw [K2, K4, ← HGD.out]; simp
            obtain ⟨CC, hCC⟩ : ∃ C, C = canonN ns rs := ⟨_, rfl⟩
            have C1 : Hid (∀ wx, Below W8.heap.size W8 wx → Calls Tryd.prog 17 #[.agg #[.slice an nn cn, .slice ar 0 cr], .agg #[.slice av ls.length cv, .slice aR 0 cR]] wx fun e w' => e = .returned (.bool true) ∧ Below wx.heap.size wx w') := fun wx b => by
              have := same_g an ar nn cn 0 cr ns rs av aR ls.length cv 0 cR (turnN ns bn) (rs.map (turnI nn bn)) wx (OG.out.below b) (OT.out.below b) (TW.out.below b)
              rw [K5] at this; exact this
            have C2 : Hid (∀ wx, Below W8.heap.size W8 wx → Calls Tryd.prog 17 #[.agg #[.slice a1 n1 c1, .slice a2 0 0], .agg #[.slice an nn cn, .slice ar 0 cr]] wx fun e w' => e = .returned (.bool true) ∧ Below wx.heap.size wx w') := fun wx b => by
              have := same_g a1 a2 n1 c1 0 0 (joinN hs (turnN ns bn)) (movedL (nh : Nat) (rs.map (turnI nn bn))) an ar nn cn 0 cr ns rs wx (OJ.out.below b) (OG.out.below b) (TW.out.below b)
              rw [K6] at this; exact this
            have C3 : Hid (∀ wx, Below W8.heap.size W8 wx → Calls Tryd.prog 10 #[.agg #[.slice a1 n1 c1, .slice a2 0 0]] wx fun e w' => ∃ a1 n1 c1 a2 n2 c2, e = .returned (.agg #[.slice a1 n1 c1, .slice a2 n2 c2]) ∧ GIs w' a1 n1 c1 a2 n2 c2 CC.1 CC.2 ∧ Below wx.heap.size wx w') := fun wx b => by
              have := canonN_any (OJ.out.below b) (TW.out.below b)
              rw [K2, ← hCC] at this; exact this
            have C4 : Hid (∀ wx, Below W8.heap.size W8 wx → Calls Tryd.prog 10 #[.agg #[.slice an nn cn, .slice ar 0 cr]] wx fun e w' => ∃ a1 n1 c1 a2 n2 c2, e = .returned (.agg #[.slice a1 n1 c1, .slice a2 n2 c2]) ∧ GIs w' a1 n1 c1 a2 n2 c2 CC.1 CC.2 ∧ Below wx.heap.size wx w') := fun wx b => by
              have := canonN_any (OG.out.below b) (TW.out.below b)
              rw [← hCC] at this; exact this
            have C5 : Hid (∀ wx a1 n1 c1 a2 n2 c2 b1 m1 d1 b2 m2 d2, GIs wx a1 n1 c1 a2 n2 c2 CC.1 CC.2 → GIs wx b1 m1 d1 b2 m2 d2 CC.1 CC.2 → Calls Tryd.prog 11 #[.agg #[.slice a1 n1 c1, .slice a2 n2 c2], .agg #[.slice b1 m1 d1, .slice b2 m2 d2]] wx fun e w' => e = .returned (.bool true) ∧ Below wx.heap.size wx w') := fun wx a1 n1 c1 a2 n2 c2 b1 m1 d1 b2 m2 d2 h h' => by
              have := requal_any a1 a2 n1 c1 n2 c2 CC.1 CC.2 b1 b2 m1 d1 m2 d2 CC.1 CC.2 wx h h'
              rw [decide_eq_true (⟨rfl, rfl⟩ : CC.1 = CC.1 ∧ CC.2 = CC.2)] at this; exact this
            obtain ⟨p0, p1⟩ := FB.out.c
            obtain ⟨q0, q1⟩ := FT.out.c
            obtain ⟨r0, r1⟩ := XJ2.out.c
            have HS0 : Hid (W8.cell? ⟨gb, 0, none⟩ = some (.slice an nn cn) ∧ W8.cell? ⟨gb, 1, none⟩ = some (.slice ar 0 cr) ∧ W8.cell? ⟨gt, 0, none⟩ = some (.slice av ls.length cv) ∧ W8.cell? ⟨gt, 1, none⟩ = some (.slice aR 0 cR) ∧ W8.cell? ⟨gj, 0, none⟩ = some (.slice a1 n1 c1) ∧ W8.cell? ⟨gj, 1, none⟩ = some (.slice a2 0 0) ∧ Below W8.heap.size W8 W8) := ⟨p0, p1, q0, q1, r0, r1, Below.refl _ _⟩
            clear p0 p1 q0 q1 r0 r1 K1 K2 K3 K4 K5 K6 FN hCC GJ2 OG OT OJ
            go_region_held3 (fun wx => wx.cell? ⟨gb, 0, none⟩ = some (.slice an nn cn) ∧ wx.cell? ⟨gb, 1, none⟩ = some (.slice ar 0 cr) ∧ wx.cell? ⟨gt, 0, none⟩ = some (.slice av ls.length cv) ∧ wx.cell? ⟨gt, 1, none⟩ = some (.slice aR 0 cR) ∧ wx.cell? ⟨gj, 0, none⟩ = some (.slice a1 n1 c1) ∧ wx.cell? ⟨gj, 1, none⟩ = some (.slice a2 0 0) ∧ Below W8.heap.size W8 wx)
              (first | exact h6_on HS0.out (Bd W8 1) | exact h6_on (by assumption) (by assumption))
              (first
                | (go_at_call 17; with_reducible refine (C1.out _ ?_).mono ?_; (exact h6_bel (p := gb) (q := gt) (r := gj) (a0 := .slice an nn cn) (a1 := .slice ar 0 cr) (b0 := .slice av ls.length cv) (b1 := .slice aR 0 cR) (c0 := .slice a1 n1 c1) (c1 := .slice a2 0 0) (by assumption)); rintro e wa ⟨rfl, ba⟩)
                | (go_at_call 17; with_reducible refine (C2.out _ ?_).mono ?_; (exact h6_bel (p := gb) (q := gt) (r := gj) (a0 := .slice an nn cn) (a1 := .slice ar 0 cr) (b0 := .slice av ls.length cv) (b1 := .slice aR 0 cR) (c0 := .slice a1 n1 c1) (c1 := .slice a2 0 0) (by assumption)); rintro e wb ⟨rfl, bb⟩)
                | (go_at_call 10; with_reducible refine (C3.out _ ?_).mono ?_; (exact h6_bel (p := gb) (q := gt) (r := gj) (a0 := .slice an nn cn) (a1 := .slice ar 0 cr) (b0 := .slice av ls.length cv) (b1 := .slice aR 0 cR) (c0 := .slice a1 n1 c1) (c1 := .slice a2 0 0) (by assumption)); rintro e wc ⟨x1, x2, x3, x4, x5, x6, rfl, hgx, bc⟩)
                | (go_at_call 10; with_reducible refine (C4.out _ ?_).mono ?_; (exact h6_bel (p := gb) (q := gt) (r := gj) (a0 := .slice an nn cn) (a1 := .slice ar 0 cr) (b0 := .slice av ls.length cv) (b1 := .slice aR 0 cR) (c0 := .slice a1 n1 c1) (c1 := .slice a2 0 0) (by assumption)); rintro e wd ⟨y1, y2, y3, y4, y5, y6, rfl, hgy, bd⟩)
                | (go_at_call 11; with_reducible refine (C5.out _ _ _ _ _ _ _ _ _ _ _ _ _ (hgx.below bd) hgy).mono ?_; rintro e we ⟨rfl, be⟩)
                | (go_at_call 13; refine (wakes_any _ ?_).mono ?_; (exact TW.out.below (h6_bel (p := gb) (q := gt) (r := gj) (a0 := .slice an nn cn) (a1 := .slice ar 0 cr) (b0 := .slice av ls.length cv) (b1 := .slice aR 0 cR) (c0 := .slice a1 n1 c1) (c1 := .slice a2 0 0) (by assumption))); rintro e wf ⟨rfl, bf⟩))
            have HBE : Hid (Below w.heap.size w wf) := BR.out.trans ((Bt BF.out (h6_bel (p := gb) (q := gt) (r := gj) (a0 := .slice an nn cn) (a1 := .slice ar 0 cr) (b0 := .slice av ls.length cv) (b1 := .slice aR 0 cR) (c0 := .slice a1 n1 c1) (c1 := .slice a2 0 0) (by assumption))).mono BR.out.size)
            rename_i hHeld
            clear hHeld
            go_wp2
            go_ret
            exact ⟨rfl, HBE.out⟩
          · go_wp2_with fail
            clear h0 h1 t0 t1 j0 j1 fj1
            obtain ⟨aJ, haJ⟩ : ∃ a, a = Option.map (fun x => x.add mh) a2 := ⟨_, rfl⟩
            obtain ⟨cJ, hcJ⟩ : ∃ a, a = c2 - mh := ⟨_, rfl⟩
            rw [← haJ, ← hcJ]
            have hIJ : IRow w2 aJ nr cJ (movedL (nh : Nat) (rs.map (turnI nn bn))) := by
              have := HIJ0.out.behind (k := mh) (by omega)
              rw [drop_joined _ _ _ HDL.out, Nat.add_sub_cancel_left] at this
              rw [haJ, hcJ]; exact this
            clear haJ hcJ
            have bX := Ba w2 (.cells #[.slice a1 n1 c1, .slice aJ nr cJ] 25)
            have xj := GBox.new 25 w2 a1 aJ n1 c1 nr cJ
            have BF := hid (Bt B20.out bX)
            have FB := hid (XB.out.on BF.out)
            have FT := hid (XT2.out.on BF.out)
            have GJ2 : Hid (GIs (w2.alloc (.cells #[.slice a1 n1 c1, .slice aJ nr cJ] 25)) a1 n1 c1 aJ nr cJ (joinN hs (turnN ns bn)) (movedL (nh : Nat) (rs.map (turnI nn bn)))) := ⟨HNJ0.out.below bX, hIJ.below bX⟩
            obtain ⟨gj, hgj⟩ : ∃ g, g = w2.heap.size := ⟨_, rfl⟩
            rw [← hgj] at xj
            rw [← hgj]
            clear hgj bX hIJ
            generalize w2.alloc (.cells #[.slice a1 n1 c1, .slice aJ nr cJ] 25) = W8 at *
            have XJ2 := hid xj
            clear xj
            have TW := hid (HT.out.below (BR.out.trans (BF.out.mono BR.out.size)))
            have OG : Hid (GOk W8 an nn cn ar nr cr ns rs) := ⟨GG.out.below BF.out, f3, f4, by omega, by omega⟩
            have OT : Hid (GOk W8 av ls.length cv aR nr cR (turnN ns bn) (rs.map (turnI nn bn))) := ⟨GT.out.below BF.out, turned_small (by omega) f3, turned_kids (by omega) f4, hl100.out, by omega⟩
            have OJ : Hid (GOk W8 a1 n1 c1 aJ nr cJ (joinN hs (turnN ns bn)) (movedL (nh : Nat) (rs.map (turnI nn bn)))) := ⟨GJ2.out, joined_small f3' (turned_small (by omega) f3), joined_kids f4' (turned_kids (by omega) f4), by omega, by omega⟩
            have FN := fine_of HFB.out.symm HGD.out.symm
            have K1 : canonN (turnN ns bn) (rs.map (turnI nn bn)) = canonN ns rs := by have := canonG_turn (b := bn) FN (by omega); rw [hlen] at this; exact this
            have K2 : canonN (joinN hs (turnN ns bn)) (movedL (nh : Nat) (rs.map (turnI nn bn))) = canonN ns rs := by have := canon_turned (b := bn) HGD'.out.symm FN (by omega); rw [hlen, hlen'] at this; exact this
            have K3 : goodG (turnN ns bn) (rs.map (turnI nn bn)) = true := by have := goodG_turn (b := bn) HGD.out.symm (by omega); rw [hlen] at this; exact this
            have K4 : goodG (joinN hs (turnN ns bn)) (movedL (nh : Nat) (rs.map (turnI nn bn))) = true := by have := good_turned (b := bn) HGD'.out.symm HGD.out.symm (by omega); rw [hlen, hlen'] at this; exact this
            have K5 : sameGB ns rs (turnN ns bn) (rs.map (turnI nn bn)) = true := by unfold sameGB; rw [K1, K3, ← HGD.out]; simp
            have K6 : sameGB (joinN hs (turnN ns bn)) (movedL (nh : Nat) (rs.map (turnI nn bn))) ns rs = true := by unfold sameGB; rw [K2, K4, ← HGD.out]; simp
            obtain ⟨CC, hCC⟩ : ∃ C, C = canonN ns rs := ⟨_, rfl⟩
            have C1 : Hid (∀ wx, Below W8.heap.size W8 wx → Calls Tryd.prog 17 #[.agg #[.slice an nn cn, .slice ar nr cr], .agg #[.slice av ls.length cv, .slice aR nr cR]] wx fun e w' => e = .returned (.bool true) ∧ Below wx.heap.size wx w') := fun wx b => by
              have := same_g an ar nn cn nr cr ns rs av aR ls.length cv nr cR (turnN ns bn) (rs.map (turnI nn bn)) wx (OG.out.below b) (OT.out.below b) (TW.out.below b)
              rw [K5] at this; exact this
            have C2 : Hid (∀ wx, Below W8.heap.size W8 wx → Calls Tryd.prog 17 #[.agg #[.slice a1 n1 c1, .slice aJ nr cJ], .agg #[.slice an nn cn, .slice ar nr cr]] wx fun e w' => e = .returned (.bool true) ∧ Below wx.heap.size wx w') := fun wx b => by
              have := same_g a1 aJ n1 c1 nr cJ (joinN hs (turnN ns bn)) (movedL (nh : Nat) (rs.map (turnI nn bn))) an ar nn cn nr cr ns rs wx (OJ.out.below b) (OG.out.below b) (TW.out.below b)
              rw [K6] at this; exact this
            have C3 : Hid (∀ wx, Below W8.heap.size W8 wx → Calls Tryd.prog 10 #[.agg #[.slice a1 n1 c1, .slice aJ nr cJ]] wx fun e w' => ∃ a1 n1 c1 a2 n2 c2, e = .returned (.agg #[.slice a1 n1 c1, .slice a2 n2 c2]) ∧ GIs w' a1 n1 c1 a2 n2 c2 CC.1 CC.2 ∧ Below wx.heap.size wx w') := fun wx b => by
              have := canonN_any (OJ.out.below b) (TW.out.below b)
              rw [K2, ← hCC] at this; exact this
            have C4 : Hid (∀ wx, Below W8.heap.size W8 wx → Calls Tryd.prog 10 #[.agg #[.slice an nn cn, .slice ar nr cr]] wx fun e w' => ∃ a1 n1 c1 a2 n2 c2, e = .returned (.agg #[.slice a1 n1 c1, .slice a2 n2 c2]) ∧ GIs w' a1 n1 c1 a2 n2 c2 CC.1 CC.2 ∧ Below wx.heap.size wx w') := fun wx b => by
              have := canonN_any (OG.out.below b) (TW.out.below b)
              rw [← hCC] at this; exact this
            have C5 : Hid (∀ wx a1 n1 c1 a2 n2 c2 b1 m1 d1 b2 m2 d2, GIs wx a1 n1 c1 a2 n2 c2 CC.1 CC.2 → GIs wx b1 m1 d1 b2 m2 d2 CC.1 CC.2 → Calls Tryd.prog 11 #[.agg #[.slice a1 n1 c1, .slice a2 n2 c2], .agg #[.slice b1 m1 d1, .slice b2 m2 d2]] wx fun e w' => e = .returned (.bool true) ∧ Below wx.heap.size wx w') := fun wx a1 n1 c1 a2 n2 c2 b1 m1 d1 b2 m2 d2 h h' => by
              have := requal_any a1 a2 n1 c1 n2 c2 CC.1 CC.2 b1 b2 m1 d1 m2 d2 CC.1 CC.2 wx h h'
              rw [decide_eq_true (⟨rfl, rfl⟩ : CC.1 = CC.1 ∧ CC.2 = CC.2)] at this; exact this
            obtain ⟨p0, p1⟩ := FB.out.c
            obtain ⟨q0, q1⟩ := FT.out.c
            obtain ⟨r0, r1⟩ := XJ2.out.c
            have HS0 : Hid (W8.cell? ⟨gb, 0, none⟩ = some (.slice an nn cn) ∧ W8.cell? ⟨gb, 1, none⟩ = some (.slice ar nr cr) ∧ W8.cell? ⟨gt, 0, none⟩ = some (.slice av ls.length cv) ∧ W8.cell? ⟨gt, 1, none⟩ = some (.slice aR nr cR) ∧ W8.cell? ⟨gj, 0, none⟩ = some (.slice a1 n1 c1) ∧ W8.cell? ⟨gj, 1, none⟩ = some (.slice aJ nr cJ) ∧ Below W8.heap.size W8 W8) := ⟨p0, p1, q0, q1, r0, r1, Below.refl _ _⟩
            clear p0 p1 q0 q1 r0 r1 K1 K2 K3 K4 K5 K6 FN hCC GJ2 OG OT OJ
            go_region_held3 (fun wx => wx.cell? ⟨gb, 0, none⟩ = some (.slice an nn cn) ∧ wx.cell? ⟨gb, 1, none⟩ = some (.slice ar nr cr) ∧ wx.cell? ⟨gt, 0, none⟩ = some (.slice av ls.length cv) ∧ wx.cell? ⟨gt, 1, none⟩ = some (.slice aR nr cR) ∧ wx.cell? ⟨gj, 0, none⟩ = some (.slice a1 n1 c1) ∧ wx.cell? ⟨gj, 1, none⟩ = some (.slice aJ nr cJ) ∧ Below W8.heap.size W8 wx)
              (first | exact h6_on HS0.out (Bd W8 1) | exact h6_on (by assumption) (by assumption))
              (first
                | (go_at_call 17; with_reducible refine (C1.out _ ?_).mono ?_; (exact h6_bel (p := gb) (q := gt) (r := gj) (a0 := .slice an nn cn) (a1 := .slice ar nr cr) (b0 := .slice av ls.length cv) (b1 := .slice aR nr cR) (c0 := .slice a1 n1 c1) (c1 := .slice aJ nr cJ) (by assumption)); rintro e wa ⟨rfl, ba⟩)
                | (go_at_call 17; with_reducible refine (C2.out _ ?_).mono ?_; (exact h6_bel (p := gb) (q := gt) (r := gj) (a0 := .slice an nn cn) (a1 := .slice ar nr cr) (b0 := .slice av ls.length cv) (b1 := .slice aR nr cR) (c0 := .slice a1 n1 c1) (c1 := .slice aJ nr cJ) (by assumption)); rintro e wb ⟨rfl, bb⟩)
                | (go_at_call 10; with_reducible refine (C3.out _ ?_).mono ?_; (exact h6_bel (p := gb) (q := gt) (r := gj) (a0 := .slice an nn cn) (a1 := .slice ar nr cr) (b0 := .slice av ls.length cv) (b1 := .slice aR nr cR) (c0 := .slice a1 n1 c1) (c1 := .slice aJ nr cJ) (by assumption)); rintro e wc ⟨x1, x2, x3, x4, x5, x6, rfl, hgx, bc⟩)
                | (go_at_call 10; with_reducible refine (C4.out _ ?_).mono ?_; (exact h6_bel (p := gb) (q := gt) (r := gj) (a0 := .slice an nn cn) (a1 := .slice ar nr cr) (b0 := .slice av ls.length cv) (b1 := .slice aR nr cR) (c0 := .slice a1 n1 c1) (c1 := .slice aJ nr cJ) (by assumption)); rintro e wd ⟨y1, y2, y3, y4, y5, y6, rfl, hgy, bd⟩)
                | (go_at_call 11; with_reducible refine (C5.out _ _ _ _ _ _ _ _ _ _ _ _ _ (hgx.below bd) hgy).mono ?_; rintro e we ⟨rfl, be⟩)
                | (go_at_call 13; refine (wakes_any _ ?_).mono ?_; (exact TW.out.below (h6_bel (p := gb) (q := gt) (r := gj) (a0 := .slice an nn cn) (a1 := .slice ar nr cr) (b0 := .slice av ls.length cv) (b1 := .slice aR nr cR) (c0 := .slice a1 n1 c1) (c1 := .slice aJ nr cJ) (by assumption))); rintro e wf ⟨rfl, bf⟩))
            have HBE : Hid (Below w.heap.size w wf) := BR.out.trans ((Bt BF.out (h6_bel (p := gb) (q := gt) (r := gj) (a0 := .slice an nn cn) (a1 := .slice ar nr cr) (b0 := .slice av ls.length cv) (b1 := .slice aR nr cR) (c0 := .slice a1 n1 c1) (c1 := .slice aJ nr cJ) (by assumption))).mono BR.out.size)
            rename_i hHeld
            clear hHeld
            go_wp2
            go_ret
            exact ⟨rfl, HBE.out⟩
end Go.Proofs.YtgoaaeiefpdkpaaDoor
