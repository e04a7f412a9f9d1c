/-
  The walk of GraphOnce.
-/
import Derived.Test.YtgoaaeiefpdkpaaDoorM3
import Derived.Test.YtgoaaeiefpdkpaaDoorK1
import Derived.Test.YtgoaaeiefpdkpaaDoorH6
set_option linter.unusedVariables false
set_option linter.unusedSimpArgs false
set_option maxRecDepth 100000
namespace Go.Proofs.YtgoaaeiefpdkpaaDoor
open Go.RowKit

/-- A block of truths. -/
def cb (l : List Bool) : List Value := l.map Value.bool
def BBlk (w : World) (g : Nat) (l : List Bool) : Prop := w.heap[g]? = some (.cells (cb l).toArray 4 (0, 0))
theorem BBlk.lt {w : World} {g : Nat} {l : List Bool} (h : BBlk w g l) : g < w.heap.size := (Array.getElem?_eq_some_iff.1 h).1
theorem BBlk.cell {w : World} {g : Nat} {l : List Bool} (h : BBlk w g l) {i : Nat} (hi : i < l.length) : w.cell? ⟨g, i, none⟩ = some (.bool (l.getD i false)) := by
  rw [blk_cell h]; simp [cb, List.getElem?_eq_getElem hi]
theorem BBlk.free {w : World} {g : Nat} {l : List Bool} (h : BBlk w g l) (i : Nat) : w.frozen? ⟨g, i, none⟩ = false := blk_free h i
theorem BBlk.set {w : World} {g : Nat} {l : List Bool} (h : BBlk w g l) (i : Nat) (z : Bool) : BBlk (w.setCell ⟨g, i, none⟩ (.bool z)) g (l.set i z) := by
  have := blk_set (i := i) h (.bool z)
  unfold BBlk
  rw [this]
  congr 2
  simp [cb, List.map_set]
theorem BBlk.on {w w' : World} {g : Nat} {l : List Bool} (h : BBlk w g l) (hb : w'.heap[g]? = w.heap[g]?) : BBlk w' g l := hb.trans h
theorem made_cb (N : Nat) : madeCells #[Value.bool false] N = (cb (List.replicate N false)).toArray := by
  apply Array.ext
  · rw [size_madeCells]; simp [cb]
  · intro i h1 h2
    simp [madeCells, cb, Nat.mod_one]
theorem info_bool : (Tryd.prog.info? 4).map (fun i => (i.zero, i.size, i.bytes)) = some (some (.bool false), 1, 1) := by kernel_rfl
theorem bset_self {l : List Bool} {i : Nat} (h : i < l.length) : (l.set i true).getD i false = true := by
  rw [List.getD_eq_getElem?_getD, List.getElem?_set_self h]; rfl
theorem bset_mono {l : List Bool} {i j : Nat} (h : l.getD j false = true) : (l.set i true).getD j false = true := by
  by_cases e : i = j
  · subst e
    by_cases hl : i < l.length
    · exact bset_self hl
    · rw [List.getD_eq_getElem?_getD, List.getElem?_eq_none (by omega)] at h; cases h
  · rw [List.getD_eq_getElem?_getD, List.getElem?_set_ne e, ← List.getD_eq_getElem?_getD]; exact h
theorem fine_of {ns : List Nd} {rs : List Int} (hf : fewB ns rs 100 = true) (hg : goodG ns rs = true) : Fine ns rs 100001 := by
  obtain ⟨f1, f2, f3, f4⟩ := few_parts hf
  exact ⟨hg, f4, by omega, by omega⟩
theorem h4_on {w1 wx wy : World} {p q : Nat} {a0 a1 b0 b1 : Value} (h : wx.cell? ⟨p, 0, none⟩ = some a0 ∧ wx.cell? ⟨p, 1, none⟩ = some a1 ∧ wx.cell? ⟨q, 0, none⟩ = some b0 ∧ wx.cell? ⟨q, 1, none⟩ = some b1 ∧ Below w1.heap.size w1 wx) (hb : Below wx.heap.size wx wy) : wy.cell? ⟨p, 0, none⟩ = some a0 ∧ wy.cell? ⟨p, 1, none⟩ = some a1 ∧ wy.cell? ⟨q, 0, none⟩ = some b0 ∧ wy.cell? ⟨q, 1, none⟩ = some b1 ∧ Below w1.heap.size w1 wy := by
  obtain ⟨h1, h2, h3, h4, h7⟩ := h
  exact ⟨(hb.cell (p := ⟨p, 0, none⟩) (cell_lt h1)).trans h1, (hb.cell (p := ⟨p, 1, none⟩) (cell_lt h1)).trans h2, (hb.cell (p := ⟨q, 0, none⟩) (cell_lt h3)).trans h3, (hb.cell (p := ⟨q, 1, none⟩) (cell_lt h3)).trans h4, Bt h7 hb⟩
theorem h4_bel {w1 wx : World} {p q : Nat} {a0 a1 b0 b1 : Value} (h : wx.cell? ⟨p, 0, none⟩ = some a0 ∧ wx.cell? ⟨p, 1, none⟩ = some a1 ∧ wx.cell? ⟨q, 0, none⟩ = some b0 ∧ wx.cell? ⟨q, 1, none⟩ = some b1 ∧ Below w1.heap.size w1 wx) : Below w1.heap.size w1 wx := h.2.2.2.2

set_option maxHeartbeats 8000000 in
theorem graphOnce_walk (an ar : Option Addr) (nn cn nr cr : Nat) (ns : List Nd) (rs : List Int) (w : World) (G : GIs w an nn cn ar nr cr ns rs) (hT : Tabs w) :
    Calls Tryd.prog 5 #[GVal an nn cn ar nr cr] w fun e w' => e = .returned (.bool true) ∧ Below w.heap.size w w' := by
  have HG := hid G
  have HT := hid hT
  have hlen := G.nodes.len
  have hrl := G.roots.len
  have hn1 := G.nodes.fits
  have hn2 := G.nodes.most
  have hr1 := G.roots.fits
  have hr2 := G.roots.most
  unfold maxLen at hn2 hr2
  unfold GVal
  clear G hT
  go_enter Tryd.func5, Tryd.ntmps5
  go_wp2_with fail
  have bA := Ba w (.cells #[.slice an nn cn, .slice ar nr cr] 25)
  have x1 := GBox.new 25 w an ar nn cn nr cr
  generalize w.alloc (.cells #[.slice an nn cn, .slice ar nr cr] 25) = W1 at *
  obtain ⟨gb, hgb⟩ : ∃ g, g = w.heap.size := ⟨_, rfl⟩
  rw [← hgb] at x1
  rw [← hgb]
  clear hgb
  refine (few_any an ar nn cn nr cr ns rs 100 (by omega) W1 (HG.out.below bA)).mono ?_
  rintro e W ⟨rfl, b2⟩
  have y1 := x1.on b2
  have HBW := hid (Bt bA b2)
  have Y1 := hid y1
  obtain ⟨hc0, hc1⟩ := y1.c
  clear bA x1 b2 y1
  obtain ⟨fb, hfb⟩ : ∃ gd, gd = fewB ns rs 100 := ⟨_, rfl⟩
  rw [← hfb]
  have HFB := hid hfb
  clear hfb
  cases fb
  · go_wp2_with (go_at_call 13; refine (wakes_any _ (HT.out.below HBW.out)).mono ?_; rintro e w9 ⟨rfl, b9⟩)
    go_ret
    exact ⟨rfl, Bt HBW.out b9⟩
  obtain ⟨f1, f2, f3, f4⟩ := few_parts HFB.out.symm
  rw [hlen] at f1
  rw [hrl] at f2
  go_wp2_with fail
  refine (rgood_g an ar nn cn nr cr ns rs W (HG.out.below HBW.out) f3 (by omega)).mono ?_
  rintro e w2 ⟨rfl, b2⟩
  have HB2 := hid (Bt HBW.out b2)
  have Y2 := hid (Y1.out.on b2)
  clear hc0 hc1 b2
  obtain ⟨hc0, hc1⟩ := Y2.out.c
  obtain ⟨gd, hgd⟩ : ∃ gd, gd = goodG ns rs := ⟨_, rfl⟩
  rw [← hgd]
  have HGD := hid hgd
  clear hgd
  cases gd
  · go_wp2_with (go_at_call 13; refine (wakes_any _ (HT.out.below HB2.out)).mono ?_; rintro e w9 ⟨rfl, b9⟩)
    go_ret
    exact ⟨rfl, Bt HB2.out b9⟩
  have GK := hid (gok_of (HG.out.below HB2.out) HFB.out.symm)
  have FN := hid (fine_of HFB.out.symm HGD.out.symm)
  go_wp2_with fail
  refine (canonN_any GK.out (HT.out.below HB2.out)).mono ?_
  rintro e w3 ⟨an', nn', cn', ar', nr', cr', rfl, hGI, b3⟩
  unfold GVal
  obtain ⟨C, hC⟩ : ∃ C, C = canonN ns rs := ⟨_, rfl⟩
  rw [← hC] at hGI
  have HC := hid hC
  have HLN : Hid (C.1.length ≤ ns.length ∧ C.2.length = rs.length) := by rw [hC]; exact FN.out.len
  have HOR : Hid (Ordered C.1 C.2) := by rw [hC]; exact FN.out.ordered
  have HGC : Hid (goodG C.1 C.2 = true) := by rw [hC]; exact FN.out.goodC
  have HAG : Hid (canonN C.1 C.2 = C) := by rw [hC]; exact FN.out.again
  have HSM : Hid (sameGB ns rs C.1 C.2 = true) := by
    have e1 := HAG.out
    have e2 := HGC.out
    unfold Hid sameGB
    rw [e1, e2, ← HGD.out, ← hC]; simp
  have hl' := hGI.nodes.len
  have hrl' := hGI.roots.len
  have hn1' := hGI.nodes.fits
  have hn2' := hGI.nodes.most
  have hr1' := hGI.roots.fits
  have hr2' := hGI.roots.most
  unfold maxLen at hn2' hr2'
  have hnl : nn' ≤ nn := by have := HLN.out.1; omega
  have hrr : nr' = nr := by have := HLN.out.2; omega
  subst hrr
  have hGK : GOk w3 an' nn' cn' ar' nr' cr' C.1 C.2 := ⟨hGI, by rw [hC]; exact FN.out.smallC f3, by rw [hC]; exact FN.out.kidsC, by omega, by omega⟩
  have bX := Ba w3 (.cells #[.slice an' nn' cn', .slice ar' nr' cr'] 25)
  have x3 := GBox.new 25 w3 an' ar' nn' cn' nr' cr'
  have y3 := (Y2.out.on b3).on bX
  have GK' := hid (hGK.below bX)
  have HB3 := hid (Bt (Bt HB2.out b3) bX)
  have HB23 := hid (Bt b3 bX)
  clear hC hGI hGK hc0 hc1 f3 f4
  go_wp2_with fail
  obtain ⟨gc, hgc⟩ : ∃ g, g = w3.heap.size := ⟨_, rfl⟩
  rw [← hgc] at x3
  rw [← hgc]
  clear hgc
  generalize w3.alloc (.cells #[.slice an' nn' cn', .slice ar' nr' cr'] 25) = W3 at *
  have GKA := hid (GK.out.below HB23.out)
  have TW := hid (HT.out.below HB3.out)
  obtain ⟨hc0, hc1⟩ := y3.c
  obtain ⟨hd0, hd1⟩ := x3.c
  have Y3 := hid y3
  have X3 := hid x3
  have HS0 : Hid (W3.cell? ⟨gb, 0, none⟩ = some (.slice an nn cn) ∧ W3.cell? ⟨gb, 1, none⟩ = some (.slice ar nr' cr) ∧ W3.cell? ⟨gc, 0, none⟩ = some (.slice an' nn' cn') ∧ W3.cell? ⟨gc, 1, none⟩ = some (.slice ar' nr' cr') ∧ Below W3.heap.size W3 W3) := ⟨hc0, hc1, hd0, hd1, Below.refl _ _⟩
  clear bX y3 x3 b3 HG HT
  have C1 : Hid (∀ wx, Below W3.heap.size W3 wx → Calls Tryd.prog 20 #[.agg #[.slice an' nn' cn', .slice ar' nr' cr']] wx fun e w' => e = .returned (.bool true) ∧ Below wx.heap.size wx w') := fun wx b => by
    have := good_g an' ar' nn' cn' nr' cr' C.1 C.2 wx (GK'.out.is.below b) GK'.out.small GK'.out.nn_le (TW.out.below b)
    rw [HGC.out] at this; exact this
  have C2 : Hid (∀ wx, Below W3.heap.size W3 wx → Calls Tryd.prog 10 #[.agg #[.slice an' nn' cn', .slice ar' nr' cr']] wx fun e w' => ∃ a1 n1 c1 a2 n2 c2, e = .returned (.agg #[.slice a1 n1 c1, .slice a2 n2 c2]) ∧ GIs w' a1 n1 c1 a2 n2 c2 C.1 C.2 ∧ Below wx.heap.size wx w') := fun wx b => by
    have := canonN_any (GK'.out.below b) (TW.out.below b)
    rw [HAG.out] at this; exact this
  have C3 : Hid (∀ wx a1 n1 c1 a2 n2 c2, Below W3.heap.size W3 wx → GIs wx a1 n1 c1 a2 n2 c2 C.1 C.2 → Calls Tryd.prog 11 #[.agg #[.slice a1 n1 c1, .slice a2 n2 c2], .agg #[.slice an' nn' cn', .slice ar' nr' cr']] wx fun e w' => e = .returned (.bool true) ∧ Below wx.heap.size wx w') := fun wx a1 n1 c1 a2 n2 c2 b h => by
    have := requal_any a1 a2 n1 c1 n2 c2 C.1 C.2 an' ar' nn' cn' nr' cr' C.1 C.2 wx h (GK'.out.is.below b)
    rw [decide_eq_true (⟨rfl, rfl⟩ : C.1 = C.1 ∧ C.2 = C.2)] at this; exact this
  have C4 : Hid (∀ wx, Below W3.heap.size W3 wx → Calls Tryd.prog 17 #[.agg #[.slice an nn cn, .slice ar nr' cr], .agg #[.slice an' nn' cn', .slice ar' nr' cr']] wx fun e w' => e = .returned (.bool true) ∧ Below wx.heap.size wx w') := fun wx b => by
    have := same_g an ar nn cn nr' cr ns rs an' ar' nn' cn' nr' cr' C.1 C.2 wx (GKA.out.below b) (GK'.out.below b) (TW.out.below b)
    rw [HSM.out] at this; exact this
  have e2 : ((nr' : Int) != (nr' : Int)) = false := by simp
  have e5 : decide (nn < nn') = false := by simp; omega
  have e6 : decide ((nn : Int) < (nn' : Int)) = false := by simp; omega
  clear hc0 hc1 hd0 hd1
  go_wp2_with fail
  go_region_held3 (fun wx => wx.cell? ⟨gb, 0, none⟩ = some (.slice an nn cn) ∧ wx.cell? ⟨gb, 1, none⟩ = some (.slice ar nr' cr) ∧ wx.cell? ⟨gc, 0, none⟩ = some (.slice an' nn' cn') ∧ wx.cell? ⟨gc, 1, none⟩ = some (.slice ar' nr' cr') ∧ Below W3.heap.size W3 wx)
    (first | exact h4_on HS0.out (Bd W3 1) | exact h4_on (by assumption) (by assumption))
    (first
      | (go_at_call 20; with_reducible refine (C1.out _ ?_).mono ?_; (exact h4_bel (p := gb) (q := gc) (a0 := .slice an nn cn) (a1 := .slice ar nr' cr) (b0 := .slice an' nn' cn') (b1 := .slice ar' nr' cr') (by assumption)); rintro e wa ⟨rfl, ba⟩)
      | (go_at_call 10; with_reducible refine (C2.out _ ?_).mono ?_; (exact h4_bel (p := gb) (q := gc) (a0 := .slice an nn cn) (a1 := .slice ar nr' cr) (b0 := .slice an' nn' cn') (b1 := .slice ar' nr' cr') (by assumption)); rintro e wb ⟨a1, n1, c1, a2, n2, c2, rfl, hgi, bb⟩)
      | (go_at_call 11; with_reducible refine (C3.out _ _ _ _ _ _ _ ?_ hgi).mono ?_; (exact h4_bel (p := gb) (q := gc) (a0 := .slice an nn cn) (a1 := .slice ar nr' cr) (b0 := .slice an' nn' cn') (b1 := .slice ar' nr' cr') (by assumption)); rintro e wd ⟨rfl, bd⟩)
      | (go_at_call 17; with_reducible refine (C4.out _ ?_).mono ?_; (exact h4_bel (p := gb) (q := gc) (a0 := .slice an nn cn) (a1 := .slice ar nr' cr) (b0 := .slice an' nn' cn') (b1 := .slice ar' nr' cr') (by assumption)); rintro e we ⟨rfl, be⟩))
  have HWE : Hid (Below W3.heap.size W3 we) := h4_bel (p := gb) (q := gc) (a0 := .slice an nn cn) (a1 := .slice ar nr' cr) (b0 := .slice an' nn' cn') (b1 := .slice ar' nr' cr') (by assumption)
  rename_i hHeld
  clear hHeld
  have X4 := hid (X3.out.on HWE.out)
  have GC := hid (GK'.out.is.below HWE.out)
  have HBE := hid (Bt HB3.out HWE.out)
  obtain ⟨hd0, hd1⟩ := X4.out.c
  have hmk := fun wx => run_make_row' (P := Tryd.prog) 32 4 (.bool false) 1 Tryd.underlying32 info_bool rfl .i64 .i64 nn' (by omega) (by omega) wx
  have HPR : Hid (∀ z ∈ C.2, 0 ≤ z ∧ z < (nn' : Int)) := by rw [← hl']; exact places_rng (goodG_parts HGC.out).2
  have HPK : Hid (∀ j, j < nn' → ∀ z ∈ (C.1.getD j default).kids, 0 ≤ z ∧ z < (nn' : Int)) := fun j hj z hz => by
    have := places_rng ((goodG_parts HGC.out).1 _ (getD_mem_nd (by omega : j < C.1.length))) z hz
    rw [hl'] at this; exact this
  have TE := hid (TW.out.below HWE.out)
  clear ba bb bd be hgi C1 C2 C3 C4 HS0 HB3 HB23 GKA Y3 X3 Y2 Y1 HFB HGD GK FN HC HLN HAG HSM TW HBW HB2
  go_wp2_with fail
  have bS := Ba we (.cells (madeCells #[.bool false] nn') 4)
  have hBB : BBlk (we.alloc (.cells (madeCells #[.bool false] nn') 4)) we.heap.size (List.replicate nn' false) := by unfold BBlk; rw [← made_cb]; exact blk_new _ _ _
  obtain ⟨gs, hgs⟩ : ∃ g, g = we.heap.size := ⟨_, rfl⟩
  have hgl : Hid (we.heap.size ≤ gs) := by unfold Hid; omega
  rw [← hgs] at hBB
  rw [← hgs]
  clear hgs hmk
  generalize we.alloc (.cells (madeCells #[.bool false] nn') 4) = W5 at *
  have HBS := hid bS
  have HBB := hid hBB
  clear bS hBB hd0 hd1
  go_loopw [5] (fun i wr => ∃ m : Nat, m ≤ nr' ∧ i = .int .i64 m ∧ Hid (∃ l, BBlk wr gs l ∧ l.length = nn' ∧ (∀ z ∈ C.2.take m, l.getD z.toNat false = true) ∧ Below we.heap.size we wr)) (fun i _ => nr' - (intOf i).toNat)
  case atStart => exact ⟨0, Nat.zero_le _, rfl, _, HBB.out, by simp, fun z hz => by simp at hz, HBS.out⟩
  case round =>
    obtain ⟨m, hmn, rfl, hI⟩ := hrel
    obtain ⟨l, hl1, hl2, hl3, hl4⟩ := hI.out
    have L1 := hid hl1
    have L3 := hid hl3
    have L4 := hid hl4
    clear hl1 hl3 hl4 hI
    by_cases hlt : m < nr'
    · obtain ⟨b, o, rfl, hlb, hcc⟩ := GC.out.roots.some (by omega)
      have hml : m < C.2.length := by omega
      obtain ⟨z, hz⟩ : ∃ z, z = C.2.getD m 0 := ⟨_, rfl⟩
      have hzr := HPR.out z (by rw [hz, List.getD_eq_getElem?_getD, List.getElem?_eq_getElem hml]; exact List.getElem_mem hml)
      obtain ⟨zn, rfl⟩ := Int.eq_ofNat_of_zero_le hzr.1
      have hzn : zn < nn' := by omega
      have HZ := hid hz
      have e1 : decide ((zn : Int) < 0) = false := by simp
      have e3 : decide ((nn' : Int) ≤ (zn : Int)) = false := by simp; omega
      have e4 : ¬ ((nn' : Int) ≤ (zn : Int)) := by omega
      have hbx := L4.out
      obtain ⟨k0, k1⟩ := (X4.out.on hbx).c
      have kz : wr.cell? ⟨b, o + m, none⟩ = some (.int .i64 (zn : Int)) := by rw [hz]; exact (hbx.cell (p := ⟨b, o + m, none⟩) hlb).trans (hcc m hlt)
      clear hz hcc hbx hzr
      go_wp2_with fail
      go_quiet (fail)
      have bq := Bd wr nq
      have L1' := hid (L1.out.on (bq.block gs L1.out.lt))
      have L4' := hid (Bt L4.out bq)
      clear k0 k1 kz
      generalize wr.drewN nq = wq at *
      obtain ⟨k0, k1⟩ := (X4.out.on L4'.out).c
      obtain ⟨b2, o2, e5, hlb2, hcc2⟩ := GC.out.roots.some (by omega)
      cases e5
      have kz : wq.cell? ⟨b, o + m, none⟩ = some (.int .i64 (zn : Int)) := by rw [HZ.out]; exact (L4'.out.cell (p := ⟨b, o + m, none⟩) hlb2).trans (hcc2 m hlt)
      have ks : wq.cell? ⟨gs, zn, none⟩ = some (.bool (l.getD zn false)) := L1'.out.cell (by omega)
      have fs : wq.frozen? ⟨gs, zn, none⟩ = false := L1'.out.free zn
      clear hcc2 bq
      go_wp2
      refine ⟨⟨m + 1, by omega, by go_num, l.set zn true, L1'.out.set zn true, by rw [List.length_set]; exact hl2, fun z hz => ?_, L4'.out.setCell (p := ⟨gs, zn, none⟩) hgl.out _⟩, by simp [intOf] <;> omega⟩
      rw [take_succ_of 0 hml, ← HZ.out] at hz
      rcases List.mem_append.1 hz with hz | hz
      · exact bset_mono (L3.out z hz)
      · obtain rfl : z = (zn : Int) := by simpa using hz
        exact bset_self (by omega)
    · obtain rfl : m = nr' := by omega
      have h3 := L3.out
      rw [List.take_of_length_le (by omega)] at h3
      have L5 := hid h3
      clear h3 L3
      obtain ⟨k0, k1⟩ := (X4.out.on L4.out).c
      go_wp2_with fail
      clear k0 k1
      go_loopw [6] (fun i wr => ∃ m : Nat, m ≤ nn' ∧ i = .int .i64 m ∧ Hid (∃ l, BBlk wr gs l ∧ l.length = nn' ∧ (∀ z ∈ C.2, l.getD z.toNat false = true) ∧ (∀ j, j < m → ∀ z ∈ (C.1.getD j default).kids, l.getD z.toNat false = true) ∧ Below we.heap.size we wr)) (fun i _ => nn' - (intOf i).toNat)
      case atStart => exact ⟨0, Nat.zero_le _, rfl, _, L1.out, hl2, L5.out, fun j hj => by omega, L4.out⟩
      case round =>
        obtain ⟨i, hin, rfl, hI⟩ := hrel
        clear L1 L4 L5 hl2 l
        obtain ⟨l, hl1, hl2, hl3, hl5, hl4⟩ := hI.out
        have L1 := hid hl1
        have L3 := hid hl3
        have L4 := hid hl4
        have L5 := hid hl5
        clear hl1 hl3 hl4 hl5 hI
        obtain ⟨k0, k1⟩ := (X4.out.on L4.out).c
        by_cases hlt : i < nn'
        · obtain ⟨b, o, rfl, hlb, hcc⟩ := GC.out.nodes.some (by omega)
          have hsi : l.getD i false = true := by
            rcases HOR.out.src i (by omega) with q | ⟨j, q1, q2⟩
            · have := L3.out _ q; rwa [Int.toNat_natCast] at this
            · have := L5.out j q1 _ q2; rwa [Int.toNat_natCast] at this
          have ks : wr.cell? ⟨gs, i, none⟩ = some (.bool true) := by rw [← hsi]; exact L1.out.cell (by omega)
          have HCC := hid hcc
          have hnd := hcc i hlt
          obtain ⟨d, hd⟩ : ∃ d, d = C.1.getD i default := ⟨_, rfl⟩
          have HKR := hid (HPK.out i hlt)
          rw [← hd] at hnd HKR
          obtain ⟨j1, j2, j3, ak, nk, ck, j4, j5⟩ := hnd
          obtain ⟨dk, dn, dt, dl⟩ := d
          have HD := hid hd
          simp only [] at j1 j2 j3 j5 HKR
          replace j1 := (L4.out.cell (p := ⟨b, o + i * 4, none⟩) hlb).trans j1
          replace j2 := (L4.out.cell (p := ⟨b, o + i * 4 + 1, none⟩) hlb).trans j2
          replace j3 := (L4.out.cell (p := ⟨b, o + i * 4 + 2, none⟩) hlb).trans j3
          replace j4 := (L4.out.cell (p := ⟨b, o + i * 4 + 3, none⟩) hlb).trans j4
          have hnk := j5.fits
          have hnk2 := j5.most
          have hnk3 := j5.len
          unfold maxLen at hnk2
          have J5 := hid j5
          have bX := Ba wr (.cells #[.int .i64 dk, .int .i64 dn, .string dt, .slice ak nk ck] 34)
          have hbx := blk_new wr #[.int .i64 dk, .int .i64 dn, .string dt, .slice ak nk ck] 34
          have HBX := hid bX
          have HBK := hid hbx
          clear hcc hd j5 hsi bX hbx
          go_wp2_with fail
          obtain ⟨gx, hgx⟩ : ∃ g, g = wr.heap.size := ⟨_, rfl⟩
          have hgxl : Hid (gs ≠ gx) := by unfold Hid; have := L1.out.lt; omega
          rw [← hgx] at HBK
          rw [← hgx]
          have M1 := hid (L1.out.on (HBX.out.block gs L1.out.lt))
          have M4 := hid (Bt L4.out HBX.out)
          clear hgx k0 k1 ks j1 j2 j3 j4
          generalize wr.alloc (.cells #[.int .i64 dk, .int .i64 dn, .string dt, .slice ak nk ck] 34) = W6 at *
          go_loopw [8] (fun i wr => ∃ q : Nat, q ≤ nk ∧ i = .int .i64 q ∧ Hid (∃ l', BBlk wr gs l' ∧ l'.length = nn' ∧ (∀ z, l.getD z false = true → l'.getD z false = true) ∧ (∀ z ∈ dl.take q, l'.getD z.toNat false = true) ∧ wr.heap[gx]? = some (.cells #[.int .i64 dk, .int .i64 dn, .string dt, .slice ak nk ck] 34 (0, 0)) ∧ Below we.heap.size we wr)) (fun i _ => nk - (intOf i).toNat)
          case atStart => exact ⟨0, Nat.zero_le _, rfl, _, M1.out, hl2, fun _ h => h, fun z hz => by simp at hz, HBK.out, M4.out⟩
          case round =>
            obtain ⟨q, hqn, rfl, hI⟩ := hrel
            obtain ⟨l', hm1, hm2, hm3, hm4, hm5, hm6⟩ := hI.out
            have N1 := hid hm1
            have N3 := hid hm3
            have N4 := hid hm4
            have N5 := hid hm5
            have N6 := hid hm6
            have kx3 : wr.cell? ⟨gx, 3, none⟩ = some (.slice ak nk ck) := blk_cell hm5 3
            clear hm1 hm3 hm4 hm5 hm6 hI
            by_cases hq : q < nk
            · obtain ⟨bk, ok, rfl, hlk, hck⟩ := J5.out.some (by omega)
              have hql : q < dl.length := by omega
              obtain ⟨z, hz⟩ : ∃ z, z = dl.getD q 0 := ⟨_, rfl⟩
              have hzr := HKR.out z (by rw [hz, List.getD_eq_getElem?_getD, List.getElem?_eq_getElem hql]; exact List.getElem_mem hql)
              obtain ⟨zn, rfl⟩ := Int.eq_ofNat_of_zero_le hzr.1
              have hzn : zn < nn' := by omega
              have HZ := hid hz
              have kz : wr.cell? ⟨bk, ok + q, none⟩ = some (.int .i64 (zn : Int)) := by rw [hz]; exact (N6.out.cell (p := ⟨bk, ok + q, none⟩) hlk).trans (hck q hq)
              have ks : wr.cell? ⟨gs, zn, none⟩ = some (.bool (l'.getD zn false)) := N1.out.cell (by omega)
              have fs : wr.frozen? ⟨gs, zn, none⟩ = false := N1.out.free zn
              clear hz hck hzr
              go_wp2
              refine ⟨⟨q + 1, by omega, by go_num, l'.set zn true, N1.out.set zn true, by rw [List.length_set]; exact hm2, fun z h => bset_mono (N3.out z h), fun z hz => ?_, (Below.heap_setCell _ _ _ _ (fun e => hgxl.out e.symm)).trans N5.out, N6.out.setCell (p := ⟨gs, zn, none⟩) hgl.out _⟩, by simp [intOf] <;> omega⟩
              rw [take_succ_of 0 hql, ← HZ.out] at hz
              rcases List.mem_append.1 hz with hz | hz
              · exact bset_mono (N4.out z hz)
              · obtain rfl : z = (zn : Int) := by simpa using hz
                exact bset_self (by omega)
            · obtain rfl : nk = q := by omega
              have h4 := N4.out
              rw [List.take_of_length_le (by omega)] at h4
              have N7 := hid h4
              clear h4 N4
              go_wp2_with fail
              clear kx3
              go_loopw [9] (fun v wr => ∃ q : Nat, q ≤ i ∧ v = .int .i64 q ∧ Hid (BBlk wr gs l' ∧ wr.heap[gx]? = some (.cells #[.int .i64 dk, .int .i64 dn, .string dt, .slice ak nk ck] 34 (0, 0)) ∧ Below we.heap.size we wr)) (fun v _ => i - (intOf v).toNat)
              case atStart => exact ⟨0, Nat.zero_le _, rfl, N1.out, N5.out, N6.out⟩
              case round =>
                obtain ⟨q, hqn, rfl, hI⟩ := hrel
                clear N1 N5 N6
                obtain ⟨hm1, hm5, hm6⟩ := hI.out
                have N1 := hid hm1
                have N5 := hid hm5
                have N6 := hid hm6
                clear hm1 hm5 hm6 hI
                by_cases hq : q < i
                · have hnd := HCC.out q (by omega)
                  have hds := HOR.out.dist q i hq (by omega)
                  rw [← HD.out] at hds
                  obtain ⟨e, he⟩ : ∃ e, e = C.1.getD q default := ⟨_, rfl⟩
                  rw [← he] at hnd hds
                  obtain ⟨j1, j2, j3, ae, ne, ce, j4, _⟩ := hnd
                  obtain ⟨ek, en, et, el⟩ := e
                  simp only [] at j1 j2 j3
                  replace j1 := (N6.out.cell (p := ⟨b, o + q * 4, none⟩) hlb).trans j1
                  replace j2 := (N6.out.cell (p := ⟨b, o + q * 4 + 1, none⟩) hlb).trans j2
                  replace j3 := (N6.out.cell (p := ⟨b, o + q * 4 + 2, none⟩) hlb).trans j3
                  replace j4 := (N6.out.cell (p := ⟨b, o + q * 4 + 3, none⟩) hlb).trans j4
                  have HDS := hid hds
                  have hgxw : gx < wr.heap.size := (Array.getElem?_eq_some_iff.1 N5.out).1
                  have kx0 : ∀ ob, (wr.alloc ob).cell? ⟨gx, 0, none⟩ = some (.int .i64 dk) := fun ob => (cell_old _ _ _ _ hgxw).trans (blk_cell N5.out 0)
                  have kx1 : ∀ ob, (wr.alloc ob).cell? ⟨gx, 1, none⟩ = some (.int .i64 dn) := fun ob => (cell_old _ _ _ _ hgxw).trans (blk_cell N5.out 1)
                  have kx2 : ∀ ob, (wr.alloc ob).cell? ⟨gx, 2, none⟩ = some (.string dt) := fun ob => (cell_old _ _ _ _ hgxw).trans (blk_cell N5.out 2)
                  obtain ⟨k0, k1⟩ := (X4.out.on N6.out).c
                  have HFIN : Hid (BBlk (wr.alloc (.cells #[.int .i64 ek, .int .i64 en, .string et, .slice ae ne ce] 34)) gs l' ∧ (wr.alloc (.cells #[.int .i64 ek, .int .i64 en, .string et, .slice ae ne ce] 34)).heap[gx]? = some (.cells #[.int .i64 dk, .int .i64 dn, .string dt, .slice ak nk ck] 34 (0, 0)) ∧ Below we.heap.size we (wr.alloc (.cells #[.int .i64 ek, .int .i64 en, .string et, .slice ae ne ce] 34))) :=
                    ⟨N1.out.on ((Ba wr _).block gs N1.out.lt), ((Ba wr _).block gx hgxw).trans N5.out, Bt N6.out (Ba wr _)⟩
                  clear hds he hgxw
                  go_wp2_with fail
                  refine (ratom_any dk _).mono ?_
                  rintro e w7 ⟨rfl, hw7⟩
                  subst hw7
                  cases ha : atomB dk
                  · go_wp2
                    exact ⟨⟨q + 1, by omega, by go_num, HFIN.out⟩, by simp [intOf] <;> omega⟩
                  · by_cases h1 : dk = ek
                    · subst h1
                      by_cases h2 : dn = en
                      · subst h2
                        have h3 : ¬ dt = et := fun h3 => HDS.out ha ⟨rfl, rfl, h3.symm⟩
                        have e1 : (dt.toList == et.toList) = false := by rw [str_eq]; simp [h3]
                        clear HDS ha
                        go_wp2
                        exact ⟨⟨q + 1, by omega, by go_num, HFIN.out⟩, by simp [intOf] <;> omega⟩
                      · have e1 : (dn == en) = false := by simp [h2]
                        clear HDS ha
                        go_wp2
                        exact ⟨⟨q + 1, by omega, by go_num, HFIN.out⟩, by simp [intOf] <;> omega⟩
                    · have e1 : (dk == ek) = false := by simp [h1]
                      clear HDS ha
                      go_wp2
                      exact ⟨⟨q + 1, by omega, by go_num, HFIN.out⟩, by simp [intOf] <;> omega⟩
                · obtain rfl : q = i := by omega
                  go_wp2
                  refine ⟨⟨q + 1, by omega, by go_num, l', N1.out, hm2, fun z hz => N3.out _ (L3.out z hz), fun j hj z hz => ?_, N6.out⟩, by simp [intOf] <;> omega⟩
                  by_cases hjq : j < q
                  · exact N3.out _ (L5.out j hjq z hz)
                  · obtain rfl : j = q := by omega
                    rw [← HD.out] at hz
                    exact N7.out z hz
        · obtain rfl : i = nn' := by omega
          go_wp2_with (go_at_call 13; refine (wakes_any _ (TE.out.below L4.out)).mono ?_; rintro e w9 ⟨rfl, b9⟩)
          go_ret
          exact ⟨rfl, Bt (Bt HBE.out L4.out) b9⟩
end Go.Proofs.YtgoaaeiefpdkpaaDoor
