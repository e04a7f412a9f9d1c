/-
  The walk of GraphEqual.
-/
import Derived.Test.YtfkdpomhojhapaaDoorW40
import Derived.Test.YtfkdpomhojhapaaDoorG21
import Derived.Test.YtfkdpomhojhapaaDoorG12
import Derived.Test.YtfkdpomhojhapaaDoorH5
set_option linter.unusedVariables false
set_option linter.unusedSimpArgs false
namespace Go.Proofs.YtfkdpomhojhapaaDoor
open Go.RowKit

set_option maxHeartbeats 1000000 in
theorem few_any (an ar : Option Addr) (nn cn nr cr : Nat) (ns : List Nd) (rs : List Int) (most : Nat) (hmost : most ≤ 1000) (w : World) (G : GIs w an nn cn ar nr cr ns rs) :
    Calls Tryd.prog 4 #[GVal an nn cn ar nr cr, .int .i64 most] w fun e w' => e = .returned (.bool (fewB ns rs most)) ∧ Below w.heap.size w w' := by
  have HG := hid G
  have hn1 := G.nodes.fits
  have hn2 := G.nodes.most
  have hr1 := G.roots.fits
  have hr2 := G.roots.most
  unfold maxLen at hn2 hr2
  unfold GVal
  clear G
  go_enter Tryd.func4, Tryd.ntmps4
  by_cases h1 : nn ≤ most
  · by_cases h2 : nr ≤ most
    · go_wp2
      have b1 := Ba w (.cells #[.slice an nn cn, .slice ar nr cr] 25)
      have x1 := GBox.new 25 w an ar nn cn nr cr
      obtain ⟨g, hg⟩ : ∃ g, g = w.heap.size := ⟨_, rfl⟩
      rw [← hg] at x1
      rw [← hg]
      have G1 := hid (HG.out.below b1)
      generalize w.alloc (.cells #[.slice an nn cn, .slice ar nr cr] 25) = W1 at *
      have HB := hid b1
      obtain ⟨c0, c1⟩ := x1.c
      clear b1 x1 hg
      go_loopw [5] (fun i wr => ∃ m : Nat, m ≤ nn ∧ i = .int .i64 m ∧ Hid (fewTo ns m = true) ∧ Hid (wr = W1)) (fun i _ => nn - (intOf i).toNat)
      case atStart => exact ⟨0, Nat.zero_le _, rfl, by unfold Hid fewTo; simp, hid rfl⟩
      case round =>
        obtain ⟨m, hm, rfl, hF, hw⟩ := hrel
        have hw := hw.out
        subst hw
        by_cases hlt : m < nn
        · obtain ⟨b, o, rfl, hl, hc⟩ := G1.out.nodes.some (by omega)
          obtain ⟨k1, k2, k3, ak, nk, ck, k4, k5⟩ := hc m hlt
          have hnl : m < ns.length := by rw [G1.out.nodes.len]; exact hlt
          obtain ⟨d, hd⟩ : ∃ d, d = ns.getD m default := ⟨_, rfl⟩
          have hok := G1.out.nodes.get hlt
          rw [← hd] at k3 k5 hok
          have hts := hok.2.2
          have hkl := k5.len
          have hkf := k5.fits
          have hkm := k5.most
          unfold maxLen at hts hkm
          have hstep : Hid (fewTo ns (m + 1) = (decide (d.text.size ≤ 2000) && decide (nk ≤ 100))) := by
            unfold Hid; rw [fewTo_succ hnl, hF.out, ← hd, hkl]; simp
          clear k1 k2 hc k5 hok hd
          generalize d.text = t at *
          by_cases ht : t.size ≤ 2000
          · by_cases hk : nk ≤ 100
            · go_wp2
              exact ⟨⟨m + 1, by omega, by omega, by unfold Hid; rw [hstep.out]; simp [ht, hk]⟩, by simp [intOf] <;> omega⟩
            · go_wp2
              go_ret
              refine ⟨?_, HB.out⟩
              have h3 := fewTo_false (j := ns.length) (k := m) hnl (Nat.le_refl _) (by rw [hstep.out]; simp [hk])
              unfold fewB; rw [h3]; simp
          · go_wp2
            go_ret
            refine ⟨?_, HB.out⟩
            have h3 := fewTo_false (j := ns.length) (k := m) hnl (Nat.le_refl _) (by rw [hstep.out]; simp [ht])
            unfold fewB; rw [h3]; simp
        · obtain rfl : m = nn := by omega
          go_wp2
          go_ret
          refine ⟨?_, HB.out⟩
          unfold fewB
          rw [G1.out.nodes.len, G1.out.roots.len, hF.out]; simp [h1, h2]
    · go_wp2
      go_ret
      refine ⟨?_, Ba _ _⟩
      unfold fewB
      rw [HG.out.roots.len]; simp [h2]
  · go_wp2
    go_ret
    refine ⟨?_, Ba _ _⟩
    unfold fewB
    rw [HG.out.nodes.len]; simp [h1]

end Go.Proofs.YtfkdpomhojhapaaDoor

set_option linter.unusedVariables false
set_option linter.unusedSimpArgs false
namespace Go.Proofs.YtfkdpomhojhapaaDoor
open Go.RowKit

theorem few_parts {ns : List Nd} {rs : List Int} {most : Nat} (h : fewB ns rs most = true) : ns.length ≤ most ∧ rs.length ≤ most ∧ smallG ns ∧ ∀ d ∈ ns, d.kids.length ≤ 100 := by
  unfold fewB fewTo at h
  rw [List.take_length] at h
  simp only [Bool.and_eq_true, decide_eq_true_eq, List.all_eq_true] at h
  exact ⟨h.1.1, h.1.2, fun d hd => (h.2 d hd).1, fun d hd => (h.2 d hd).2⟩

theorem gone_on {W wx wy : World} {p : Nat} {a0 a1 : Value} (h : wx.cell? ⟨p, 0, none⟩ = some a0 ∧ wx.cell? ⟨p, 1, none⟩ = some a1 ∧ Below W.heap.size W wx) (hb : Below wx.heap.size wx wy) :
    wy.cell? ⟨p, 0, none⟩ = some a0 ∧ wy.cell? ⟨p, 1, none⟩ = some a1 ∧ Below W.heap.size W wy :=
  ⟨(hb.cell (p := ⟨p, 0, none⟩) (cell_lt h.1)).trans h.1, (hb.cell (p := ⟨p, 1, none⟩) (cell_lt h.1)).trans h.2.1, Bt h.2.2 hb⟩
theorem gone_bel {W wx : World} {p : Nat} {a0 a1 : Value} (h : wx.cell? ⟨p, 0, none⟩ = some a0 ∧ wx.cell? ⟨p, 1, none⟩ = some a1 ∧ Below W.heap.size W wx) : Below W.heap.size W wx := h.2.2

end Go.Proofs.YtfkdpomhojhapaaDoor

set_option linter.unusedVariables false
set_option linter.unusedSimpArgs false
set_option maxRecDepth 100000
namespace Go.Proofs.YtfkdpomhojhapaaDoor
open Go.RowKit

theorem sameGB_self (ns : List Nd) (rs : List Int) : sameGB ns rs ns rs = goodG ns rs := by unfold sameGB; simp
theorem sameGB_comm (ns : List Nd) (rs : List Int) (ns' : List Nd) (rs' : List Int) : sameGB ns rs ns' rs' = sameGB ns' rs' ns rs := by
  unfold sameGB; rw [Bool.eq_iff_iff]; simp only [Bool.and_eq_true, decide_eq_true_eq]
  constructor
  · rintro ⟨⟨⟨h1, h2⟩, h3⟩, h4⟩; exact ⟨⟨⟨h2, h1⟩, h3.symm⟩, h4.symm⟩
  · rintro ⟨⟨⟨h1, h2⟩, h3⟩, h4⟩; exact ⟨⟨⟨h2, h1⟩, h3.symm⟩, h4.symm⟩
theorem sameGB_trans {ns : List Nd} {rs : List Int} {ns' : List Nd} {rs' : List Int} {ns'' : List Nd} {rs'' : List Int} (h1 : sameGB ns rs ns' rs' = true) (h2 : sameGB ns' rs' ns'' rs'' = true) : sameGB ns rs ns'' rs'' = true := by
  unfold sameGB at *; simp only [Bool.and_eq_true, decide_eq_true_eq] at *
  exact ⟨⟨⟨h1.1.1.1, h2.1.1.2⟩, h1.1.2.trans h2.1.2⟩, h1.2.trans h2.2⟩
theorem gok_of {w : World} {an ar : Option Addr} {nn cn nr cr : Nat} {ns : List Nd} {rs : List Int} (h : GIs w an nn cn ar nr cr ns rs) (hf : fewB ns rs 100 = true) : GOk w an nn cn ar nr cr ns rs := by
  obtain ⟨f1, f2, f3, f4⟩ := few_parts hf
  rw [h.nodes.len] at f1
  rw [h.roots.len] at f2
  exact ⟨h, f3, f4, by omega, by omega⟩

/-- Three boxes, in a world behind w1. -/
def H3b (w1 : World) (p q r : Nat) (a0 a1 b0 b1 c0 c1 : Value) (wx : World) : Prop := (wx.cell? ⟨p, 0, none⟩ = some a0 ∧ wx.cell? ⟨p, 1, none⟩ = some a1 ∧ wx.cell? ⟨q, 0, none⟩ = some b0 ∧ wx.cell? ⟨q, 1, none⟩ = some b1 ∧ wx.cell? ⟨r, 0, none⟩ = some c0 ∧ wx.cell? ⟨r, 1, none⟩ = some c1) ∧ Below w1.heap.size w1 wx
theorem H3b.on {w1 wx wy : World} {p q r : Nat} {a0 a1 b0 b1 c0 c1 : Value} (h : H3b w1 p q r a0 a1 b0 b1 c0 c1 wx) (hb : Below wx.heap.size wx wy) : H3b w1 p q r a0 a1 b0 b1 c0 c1 wy := by
  obtain ⟨⟨h1, h2, h3, h4, h5, h6⟩, h7⟩ := h
  exact ⟨⟨(hb.cell (p := ⟨p, 0, none⟩) (cell_lt h1)).trans h1, (hb.cell (p := ⟨p, 1, none⟩) (cell_lt h1)).trans h2, (hb.cell (p := ⟨q, 0, none⟩) (cell_lt h3)).trans h3, (hb.cell (p := ⟨q, 1, none⟩) (cell_lt h3)).trans h4, (hb.cell (p := ⟨r, 0, none⟩) (cell_lt h5)).trans h5, (hb.cell (p := ⟨r, 1, none⟩) (cell_lt h5)).trans h6⟩, Bt h7 hb⟩

theorem H3b.bel {w1 wx : World} {p q r : Nat} {a0 a1 b0 b1 c0 c1 : Value} (h : H3b w1 p q r a0 a1 b0 b1 c0 c1 wx) : Below w1.heap.size w1 wx := h.2
theorem h6_on {w1 wx wy : World} {p q r : Nat} {a0 a1 b0 b1 c0 c1 : Value} (h : wx.cell? ⟨p, 0, none⟩ = some a0 ∧ wx.cell? ⟨p, 1, none⟩ = some a1 ∧ wx.cell? ⟨q, 0, none⟩ = some b0 ∧ wx.cell? ⟨q, 1, none⟩ = some b1 ∧ wx.cell? ⟨r, 0, none⟩ = some c0 ∧ wx.cell? ⟨r, 1, none⟩ = some c1 ∧ Below w1.heap.size w1 wx) (hb : Below wx.heap.size wx wy) : wy.cell? ⟨p, 0, none⟩ = some a0 ∧ wy.cell? ⟨p, 1, none⟩ = some a1 ∧ wy.cell? ⟨q, 0, none⟩ = some b0 ∧ wy.cell? ⟨q, 1, none⟩ = some b1 ∧ wy.cell? ⟨r, 0, none⟩ = some c0 ∧ wy.cell? ⟨r, 1, none⟩ = some c1 ∧ Below w1.heap.size w1 wy := by
  obtain ⟨h1, h2, h3, h4, h5, h6, h7⟩ := h
  exact ⟨(hb.cell (p := ⟨p, 0, none⟩) (cell_lt h1)).trans h1, (hb.cell (p := ⟨p, 1, none⟩) (cell_lt h1)).trans h2, (hb.cell (p := ⟨q, 0, none⟩) (cell_lt h3)).trans h3, (hb.cell (p := ⟨q, 1, none⟩) (cell_lt h3)).trans h4, (hb.cell (p := ⟨r, 0, none⟩) (cell_lt h5)).trans h5, (hb.cell (p := ⟨r, 1, none⟩) (cell_lt h5)).trans h6, Bt h7 hb⟩
theorem h6_bel {w1 wx : World} {p q r : Nat} {a0 a1 b0 b1 c0 c1 : Value} (h : wx.cell? ⟨p, 0, none⟩ = some a0 ∧ wx.cell? ⟨p, 1, none⟩ = some a1 ∧ wx.cell? ⟨q, 0, none⟩ = some b0 ∧ wx.cell? ⟨q, 1, none⟩ = some b1 ∧ wx.cell? ⟨r, 0, none⟩ = some c0 ∧ wx.cell? ⟨r, 1, none⟩ = some c1 ∧ Below w1.heap.size w1 wx) : Below w1.heap.size w1 wx := h.2.2.2.2.2.2

end Go.Proofs.YtfkdpomhojhapaaDoor
