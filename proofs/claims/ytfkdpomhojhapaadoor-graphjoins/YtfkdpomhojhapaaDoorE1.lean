/-
  Walk: raw (are places small enough to be moved?).
-/
import Derived.Test.YtfkdpomhojhapaaDoorT1
set_option linter.unusedVariables false
set_option linter.unusedSimpArgs false
set_option maxRecDepth 100000
namespace Go.Proofs.YtfkdpomhojhapaaDoor
open Go.RowKit

def smallZ (z : Int) : Prop := -1099511627776 ≤ z ∧ z ≤ 1099511627776

theorem getD_take_mem {P : Int → Prop} {l : List Int} {m : Nat} (h : ∀ z ∈ l.take m, P z) (hm : m < l.length) (hz : P (l.getD m 0)) : ∀ z ∈ l.take (m + 1), P z := by
  intro z hmem
  rw [take_succ_of 0 hm] at hmem
  rcases List.mem_append.1 hmem with h1 | h1
  · exact h z h1
  · rw [List.mem_singleton.1 h1]; exact hz
theorem getD_take_memN {P : Nd → Prop} {l : List Nd} {m : Nat} (h : ∀ z ∈ l.take m, P z) (hm : m < l.length) (hz : P (l.getD m default)) : ∀ z ∈ l.take (m + 1), P z := by
  intro z hmem
  rw [take_succ_of default hm] at hmem
  rcases List.mem_append.1 hmem with h1 | h1
  · exact h z h1
  · rw [List.mem_singleton.1 h1]; exact hz

theorem getD_in {α : Type} {l : List α} {m : Nat} (x : α) (hm : m < l.length) : l.getD m x ∈ l := by
  have : l.getD m x = l[m] := by simp [List.getD_eq_getElem?_getD, List.getElem?_eq_getElem hm]
  rw [this]; exact List.getElem_mem _

open Classical in
/-- Are all places of a graph small? -/
noncomputable def rawB (ns : List Nd) (rs : List Int) : Bool := decide ((∀ z ∈ rs, smallZ z) ∧ ∀ d ∈ ns, ∀ z ∈ d.kids, smallZ z)
open Classical in
theorem rawB_yes {ns : List Nd} {rs : List Int} (h1 : ∀ z ∈ rs, smallZ z) (h2 : ∀ d ∈ ns, ∀ z ∈ d.kids, smallZ z) : rawB ns rs = true := by
  unfold rawB; exact decide_eq_true ⟨h1, h2⟩
open Classical in
theorem rawB_root {ns : List Nd} {rs : List Int} {m : Nat} (hm : m < rs.length) (h : ¬ smallZ (rs.getD m 0)) : rawB ns rs = false := by
  unfold rawB
  exact decide_eq_false fun e => h (e.1 _ (getD_in _ hm))
open Classical in
theorem rawB_kid {ns : List Nd} {rs : List Int} {m k : Nat} (hm : m < ns.length) (hk : k < (ns.getD m default).kids.length) (h : ¬ smallZ ((ns.getD m default).kids.getD k 0)) : rawB ns rs = false := by
  unfold rawB
  exact decide_eq_false fun e => h (e.2 (ns.getD m default) (getD_in _ hm) _ (getD_in _ hk))

set_option maxHeartbeats 4000000 in
theorem raw_any (an ar : Option Addr) (nn cn nr cr : Nat) (ns : List Nd) (rs : List Int) (w : World) (G : GIs w an nn cn ar nr cr ns rs) :
    Calls Tryd.prog 5 #[GVal an nn cn ar nr cr] w fun e w' => e = .returned (.bool (rawB ns rs)) ∧ Below w.heap.size w w' := by
  have HG := hid G
  have hn1 := G.nodes.fits
  have hn2 := G.nodes.most
  have hr1 := G.roots.fits
  have hr2 := G.roots.most
  unfold maxLen at hn2 hr2
  unfold GVal
  clear G
  go_enter Tryd.func5, Tryd.ntmps5
  go_wp2
  have b1 := Ba w (.cells #[.slice an nn cn, .slice ar nr cr] 25)
  have x1 := GBox.new 25 w an ar nn cn nr cr
  obtain ⟨g, hg⟩ : ∃ g, g = w.heap.size := ⟨_, rfl⟩
  rw [← hg] at x1
  rw [← hg]
  have G1 := hid (HG.out.below b1)
  generalize w.alloc (.cells #[.slice an nn cn, .slice ar nr cr] 25) = W1 at *
  have HB := hid b1
  have X1 := hid x1
  obtain ⟨c0, c1⟩ := x1.c
  clear b1 x1 hg
  go_loopw [3] (fun i wr => ∃ m : Nat, m ≤ nr ∧ i = .int .i64 m ∧ Hid (∀ z ∈ rs.take m, smallZ z) ∧ Hid (Below W1.heap.size W1 wr)) (fun i _ => nr - (intOf i).toNat)
  case atStart => exact ⟨0, Nat.zero_le _, rfl, by unfold Hid; simp, Below.refl _ _⟩
  case round =>
    obtain ⟨m, hm, rfl, hF, hw⟩ := hrel
    obtain ⟨c0, c1⟩ := (X1.out.on hw.out).c
    have HBW := hid (Bt HB.out hw.out)
    have GR := hid (G1.out.below hw.out)
    have HF := hid hF.out
    have HW := hid hw.out
    by_cases hlt : m < nr
    · obtain ⟨b, o, rfl, hl, hc⟩ := GR.out.roots.some (by omega)
      have k1 := hc m hlt
      obtain ⟨z, hz⟩ : ∃ z, z = rs.getD m 0 := ⟨_, rfl⟩
      have hlen : m < rs.length := by rw [GR.out.roots.len]; exact hlt
      rw [← hz] at k1
      have HZ := hid hz
      have HL := hid hlen
      clear hc hz hlen hF hw
      by_cases h1 : z > 1099511627776
      · have hno : rawB ns rs = false := rawB_root HL.out (by rw [← HZ.out]; intro e; have := e.2; omega)
        go_wp2
        go_ret
        exact ⟨(by first | rfl | (rw [hno]; rfl)), HBW.out⟩
      · by_cases h2 : z < -1099511627776
        · have hno : rawB ns rs = false := rawB_root HL.out (by rw [← HZ.out]; intro e; have := e.1; omega)
          go_wp2
          go_ret
          exact ⟨(by first | rfl | (rw [hno]; rfl)), HBW.out⟩
        · go_wp2
          refine ⟨⟨m + 1, by omega, by go_num, ?_, HW.out⟩, by simp [intOf] <;> omega⟩
          exact getD_take_mem HF.out HL.out (by rw [← HZ.out]; exact ⟨by omega, by omega⟩)
    · obtain rfl : m = nr := by omega
      have HRA : Hid (∀ z ∈ rs, smallZ z) := by
        unfold Hid
        have h := HF.out
        rwa [List.take_of_length_le (by rw [GR.out.roots.len]; omega)] at h
      clear hF hw
      go_wp2
      go_loopw [4, 5, 6] (fun i k n wr' => ∃ m : Nat, m ≤ nn ∧ i = .int .i64 m ∧ Hid (∀ d ∈ ns.take m, ∀ z ∈ d.kids, smallZ z) ∧ Hid (Below wr.heap.size wr wr')) (fun i _ _ _ => nn - (intOf i).toNat)
      case atStart => exact ⟨0, Nat.zero_le _, rfl, by unfold Hid; simp, Below.refl _ _⟩
      case round =>
        obtain ⟨q, hq, rfl, hF, hw⟩ := hrel
        obtain ⟨c0, c1⟩ := ((X1.out.on HW.out).on hw.out).c
        have HBQ := hid (Bt HBW.out hw.out)
        have GQ := hid (GR.out.below hw.out)
        have HFq := hid hF.out
        have HWq := hid hw.out
        have HXq := hid ((X1.out.on HW.out).on hw.out)
        by_cases hlt : q < nn
        · obtain ⟨b, o, rfl, hl, hc⟩ := GQ.out.nodes.some (by omega)
          obtain ⟨k1, k2, k3, ak, nk, ck, k4, k5⟩ := hc q hlt
          have hnl : q < ns.length := by rw [GQ.out.nodes.len]; exact hlt
          obtain ⟨d, hd⟩ : ∃ d, d = ns.getD q default := ⟨_, rfl⟩
          rw [← hd] at k5
          have hkf := k5.fits
          have hkm := k5.most
          unfold maxLen at hkm
          have HD := hid hd
          have HNL := hid hnl
          have HK5 := hid k5
          have HLB := hid hl
          clear k1 k2 k3 hc k5 hd hnl hF hw
          go_wp2
          go_loopw [5, 6] (fun k n wk => ∃ m : Nat, m ≤ nk ∧ k = .int .i64 m ∧ Hid (∀ z ∈ d.kids.take m, smallZ z) ∧ Hid (Below wr.heap.size wr wk)) (fun k _ _ => nk - (intOf k).toNat)
          case atStart => exact ⟨0, Nat.zero_le _, rfl, by unfold Hid; simp, Below.refl _ _⟩
          case round =>
            obtain ⟨r, hr, rfl, hF, hw⟩ := hrel
            obtain ⟨c0, c1⟩ := (HXq.out.on hw.out).c
            have HBR := hid (Bt HBQ.out hw.out)
            have HFr := hid hF.out
            have HWr := hid hw.out
            have k4 := (hw.out.cell (p := ⟨b, o + q * 4 + 3, none⟩) hl).trans k4
            have HKR := hid (HK5.out.below hw.out)
            by_cases hlt : r < nk
            · obtain ⟨b', o', rfl, hl', hc'⟩ := HKR.out.some (by omega)
              have j1 := hc' r hlt
              obtain ⟨z, hz⟩ : ∃ z, z = d.kids.getD r 0 := ⟨_, rfl⟩
              have hlen : r < d.kids.length := by rw [HKR.out.len]; exact hlt
              rw [← hz] at j1
              have HZ := hid hz
              have HL := hid hlen
              clear hc' hz hlen hF hw
              by_cases h1 : z > 1099511627776
              · have hno : rawB ns rs = false := rawB_kid HNL.out (k := r) (by rw [← HD.out]; exact HL.out) (by rw [← HD.out, ← HZ.out]; intro e; have := e.2; omega)
                go_wp2
                go_ret
                exact ⟨(by first | rfl | (rw [hno]; rfl)), HBR.out⟩
              · by_cases h2 : z < -1099511627776
                · have hno : rawB ns rs = false := rawB_kid HNL.out (k := r) (by rw [← HD.out]; exact HL.out) (by rw [← HD.out, ← HZ.out]; intro e; have := e.1; omega)
                  go_wp2
                  go_ret
                  exact ⟨(by first | rfl | (rw [hno]; rfl)), HBR.out⟩
                · go_wp2
                  refine ⟨⟨r + 1, by omega, by go_num, ?_, HWr.out⟩, by simp [intOf] <;> omega⟩
                  exact getD_take_mem HFr.out HL.out (by rw [← HZ.out]; exact ⟨by omega, by omega⟩)
            · obtain rfl : r = nk := by omega
              have HKA : Hid (∀ z ∈ d.kids, smallZ z) := by
                unfold Hid
                have h := HFr.out
                rwa [List.take_of_length_le (by rw [HKR.out.len]; omega)] at h
              have HWE := hid (Bt HWq.out HWr.out)
              clear hF hw
              go_wp2
              refine ⟨⟨q + 1, by omega, by go_num, ?_, HWE.out⟩, by simp [intOf] <;> omega⟩
              exact getD_take_memN (P := fun d => ∀ z ∈ d.kids, smallZ z) HFq.out HNL.out (by rw [← HD.out]; exact HKA.out)
        · obtain rfl : q = nn := by omega
          have HNA : Hid (∀ d ∈ ns, ∀ z ∈ d.kids, smallZ z) := by
            unfold Hid
            have h := HFq.out
            rwa [List.take_of_length_le (by rw [GQ.out.nodes.len]; omega)] at h
          clear hF hw
          go_wp2
          go_ret
          exact ⟨(by rw [rawB_yes HRA.out HNA.out]; rfl), HBQ.out⟩

end Go.Proofs.YtfkdpomhojhapaaDoor
