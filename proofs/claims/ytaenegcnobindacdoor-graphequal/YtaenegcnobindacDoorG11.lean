/-
  Walks: Good, and the document's Good.
-/
import Derived.Test.YtaenegcnobindacDoorG10
set_option linter.unusedVariables false
set_option linter.unusedSimpArgs false
namespace Go.Proofs.YtaenegcnobindacDoor
open Go.RowKit

/-- Texts of a graph are small. -/
def smallG (ns : List Nd) : Prop := ∀ d ∈ ns, d.text.size ≤ 2000
theorem smallG.get {ns : List Nd} (h : smallG ns) {i : Nat} (hi : i < ns.length) : (ns.getD i default).text.size ≤ 2000 := by
  rw [List.getD_eq_getElem?_getD, List.getElem?_eq_getElem hi]; exact h _ (List.getElem_mem hi)

set_option maxHeartbeats 2000000 in
theorem good_g (an ar : Option Addr) (nn cn nr cr : Nat) (ns : List Nd) (rs : List Int) (w : World) (G : GIs w an nn cn ar nr cr ns rs) (hs : smallG ns) (hn : nn ≤ 1000) (hT : Tabs w) :
    Calls Tryd.prog 21 #[GVal an nn cn ar nr cr] w fun e w' => e = .returned (.bool (goodG ns rs)) ∧ Below w.heap.size w w' := by
  have HG := hid G
  have HS := hid hs
  have HT := hid hT
  have hn1 := G.nodes.fits
  have hn2 := G.nodes.most
  have hr1 := G.roots.fits
  have hr2 := G.roots.most
  unfold maxLen at hn2 hr2
  unfold GVal
  have b1 := Ba w (.cells #[.slice an nn cn, .slice ar nr cr] 25)
  have x1 := GBox.new 25 w an ar nn cn nr cr
  clear G hs hT
  go_enter Tryd.func21, Tryd.ntmps21
  go_wp2_with fail
  obtain ⟨g, hg⟩ : ∃ g, g = w.heap.size := ⟨_, rfl⟩
  rw [← hg] at x1
  rw [← hg]
  generalize w.alloc (.cells #[.slice an nn cn, .slice ar nr cr] 25) = W1 at *
  have HGB := hid x1
  have HB1 := hid b1
  have HG1 := hid (HG.out.below b1)
  have HT1 := hid (HT.out.below b1)
  clear b1 x1 hg HG HT
  go_loopw [8] (fun i wr => ∃ m : Nat, m ≤ nn ∧ i = .int .i64 m ∧ Hid ((ns.take m).all (nodeB nn) = true ∧ Below W1.heap.size W1 wr)) (fun i _ => nn - (intOf i).toNat)
  case atStart => exact ⟨0, Nat.zero_le _, rfl, rfl, Below.refl _ _⟩
  case round =>
    obtain ⟨m, hmn, rfl, hI⟩ := hrel
    have hbw := hI.out.2
    obtain ⟨q0, q1⟩ := (HGB.out.on hbw).c
    by_cases hlt : m < nn
    · have hlen : m < ns.length := by rw [HG1.out.nodes.len]; exact hlt
      obtain ⟨b, o, rfl, hl, hc⟩ := (HG1.out.nodes.below hbw).some (by omega)
      obtain ⟨k1, k2, k3, ak, nk, ck, k4, k5⟩ := hc m hlt
      have hok := HG1.out.nodes.get hlt
      have hsm := HS.out.get hlen
      have hst : Hid ((ns.take (m + 1)).all (nodeB nn) = nodeB nn (ns.getD m default)) := by
        unfold Hid
        rw [all_take_succ (nodeB nn) hlen, hI.out.1, Bool.true_and]
      clear hc
      generalize ns.getD m default = d at *
      obtain ⟨dk, dn, dt, dl⟩ := d
      simp only [] at k1 k2 k3 k5 hok hsm
      obtain ⟨⟨o1, o2⟩, ⟨o3, o4⟩, o5⟩ := hok
      have ba := Ba wr (.cells #[.int .i64 dk, .int .i64 dn, .string dt, .slice ak nk ck] 34)
      have HA := hid ba
      have HK := hid (k5.below ba)
      have HT2 := hid ((HT1.out.below hbw).below ba)
      have r0 : ∀ ob, (wr.alloc ob).cell? ⟨g, 0, none⟩ = some (.slice (some ⟨b, o, none⟩) nn cn) := fun ob => (cell_old _ _ _ _ (HGB.out.on hbw).lt).trans q0
      have HBW := hid hbw
      clear k5 hbw hI ba o5
      go_wp2_with fail
      refine (goodNode_any dk dn dt ak nk ck dl nn (by omega) _ HK.out (by omega) HT2.out).mono ?_
      rintro e w2 ⟨rfl, b2⟩
      have HB2 := hid (Bt (Bt HBW.out HA.out) b2)
      clear b2 r0 q0 q1 k1 k2 k3 k4
      cases hnb : nodeB nn ⟨dk, dn, dt, dl⟩
      · go_wp2_with fail
        go_ret
        refine ⟨ret_b ?_, Bt HB1.out HB2.out⟩
        have := all_false (nodeB nn) (l := ns) (k := m + 1) (by rw [hst.out]; exact hnb)
        unfold goodG
        rw [HG1.out.nodes.len, this]; rfl
      · go_wp2_with fail
        exact ⟨⟨m + 1, by omega, by go_num, by rw [hst.out]; exact hnb, HB2.out⟩, by simp [intOf] <;> omega⟩
    · obtain rfl : m = nn := by omega
      have HR := hid (HG1.out.roots.below hbw)
      have HBW := hid hbw
      have hal := hid hI.out.1
      clear hbw hI
      go_wp2_with fail
      refine (arePlaces_any ar nr cr rs m (by omega) _ HR.out).mono ?_
      rintro e wz ⟨rfl, hwz⟩
      rw [hwz]
      clear hwz
      go_wp2_with fail
      go_ret
      refine ⟨ret_b ?_, Bt HB1.out HBW.out⟩
      unfold goodG
      have h := hal.out
      rw [List.take_of_length_le (by rw [HG1.out.nodes.len]; omega)] at h
      rw [HG1.out.nodes.len, h]; rfl

end Go.Proofs.YtaenegcnobindacDoor
