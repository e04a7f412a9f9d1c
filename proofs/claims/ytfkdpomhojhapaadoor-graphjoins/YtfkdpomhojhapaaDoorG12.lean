/-
  Walks: the document's Good.
-/
import Derived.Test.YtfkdpomhojhapaaDoorG11
set_option linter.unusedVariables false
set_option linter.unusedSimpArgs false
namespace Go.Proofs.YtfkdpomhojhapaaDoor
open Go.RowKit

set_option maxHeartbeats 4000000 in
theorem rgood_g (an ar : Option Addr) (nn cn nr cr : Nat) (ns : List Nd) (rs : List Int) (w : World) (G : GIs w an nn cn ar nr cr ns rs) (hs : smallG ns) (hn : nn ≤ 1000) :
    Calls Tryd.prog 21 #[GVal an nn cn ar nr cr] w fun e w' => e = .returned (.bool (goodG ns rs)) ∧ Below w.heap.size w w' := by
  have HG := hid G
  have HS := hid hs
  have hn1 := G.nodes.fits
  have hn2 := G.nodes.most
  have hr1 := G.roots.fits
  have hr2 := G.roots.most
  unfold maxLen at hn2 hr2
  unfold GVal
  have b1 := Ba w (.cells #[.slice an nn cn, .slice ar nr cr] 25)
  have x1 := GBox.new 25 w an ar nn cn nr cr
  clear G hs
  go_enter Tryd.func21, Tryd.ntmps21
  go_wp2_with fail
  obtain ⟨g, hg⟩ : ∃ g, g = w.heap.size := ⟨_, rfl⟩
  rw [← hg] at x1
  rw [← hg]
  generalize w.alloc (.cells #[.slice an nn cn, .slice ar nr cr] 25) = W1 at *
  have HGB := hid x1
  have HB1 := hid b1
  have HG1 := hid (HG.out.below b1)
  clear b1 x1 hg HG
  go_loopw [3] (fun i wr => ∃ m : Nat, m ≤ nn ∧ i = .int .i64 m ∧ Hid ((ns.take m).all (nodeB nn) = true ∧ Below W1.heap.size W1 wr)) (fun i _ => nn - (intOf i).toNat)
  case atStart => exact ⟨0, Nat.zero_le _, rfl, rfl, Below.refl _ _⟩
  case round =>
    obtain ⟨m, hmn, rfl, hI⟩ := hrel
    have hbw := hI.out.2
    obtain ⟨q0, q1⟩ := (HGB.out.on hbw).c
    by_cases hlt : m < nn
    · have hlen : m < ns.length := by rw [HG1.out.nodes.len]; exact hlt
      obtain ⟨b, o, rfl, hl, hc⟩ := (HG1.out.nodes.below hbw).some (by omega)
      obtain ⟨k1, k2, k3, ak, nk, ck, k4, k5⟩ := hc m hlt
      have hok := HG1.out.nodes.get hlt
      have hsm := HS.out.get hlen
      have hst : Hid ((ns.take (m + 1)).all (nodeB nn) = nodeB nn (ns.getD m default)) := by
        unfold Hid
        rw [all_take_succ (nodeB nn) hlen, hI.out.1, Bool.true_and]
      clear hc
      generalize ns.getD m default = d at *
      obtain ⟨dk, dn, dt, dl⟩ := d
      simp only [] at k1 k2 k3 k5 hok hsm
      obtain ⟨⟨o1, o2⟩, ⟨o3, o4⟩, o5⟩ := hok
      have hfk := k5.fits
      have hmk := k5.most
      have hlk := k5.len
      rw [nodeB_eq, hlk] at hst
      have ba := Ba wr (.cells #[.int .i64 dk, .int .i64 dn, .string dt, .slice ak nk ck] 32)
      have hbk := blk_new wr #[.int .i64 dk, .int .i64 dn, .string dt, .slice ak nk ck] 32
      have HA := hid ba
      have HBK := hid hbk
      have HK := hid (k5.below ba)
      have HBW := hid hbw
      have HGW := hid (HGB.out.on hbw)
      have bad : Hid ((decide (1 ≤ dk) && decide (dk ≤ 17) && numB dk dn && textB dk dt && countB dk nk && placesB dl nn) = false → goodG ns rs = false) := by
        intro h
        have := all_false (nodeB nn) (l := ns) (k := m + 1) (by rw [hst.out]; exact h)
        unfold goodG
        rw [HG1.out.nodes.len, this]; rfl
      clear k5 hbw hI ba o5 hbk hlk
      unfold maxLen at hmk
      by_cases h1 : 1 ≤ dk
      · have e1 : decide (dk < 1) = false := by simp; omega
        by_cases h2 : dk ≤ 17
        · have e2 : decide (17 < dk) = false := by simp; omega
          go_wp2_with fail
          obtain ⟨gx, hgx⟩ : ∃ gx, gx = wr.heap.size := ⟨_, rfl⟩
          rw [← hgx] at HBK
          rw [← hgx]
          have HGA := hid (HGW.out.on HA.out)
          generalize wr.alloc (.cells #[.int .i64 dk, .int .i64 dn, .string dt, .slice ak nk ck] 32) = W2 at *
          have HB2 := hid (Bt HBW.out HA.out)
          clear hgx q0 q1 k1 k2 k3 k4 HA HGW HBW hl
          refine (rtext_any dk dn dt ak nk ck W2 (by omega)).mono ?_
          rintro e w3 ⟨rfl, b3⟩
          have HBK3 := hid ((b3.block gx (Array.getElem?_eq_some_iff.1 HBK.out).1).trans HBK.out)
          have HK3 := hid (HK.out.below b3)
          have HG3 := hid (HGA.out.on b3)
          have HB3 := hid (Bt HB2.out b3)
          clear b3 HBK HK HGA HB2
          cases htx : textB dk dt
          · have hb := hid (bad.out (by simp [htx]))
            go_wp2_with fail
            go_ret
            exact ⟨ret_b hb.out.symm, Bt HB1.out HB3.out⟩
          · have j0 : w3.cell? ⟨gx, 0, none⟩ = some (.int .i64 dk) := blk_cell HBK3.out 0
            have j1 : w3.cell? ⟨gx, 1, none⟩ = some (.int .i64 dn) := blk_cell HBK3.out 1
            have j2 : w3.cell? ⟨gx, 2, none⟩ = some (.string dt) := blk_cell HBK3.out 2
            have j3 : w3.cell? ⟨gx, 3, none⟩ = some (.slice ak nk ck) := blk_cell HBK3.out 3
            go_wp2_with fail
            clear j0 j1 j2 j3
            refine (rnum_any dk dn dt ak nk ck w3).mono ?_
            rintro e w4 ⟨rfl, b4⟩
            have HBK4 := hid ((b4.block gx (Array.getElem?_eq_some_iff.1 HBK3.out).1).trans HBK3.out)
            have HK4 := hid (HK3.out.below b4)
            have HG4 := hid (HG3.out.on b4)
            have HB4 := hid (Bt HB3.out b4)
            clear b4 HBK3 HK3 HG3 HB3
            cases hnm : numB dk dn
            · have hb := hid (bad.out (by simp [hnm]))
              go_wp2_with fail
              go_ret
              exact ⟨ret_b hb.out.symm, Bt HB1.out HB4.out⟩
            · have j0 : w4.cell? ⟨gx, 0, none⟩ = some (.int .i64 dk) := blk_cell HBK4.out 0
              have j1 : w4.cell? ⟨gx, 1, none⟩ = some (.int .i64 dn) := blk_cell HBK4.out 1
              have j2 : w4.cell? ⟨gx, 2, none⟩ = some (.string dt) := blk_cell HBK4.out 2
              have j3 : w4.cell? ⟨gx, 3, none⟩ = some (.slice ak nk ck) := blk_cell HBK4.out 3
              go_wp2_with fail
              clear j0 j1 j2 j3
              refine (rkids_any dk dn dt ak nk ck hfk (by unfold maxLen; omega) w4).mono ?_
              rintro e w5 ⟨rfl, b5⟩
              have HBK5 := hid ((b5.block gx (Array.getElem?_eq_some_iff.1 HBK4.out).1).trans HBK4.out)
              have HK5 := hid (HK4.out.below b5)
              have HG5 := hid (HG4.out.on b5)
              have HB5 := hid (Bt HB4.out b5)
              clear b5 HBK4 HK4 HG4 HB4
              cases hct : countB dk nk
              · have hb := hid (bad.out (by simp [hct]))
                go_wp2_with fail
                go_ret
                exact ⟨ret_b hb.out.symm, Bt HB1.out HB5.out⟩
              · have j3 : w5.cell? ⟨gx, 3, none⟩ = some (.slice ak nk ck) := blk_cell HBK5.out 3
                obtain ⟨z0, z1⟩ := HG5.out.c
                go_wp2_with fail
                go_loopw [5] (fun i wx => ∃ q : Nat, q ≤ nk ∧ i = .int .i64 q ∧ Hid ((dl.take q).all (placeB nn) = true ∧ ∃ z, wx = w5.drewN z)) (fun i _ => nk - (intOf i).toNat)
                case atStart => exact ⟨0, Nat.zero_le _, rfl, rfl, 0, rfl⟩
                case round =>
                  obtain ⟨q, hqk, rfl, hJ⟩ := hrel
                  obtain ⟨z, hwx⟩ := hJ.out.2
                  by_cases hq : q < nk
                  · obtain ⟨b', o', rfl, hl', hc'⟩ := HK5.out.some (by omega)
                    have hc1 := hc' q hq
                    have hbd := HK5.out.get hq
                    obtain ⟨p, hp⟩ : ∃ p, p = dl.getD q 0 := ⟨_, rfl⟩
                    rw [← hp] at hc1 hbd
                    obtain ⟨hb1, hb2⟩ := hbd
                    have hst2 : Hid ((dl.take (q + 1)).all (placeB nn) = placeB nn p) := by
                      unfold Hid
                      rw [all_take_succ (placeB nn) (by rw [HK5.out.len]; exact hq), hJ.out.1, Bool.true_and, hp]; rfl
                    have hpb : Hid (placeB nn p = false → goodG ns rs = false) := fun h => bad.out (by
                      have h3 : placesB dl nn = false := all_false (placeB nn) (l := dl) (k := q + 1) (by rw [hst2.out]; exact h)
                      simp [h3])
                    rw [show w5.cell? = wr.cell? by rw [hwx]; rfl] at hc1 j3 z0 z1
                    have HWX := hid hwx
                    clear hc' hp hJ hwx
                    by_cases h3 : 0 ≤ p
                    · have e3 : decide (p < 0) = false := by simp; omega
                      by_cases h4 : p < nn
                      · have e4 : decide ((nn : Int) ≤ p) = false := by simp; omega
                        have hpt : Hid (placeB nn p = true) := by unfold Hid placeB; simp [h3, h4]
                        go_wp2_with fail
                        go_quiet (fail)
                        go_wp2_with fail
                        exact ⟨⟨q + 1, by omega, by go_num, by rw [hst2.out]; exact hpt.out, z + nq, by rw [HWX.out, World.drewN_drewN]⟩, by simp [intOf] <;> omega⟩
                      · have e4 : decide ((nn : Int) ≤ p) = true := by simp; omega
                        have hb := hid (hpb.out (by unfold placeB; simp [h4]))
                        go_wp2_with fail
                        go_quiet (fail)
                        go_wp2_with fail
                        go_ret
                        exact ⟨ret_b hb.out.symm, by rw [HWX.out, World.drewN_drewN]; exact Bt (Bt HB1.out HB5.out) (Bd _ _)⟩
                    · have e3 : decide (p < 0) = true := by simp; omega
                      have hb := hid (hpb.out (by unfold placeB; simp [h3]))
                      go_wp2_with fail
                      go_quiet (fail)
                      go_wp2_with fail
                      go_ret
                      exact ⟨ret_b hb.out.symm, by rw [HWX.out, World.drewN_drewN]; exact Bt (Bt HB1.out HB5.out) (Bd _ _)⟩
                  · obtain rfl : q = nk := by omega
                    have hpl : Hid (placesB dl nn = true) := by
                      have := hJ.out.1
                      rw [List.take_of_length_le (by rw [HK5.out.len]; omega)] at this
                      exact this
                    rw [show w5.cell? = wr.cell? by rw [hwx]; rfl] at j3 z0 z1
                    have HWX := hid hwx
                    have hok2 : Hid ((ns.take (m + 1)).all (nodeB nn) = true) := by
                      unfold Hid; rw [hst.out, htx, hnm, hct, hpl.out]; simp [h1, h2]
                    clear hJ hwx
                    go_wp2_with fail
                    exact ⟨⟨m + 1, by omega, by go_num, hok2.out, by rw [HWX.out]; exact Bt HB5.out (Bd _ _)⟩, by simp [intOf] <;> omega⟩
        · have e2 : decide (17 < dk) = true := by simp; omega
          have hb := hid (bad.out (by simp [h2]))
          go_wp2_with fail
          go_ret
          exact ⟨ret_b hb.out.symm, Bt HB1.out (Bt HBW.out HA.out)⟩
      · have e1 : decide (dk < 1) = true := by simp; omega
        have hb := hid (bad.out (by simp [h1]))
        go_wp2_with fail
        go_ret
        exact ⟨ret_b hb.out.symm, Bt HB1.out (Bt HBW.out HA.out)⟩
    · obtain rfl : m = nn := by omega
      have HR := hid (HG1.out.roots.below hbw)
      have HBW := hid hbw
      have hal := hid hI.out.1
      have HGW := hid (HGB.out.on hbw)
      clear hbw hI
      go_wp2_with fail
      obtain ⟨W5, hW5⟩ : ∃ W5, W5 = wr := ⟨_, rfl⟩
      rw [← hW5] at q0 q1 HR HBW HGW ⊢
      clear hW5
      go_loopw [6] (fun i wx => ∃ q : Nat, q ≤ nr ∧ i = .int .i64 q ∧ Hid ((rs.take q).all (placeB m) = true ∧ ∃ z, wx = W5.drewN z)) (fun i _ => nr - (intOf i).toNat)
      case atStart => exact ⟨0, Nat.zero_le _, rfl, rfl, 0, rfl⟩
      case round =>
        obtain ⟨q, hqk, rfl, hJ⟩ := hrel
        obtain ⟨z, hwx⟩ := hJ.out.2
        have hgd : Hid (goodG ns rs = placesB rs m) := by
          unfold Hid goodG
          have h := hal.out
          rw [List.take_of_length_le (by rw [HG1.out.nodes.len]; omega)] at h
          rw [HG1.out.nodes.len, h]; rfl
        by_cases hq : q < nr
        · obtain ⟨b', o', rfl, hl', hc'⟩ := HR.out.some (by omega)
          have hc1 := hc' q hq
          have hbd := HR.out.get hq
          obtain ⟨p, hp⟩ : ∃ p, p = rs.getD q 0 := ⟨_, rfl⟩
          rw [← hp] at hc1 hbd
          obtain ⟨hb1, hb2⟩ := hbd
          have hst2 : Hid ((rs.take (q + 1)).all (placeB m) = placeB m p) := by
            unfold Hid
            rw [all_take_succ (placeB m) (by rw [HR.out.len]; exact hq), hJ.out.1, Bool.true_and, hp]; rfl
          have hpb : Hid (placeB m p = false → goodG ns rs = false) := fun h => by
            rw [hgd.out]
            exact all_false (placeB m) (l := rs) (k := q + 1) (by rw [hst2.out]; exact h)
          rw [show W5.cell? = wr.cell? by rw [hwx]; rfl] at hc1 q0 q1
          have HWX := hid hwx
          clear hc' hp hJ hwx
          by_cases h3 : 0 ≤ p
          · have e3 : decide (p < 0) = false := by simp; omega
            by_cases h4 : p < m
            · have e4 : decide ((m : Int) ≤ p) = false := by simp; omega
              have hpt : Hid (placeB m p = true) := by unfold Hid placeB; simp [h3, h4]
              go_wp2_with fail
              go_quiet (fail)
              go_wp2_with fail
              exact ⟨⟨q + 1, by omega, by go_num, by rw [hst2.out]; exact hpt.out, z + nq, by rw [HWX.out, World.drewN_drewN]⟩, by simp [intOf] <;> omega⟩
            · have e4 : decide ((m : Int) ≤ p) = true := by simp; omega
              have hb := hid (hpb.out (by unfold placeB; simp [h4]))
              go_wp2_with fail
              go_quiet (fail)
              go_wp2_with fail
              go_ret
              exact ⟨ret_b hb.out.symm, by rw [HWX.out, World.drewN_drewN]; exact Bt (Bt HB1.out HBW.out) (Bd _ _)⟩
          · have e3 : decide (p < 0) = true := by simp; omega
            have hb := hid (hpb.out (by unfold placeB; simp [h3]))
            go_wp2_with fail
            go_quiet (fail)
            go_wp2_with fail
            go_ret
            exact ⟨ret_b hb.out.symm, by rw [HWX.out, World.drewN_drewN]; exact Bt (Bt HB1.out HBW.out) (Bd _ _)⟩
        · obtain rfl : q = nr := by omega
          have hpl : Hid (placesB rs m = true) := by
            have := hJ.out.1
            rw [List.take_of_length_le (by rw [HR.out.len]; omega)] at this
            exact this
          rw [show W5.cell? = wr.cell? by rw [hwx]; rfl] at q0 q1
          have HWX := hid hwx
          clear hJ hwx
          go_wp2_with fail
          go_ret
          exact ⟨ret_b (by rw [hgd.out, hpl.out]), by rw [HWX.out]; exact Bt (Bt HB1.out HBW.out) (Bd _ _)⟩

end Go.Proofs.YtfkdpomhojhapaaDoor
