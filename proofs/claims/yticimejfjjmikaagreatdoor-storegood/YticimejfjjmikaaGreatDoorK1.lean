import Derived.Test.YticimejfjjmikaaGreatDoorG21
set_option linter.unusedVariables false
set_option linter.unusedSimpArgs false
set_option maxRecDepth 100000
namespace Go.Proofs.YticimejfjjmikaaGreatDoor
open Go.RowKit
set_option maxHeartbeats 1000000 in
theorem rints_any (ao : Option Addr) (n cap : Nat) (l : List Int) (ao' : Option Addr) (n' cap' : Nat) (l' : List Int) (w : World) (R : IRow w ao n cap l) (R' : IRow w ao' n' cap' l') :
  Calls Tryz.prog 44 #[.slice ao n cap, .slice ao' n' cap'] w fun e w' => e = .returned (.bool (decide (l = l'))) /\ Below w.heap.size w w' := by
 have HR := hid R
 have HR' := hid R'
 have hf := R.fits
 have hm := R.most
 have hf' := R'.fits
 have hm' := R'.most
 have hln := R.len
 have hln' := R'.len
 unfold maxLen at hm hm'
 clear R R'
 by_cases hnn : n = n'
 ·subst hnn
  go_enter Tryz.func44, Tryz.ntmps44
  go_wp2
  go_loopw [5] (fun i wr => ∃ m : Nat, m <= n /\ i = .int .i64 m /\ Hid (l.take m = l'.take m /\ Below w.heap.size w wr)) (fun i _ => n - (intOf i).toNat)
  case atStart => exact ⟨0, Nat.zero_le _, rfl, rfl, Below.refl _ _⟩
  case round =>
   obtain ⟨m, hmn, rfl, hI⟩ := hrel
   by_cases hlt : m < n
   ·obtain ⟨b, o, rfl, hl, hc⟩ := HR.out.some (by omega)
    obtain ⟨b', o', rfl, hl', hc'⟩ := HR'.out.some (by omega)
    have hc1 := (hI.out.2.cell (p := ⟨b, o + m, none⟩) hl).trans (hc m hlt)
    have hc2 := (hI.out.2.cell (p := ⟨b', o' + m, none⟩) hl').trans (hc' m hlt)
    obtain ⟨x, hx⟩ : ∃ x, x = l.getD m 0 := ⟨_, rfl⟩
    obtain ⟨y, hy⟩ : ∃ x, x = l'.getD m 0 := ⟨_, rfl⟩
    rw [<- hx] at hc1
    rw [<- hy] at hc2
    have HX := hid hx
    have HY := hid hy
    have HT1 := hid hI.out.1
    have HB1 := hid hI.out.2
    clear hc hc' hx hy hI
    by_cases hxy : x = y
    ·have e1 : (x != y) = false := by simp [hxy]
     go_wp2
     go_quiet (fail)
     have HBE : Hid (Below w.heap.size w (wr.drewN nq)) := Bt HB1.out (Bd wr nq)
     go_wp2
     refine ⟨⟨m + 1, by omega, by go_num, ?_, HBE.out⟩, by simp [intOf] <;> omega⟩
     rw [take_succ_of 0 (by rw [hln]; exact hlt), take_succ_of 0 (by rw [hln']; exact hlt), HT1.out, <- HX.out, <- HY.out, hxy]
    ·have e1 : (x != y) = true := by simp [hxy]
     go_wp2
     go_quiet (fail)
     have HBE : Hid (Below w.heap.size w (wr.drewN nq)) := Bt HB1.out (Bd wr nq)
     go_wp2
     go_ret
     refine ⟨?_, HBE.out⟩
     have : l ≠ l' := ne_of_getD 0 (m := m) (by rw [<- HX.out, <- HY.out]; exact hxy)
     simp [this]
   ·obtain rfl : m = n := by omega
    have h1 := hI.out.1
    rw [List.take_of_length_le (by omega), List.take_of_length_le (by omega)] at h1
    have HBE := hid hI.out.2
    clear hI
    go_wp2
    go_ret
    exact ⟨by simp [h1], HBE.out⟩
 ·have hne : l ≠ l' := fun e => hnn (by rw [<- hln, <- hln', e])
  have e1 : ((n : Int) != (n' : Int)) = true := by simp; omega
  have e2 : decide (l = l') = false := by simp [hne]
  rw [e2]
  go_enter Tryz.func44, Tryz.ntmps44
  go_wp2
  go_ret
  exact ⟨rfl, Below.refl _ _⟩
set_option maxHeartbeats 8000000 in
theorem requal_any (an ar : Option Addr) (nn cn nr cr : Nat) (ns : List Nd) (rs : List Int) (an' ar' : Option Addr) (nn' cn' nr' cr' : Nat) (ns' : List Nd) (rs' : List Int) (w : World) (G : GIs w an nn cn ar nr cr ns rs) (G' : GIs w an' nn' cn' ar' nr' cr' ns' rs') :
  Calls Tryz.prog 13 #[GVal an nn cn ar nr cr, GVal an' nn' cn' ar' nr' cr'] w fun e w' => e = .returned (.bool (decide (ns = ns' /\ rs = rs'))) /\ Below w.heap.size w w' := by
 have HG := hid G
 have HG' := hid G'
 have hn1 := G.nodes.fits
 have hn2 := G.nodes.most
 have hn1' := G'.nodes.fits
 have hn2' := G'.nodes.most
 have hln := G.nodes.len
 have hln' := G'.nodes.len
 unfold maxLen at hn2 hn2'
 unfold GVal
 clear G G'
 by_cases hnn : nn = nn'
 ·subst hnn
  go_enter Tryz.func13, Tryz.ntmps13
  go_wp2_with fail
  have bA := Baa w (.cells #[.slice an nn cn, .slice ar nr cr] 34) (.cells #[.slice an' nn cn', .slice ar' nr' cr'] 34)
  have x1 := (GBox.new 34 w an ar nn cn nr cr).on (Ba (w.alloc (.cells #[.slice an nn cn, .slice ar nr cr] 34)) (.cells #[.slice an' nn cn', .slice ar' nr' cr'] 34))
  have x2 := GBox.new 34 (w.alloc (.cells #[.slice an nn cn, .slice ar nr cr] 34)) an' ar' nn cn' nr' cr'
  rw [size_alloc] at x2
  generalize (w.alloc (.cells #[.slice an nn cn, .slice ar nr cr] 34)).alloc (.cells #[.slice an' nn cn', .slice ar' nr' cr'] 34) = W1 at *
  obtain ⟨gb, hgb⟩ : ∃ g, g = w.heap.size := ⟨_, rfl⟩
  obtain ⟨gr, hgr⟩ : ∃ g, g = w.heap.size + 1 := ⟨_, rfl⟩
  rw [<- hgr] at x2
  rw [<- hgb] at x1
  rw [<- hgr, <- hgb]
  clear hgr hgb
  refine (rints_any ar nr cr rs ar' nr' cr' rs' W1 (HG.out.roots.below bA) (HG'.out.roots.below bA)).mono ?_
  rintro e w2 ⟨rfl, b2⟩
  have HB2 := hid (Bt bA b2)
  have Y1 := hid (x1.on b2)
  have Y2 := hid (x2.on b2)
  obtain ⟨z1, z2⟩ := Y1.out.c
  obtain ⟨v1, v2⟩ := Y2.out.c
  have HGN := hid (HG.out.nodes.below HB2.out)
  have HGN' := hid (HG'.out.nodes.below HB2.out)
  clear bA b2 x1 x2
  by_cases hrr : rs = rs'
  ·rw [decide_eq_true hrr]
   have HRR := hid hrr
   clear hrr
   go_wp2
   go_loopw [5] (fun i wr => ∃ m : Nat, m <= nn /\ i = .int .i64 m /\ Hid (ns.take m = ns'.take m /\ Below w2.heap.size w2 wr)) (fun i _ => nn - (intOf i).toNat)
   case atStart => exact ⟨0, Nat.zero_le _, rfl, rfl, Below.refl _ _⟩
   case round =>
    obtain ⟨m, hmn, rfl, hI⟩ := hrel
    have hbI := hI.out.2
    obtain ⟨z1, z2⟩ := (Y1.out.on hbI).c
    obtain ⟨v1, v2⟩ := (Y2.out.on hbI).c
    by_cases hlt : m < nn
    ·obtain ⟨b, o, rfl, hl, hc⟩ := HGN.out.some (by omega)
     obtain ⟨b', o', rfl, hl', hc'⟩ := HGN'.out.some (by omega)
     have hd := (hc m hlt).below hl hbI
     have hd' := (hc' m hlt).below hl' hbI
     have hlw : b < wr.heap.size := Nat.lt_of_lt_of_le hl hbI.size
     have hlw' : b' < wr.heap.size := Nat.lt_of_lt_of_le hl' hbI.size
     have hlb : gb < wr.heap.size := (Y1.out.on hbI).lt
     have hlr : gr < wr.heap.size := (Y2.out.on hbI).lt
     obtain ⟨d, hx⟩ : ∃ x, x = ns.getD m default := ⟨_, rfl⟩
     obtain ⟨d', hy⟩ : ∃ x, x = ns'.getD m default := ⟨_, rfl⟩
     rw [<- hx] at hd
     rw [<- hy] at hd'
     have HX := hid hx
     have HY := hid hy
     have HT1 := hid hI.out.1
     have HB1 := hid hbI
     obtain ⟨k1, k2, k3, ak, nk, ck, k4, k5⟩ := hd
     obtain ⟨j1, j2, j3, aj, nj, cj, j4, j5⟩ := hd'
     obtain ⟨dk, dn, dt, dl⟩ := d
     obtain ⟨ek, en, et, el⟩ := d'
     simp only [] at k1 k2 k3 k5 j1 j2 j3 j5
     have K5 := hid k5
     have J5 := hid j5
     have a0 : ∀ ob, (wr.alloc ob).cell? ⟨gb, 0, none⟩ = some (.slice (some ⟨b, o, none⟩) nn cn) := fun ob => (cell_old _ _ _ _ hlb).trans z1
     have c0 : ∀ ob ob', ((wr.alloc ob).alloc ob').cell? ⟨gb, 0, none⟩ = some (.slice (some ⟨b, o, none⟩) nn cn) := fun ob ob' => (cell_old _ _ _ _ (by rw [size_alloc]; omega)).trans (a0 ob)
     have a1 : ∀ ob, (wr.alloc ob).cell? ⟨gr, 0, none⟩ = some (.slice (some ⟨b', o', none⟩) nn cn') := fun ob => (cell_old _ _ _ _ hlr).trans v1
     have c1 : ∀ ob ob', ((wr.alloc ob).alloc ob').cell? ⟨gr, 0, none⟩ = some (.slice (some ⟨b', o', none⟩) nn cn') := fun ob ob' => (cell_old _ _ _ _ (by rw [size_alloc]; omega)).trans (a1 ob)
     have a2 : ∀ ob, (wr.alloc ob).cell? ⟨b, o + m * 4, none⟩ = some (.int .i64 dk) := fun ob => (cell_old _ _ _ _ hlw).trans k1
     have c2 : ∀ ob ob', ((wr.alloc ob).alloc ob').cell? ⟨b, o + m * 4, none⟩ = some (.int .i64 dk) := fun ob ob' => (cell_old _ _ _ _ (by rw [size_alloc]; omega)).trans (a2 ob)
     have a3 : ∀ ob, (wr.alloc ob).cell? ⟨b, o + m * 4 + 1, none⟩ = some (.int .i64 dn) := fun ob => (cell_old _ _ _ _ hlw).trans k2
     have c3 : ∀ ob ob', ((wr.alloc ob).alloc ob').cell? ⟨b, o + m * 4 + 1, none⟩ = some (.int .i64 dn) := fun ob ob' => (cell_old _ _ _ _ (by rw [size_alloc]; omega)).trans (a3 ob)
     have a4 : ∀ ob, (wr.alloc ob).cell? ⟨b, o + m * 4 + 2, none⟩ = some (.string dt) := fun ob => (cell_old _ _ _ _ hlw).trans k3
     have c4 : ∀ ob ob', ((wr.alloc ob).alloc ob').cell? ⟨b, o + m * 4 + 2, none⟩ = some (.string dt) := fun ob ob' => (cell_old _ _ _ _ (by rw [size_alloc]; omega)).trans (a4 ob)
     have a5 : ∀ ob, (wr.alloc ob).cell? ⟨b, o + m * 4 + 3, none⟩ = some (.slice ak nk ck) := fun ob => (cell_old _ _ _ _ hlw).trans k4
     have c5 : ∀ ob ob', ((wr.alloc ob).alloc ob').cell? ⟨b, o + m * 4 + 3, none⟩ = some (.slice ak nk ck) := fun ob ob' => (cell_old _ _ _ _ (by rw [size_alloc]; omega)).trans (a5 ob)
     have a6 : ∀ ob, (wr.alloc ob).cell? ⟨b', o' + m * 4, none⟩ = some (.int .i64 ek) := fun ob => (cell_old _ _ _ _ hlw').trans j1
     have c6 : ∀ ob ob', ((wr.alloc ob).alloc ob').cell? ⟨b', o' + m * 4, none⟩ = some (.int .i64 ek) := fun ob ob' => (cell_old _ _ _ _ (by rw [size_alloc]; omega)).trans (a6 ob)
     have a7 : ∀ ob, (wr.alloc ob).cell? ⟨b', o' + m * 4 + 1, none⟩ = some (.int .i64 en) := fun ob => (cell_old _ _ _ _ hlw').trans j2
     have c7 : ∀ ob ob', ((wr.alloc ob).alloc ob').cell? ⟨b', o' + m * 4 + 1, none⟩ = some (.int .i64 en) := fun ob ob' => (cell_old _ _ _ _ (by rw [size_alloc]; omega)).trans (a7 ob)
     have a8 : ∀ ob, (wr.alloc ob).cell? ⟨b', o' + m * 4 + 2, none⟩ = some (.string et) := fun ob => (cell_old _ _ _ _ hlw').trans j3
     have c8 : ∀ ob ob', ((wr.alloc ob).alloc ob').cell? ⟨b', o' + m * 4 + 2, none⟩ = some (.string et) := fun ob ob' => (cell_old _ _ _ _ (by rw [size_alloc]; omega)).trans (a8 ob)
     have a9 : ∀ ob, (wr.alloc ob).cell? ⟨b', o' + m * 4 + 3, none⟩ = some (.slice aj nj cj) := fun ob => (cell_old _ _ _ _ hlw').trans j4
     have c9 : ∀ ob ob', ((wr.alloc ob).alloc ob').cell? ⟨b', o' + m * 4 + 3, none⟩ = some (.slice aj nj cj) := fun ob ob' => (cell_old _ _ _ _ (by rw [size_alloc]; omega)).trans (a9 ob)
     clear hc hc' hx hy hI k5 j5 hbI
     by_cases hcase : dk = ek
     ·subst hcase
      by_cases hcase : dn = en
      ·subst hcase
       by_cases hcase : dt = et
       ·subst hcase
        go_wp2_with fail
        go_region
        ·have bA : Below wr.heap.size wr ((wr.alloc (.cells #[.int .i64 dk, .int .i64 dn, .string dt, .slice ak nk ck] 54)).alloc (.cells #[.int .i64 dk, .int .i64 dn, .string dt, .slice aj nj cj] 54)).drew := Bt (Baa wr (.cells #[.int .i64 dk, .int .i64 dn, .string dt, .slice ak nk ck] 54) (.cells #[.int .i64 dk, .int .i64 dn, .string dt, .slice aj nj cj] 54)) (Bd _ 1)
         have p1 : ((wr.alloc (.cells #[.int .i64 dk, .int .i64 dn, .string dt, .slice ak nk ck] 54)).alloc (.cells #[.int .i64 dk, .int .i64 dn, .string dt, .slice aj nj cj] 54)).drew.heap[wr.heap.size]? = some (.cells #[.int .i64 dk, .int .i64 dn, .string dt, .slice ak nk ck] 54 (0, 0)) := (two_new wr (.cells #[.int .i64 dk, .int .i64 dn, .string dt, .slice ak nk ck] 54) (.cells #[.int .i64 dk, .int .i64 dn, .string dt, .slice aj nj cj] 54)).1
         have p2 : ((wr.alloc (.cells #[.int .i64 dk, .int .i64 dn, .string dt, .slice ak nk ck] 54)).alloc (.cells #[.int .i64 dk, .int .i64 dn, .string dt, .slice aj nj cj] 54)).drew.heap[wr.heap.size + 1]? = some (.cells #[.int .i64 dk, .int .i64 dn, .string dt, .slice aj nj cj] 54 (0, 0)) := (two_new wr (.cells #[.int .i64 dk, .int .i64 dn, .string dt, .slice ak nk ck] 54) (.cells #[.int .i64 dk, .int .i64 dn, .string dt, .slice aj nj cj] 54)).2
         obtain ⟨q1, hq1⟩ : ∃ g, g = wr.heap.size + 1 := ⟨_, rfl⟩
         obtain ⟨q0, hq0⟩ : ∃ g, g = wr.heap.size := ⟨_, rfl⟩
         rw [<- hq0] at p1
         rw [<- hq1] at p2
         rw [<- hq1, <- hq0]
         clear hq0 hq1
         generalize ((wr.alloc (.cells #[.int .i64 dk, .int .i64 dn, .string dt, .slice ak nk ck] 54)).alloc (.cells #[.int .i64 dk, .int .i64 dn, .string dt, .slice aj nj cj] 54)).drew = w3 at *
         have g00 : w3.cell? ⟨q0, 0, none⟩ = some (.int .i64 dk) := blk_cell p1 0
         have g01 : w3.cell? ⟨q0, 1, none⟩ = some (.int .i64 dn) := blk_cell p1 1
         have g02 : w3.cell? ⟨q0, 2, none⟩ = some (.string dt) := blk_cell p1 2
         have g03 : w3.cell? ⟨q0, 3, none⟩ = some (.slice ak nk ck) := blk_cell p1 3
         have g10 : w3.cell? ⟨q1, 0, none⟩ = some (.int .i64 dk) := blk_cell p2 0
         have g11 : w3.cell? ⟨q1, 1, none⟩ = some (.int .i64 dn) := blk_cell p2 1
         have g12 : w3.cell? ⟨q1, 2, none⟩ = some (.string dt) := blk_cell p2 2
         have g13 : w3.cell? ⟨q1, 3, none⟩ = some (.slice aj nj cj) := blk_cell p2 3
         have HBA := hid bA
         have HB3 := hid (Bt HB1.out bA)
         clear bA p1 p2 a0 c0 a1 c1 a2 c2 a3 c3 a4 c4 a5 c5 a6 c6 a7 c7 a8 c8 a9 c9 k1 k2 k3 k4 j1 j2 j3 j4 z1 z2 v1 v2
         go_wp2_with fail
         refine (rints_any ak nk ck dl aj nj cj el w3 (K5.out.below HBA.out) (J5.out.below HBA.out)).mono ?_
         rintro e w4 ⟨rfl, b4⟩
         have HB4 := hid (Bt HB3.out b4)
         clear b4 g00 g01 g02 g03 g10 g11 g12 g13
         by_cases hdl : dl = el
         ·rw [decide_eq_true hdl]
          have HDL := hid hdl
          clear hdl
          go_wp2
          refine ⟨⟨m + 1, by omega, by go_num, ?_, HB4.out⟩, by simp [intOf] <;> omega⟩
          rw [take_succ_of default (by rw [hln]; exact hlt), take_succ_of default (by rw [hln']; exact hlt), HT1.out, <- HX.out, <- HY.out, HDL.out]
         ·rw [decide_eq_false hdl]
          have HDL := hid hdl
          clear hdl
          go_wp2
          go_ret
          refine ⟨?_, Bt HB2.out HB4.out⟩
          have : ns ≠ ns' := ne_of_getD default (m := m) (by rw [<- HX.out, <- HY.out]; intro e; cases e; exact HDL.out rfl)
          simp [this]
        ·have bA : Below wr.heap.size wr ((wr.alloc (.cells #[.int .i64 dk, .int .i64 dn, .string dt, .slice aj nj cj] 54)).alloc (.cells #[.int .i64 dk, .int .i64 dn, .string dt, .slice ak nk ck] 54)).drew := Bt (Baa wr (.cells #[.int .i64 dk, .int .i64 dn, .string dt, .slice aj nj cj] 54) (.cells #[.int .i64 dk, .int .i64 dn, .string dt, .slice ak nk ck] 54)) (Bd _ 1)
         have p1 : ((wr.alloc (.cells #[.int .i64 dk, .int .i64 dn, .string dt, .slice aj nj cj] 54)).alloc (.cells #[.int .i64 dk, .int .i64 dn, .string dt, .slice ak nk ck] 54)).drew.heap[wr.heap.size]? = some (.cells #[.int .i64 dk, .int .i64 dn, .string dt, .slice aj nj cj] 54 (0, 0)) := (two_new wr (.cells #[.int .i64 dk, .int .i64 dn, .string dt, .slice aj nj cj] 54) (.cells #[.int .i64 dk, .int .i64 dn, .string dt, .slice ak nk ck] 54)).1
         have p2 : ((wr.alloc (.cells #[.int .i64 dk, .int .i64 dn, .string dt, .slice aj nj cj] 54)).alloc (.cells #[.int .i64 dk, .int .i64 dn, .string dt, .slice ak nk ck] 54)).drew.heap[wr.heap.size + 1]? = some (.cells #[.int .i64 dk, .int .i64 dn, .string dt, .slice ak nk ck] 54 (0, 0)) := (two_new wr (.cells #[.int .i64 dk, .int .i64 dn, .string dt, .slice aj nj cj] 54) (.cells #[.int .i64 dk, .int .i64 dn, .string dt, .slice ak nk ck] 54)).2
         obtain ⟨q1, hq1⟩ : ∃ g, g = wr.heap.size + 1 := ⟨_, rfl⟩
         obtain ⟨q0, hq0⟩ : ∃ g, g = wr.heap.size := ⟨_, rfl⟩
         rw [<- hq0] at p1
         rw [<- hq1] at p2
         rw [<- hq1, <- hq0]
         clear hq0 hq1
         generalize ((wr.alloc (.cells #[.int .i64 dk, .int .i64 dn, .string dt, .slice aj nj cj] 54)).alloc (.cells #[.int .i64 dk, .int .i64 dn, .string dt, .slice ak nk ck] 54)).drew = w3 at *
         have g00 : w3.cell? ⟨q1, 0, none⟩ = some (.int .i64 dk) := blk_cell p2 0
         have g01 : w3.cell? ⟨q1, 1, none⟩ = some (.int .i64 dn) := blk_cell p2 1
         have g02 : w3.cell? ⟨q1, 2, none⟩ = some (.string dt) := blk_cell p2 2
         have g03 : w3.cell? ⟨q1, 3, none⟩ = some (.slice ak nk ck) := blk_cell p2 3
         have g10 : w3.cell? ⟨q0, 0, none⟩ = some (.int .i64 dk) := blk_cell p1 0
         have g11 : w3.cell? ⟨q0, 1, none⟩ = some (.int .i64 dn) := blk_cell p1 1
         have g12 : w3.cell? ⟨q0, 2, none⟩ = some (.string dt) := blk_cell p1 2
         have g13 : w3.cell? ⟨q0, 3, none⟩ = some (.slice aj nj cj) := blk_cell p1 3
         have HBA := hid bA
         have HB3 := hid (Bt HB1.out bA)
         clear bA p1 p2 a0 c0 a1 c1 a2 c2 a3 c3 a4 c4 a5 c5 a6 c6 a7 c7 a8 c8 a9 c9 k1 k2 k3 k4 j1 j2 j3 j4 z1 z2 v1 v2
         go_wp2_with fail
         refine (rints_any ak nk ck dl aj nj cj el w3 (K5.out.below HBA.out) (J5.out.below HBA.out)).mono ?_
         rintro e w4 ⟨rfl, b4⟩
         have HB4 := hid (Bt HB3.out b4)
         clear b4 g00 g01 g02 g03 g10 g11 g12 g13
         by_cases hdl : dl = el
         ·rw [decide_eq_true hdl]
          have HDL := hid hdl
          clear hdl
          go_wp2
          refine ⟨⟨m + 1, by omega, by go_num, ?_, HB4.out⟩, by simp [intOf] <;> omega⟩
          rw [take_succ_of default (by rw [hln]; exact hlt), take_succ_of default (by rw [hln']; exact hlt), HT1.out, <- HX.out, <- HY.out, HDL.out]
         ·rw [decide_eq_false hdl]
          have HDL := hid hdl
          clear hdl
          go_wp2
          go_ret
          refine ⟨?_, Bt HB2.out HB4.out⟩
          have : ns ≠ ns' := ne_of_getD default (m := m) (by rw [<- HX.out, <- HY.out]; intro e; cases e; exact HDL.out rfl)
          simp [this]
       ·have HC : Hid (dt ≠ et) := hcase
        have e1 : (dt.toList == et.toList) = false := by rw [str_eq]; simp [hcase]
        have e2 : (dt.toList != et.toList) = true := by simp only [bne, e1]; rfl
        clear hcase
        go_wp2_with fail
        go_region
        ·have bA : Below wr.heap.size wr ((wr.alloc (.cells #[.int .i64 dk, .int .i64 dn, .string dt, .slice ak nk ck] 54)).alloc (.cells #[.int .i64 dk, .int .i64 dn, .string et, .slice aj nj cj] 54)).drew := Bt (Baa wr (.cells #[.int .i64 dk, .int .i64 dn, .string dt, .slice ak nk ck] 54) (.cells #[.int .i64 dk, .int .i64 dn, .string et, .slice aj nj cj] 54)) (Bd _ 1)
         have p1 : ((wr.alloc (.cells #[.int .i64 dk, .int .i64 dn, .string dt, .slice ak nk ck] 54)).alloc (.cells #[.int .i64 dk, .int .i64 dn, .string et, .slice aj nj cj] 54)).drew.heap[wr.heap.size]? = some (.cells #[.int .i64 dk, .int .i64 dn, .string dt, .slice ak nk ck] 54 (0, 0)) := (two_new wr (.cells #[.int .i64 dk, .int .i64 dn, .string dt, .slice ak nk ck] 54) (.cells #[.int .i64 dk, .int .i64 dn, .string et, .slice aj nj cj] 54)).1
         have p2 : ((wr.alloc (.cells #[.int .i64 dk, .int .i64 dn, .string dt, .slice ak nk ck] 54)).alloc (.cells #[.int .i64 dk, .int .i64 dn, .string et, .slice aj nj cj] 54)).drew.heap[wr.heap.size + 1]? = some (.cells #[.int .i64 dk, .int .i64 dn, .string et, .slice aj nj cj] 54 (0, 0)) := (two_new wr (.cells #[.int .i64 dk, .int .i64 dn, .string dt, .slice ak nk ck] 54) (.cells #[.int .i64 dk, .int .i64 dn, .string et, .slice aj nj cj] 54)).2
         obtain ⟨q1, hq1⟩ : ∃ g, g = wr.heap.size + 1 := ⟨_, rfl⟩
         obtain ⟨q0, hq0⟩ : ∃ g, g = wr.heap.size := ⟨_, rfl⟩
         rw [<- hq0] at p1
         rw [<- hq1] at p2
         rw [<- hq1, <- hq0]
         clear hq0 hq1
         generalize ((wr.alloc (.cells #[.int .i64 dk, .int .i64 dn, .string dt, .slice ak nk ck] 54)).alloc (.cells #[.int .i64 dk, .int .i64 dn, .string et, .slice aj nj cj] 54)).drew = w3 at *
         have g00 : w3.cell? ⟨q0, 0, none⟩ = some (.int .i64 dk) := blk_cell p1 0
         have g01 : w3.cell? ⟨q0, 1, none⟩ = some (.int .i64 dn) := blk_cell p1 1
         have g02 : w3.cell? ⟨q0, 2, none⟩ = some (.string dt) := blk_cell p1 2
         have g03 : w3.cell? ⟨q0, 3, none⟩ = some (.slice ak nk ck) := blk_cell p1 3
         have g10 : w3.cell? ⟨q1, 0, none⟩ = some (.int .i64 dk) := blk_cell p2 0
         have g11 : w3.cell? ⟨q1, 1, none⟩ = some (.int .i64 dn) := blk_cell p2 1
         have g12 : w3.cell? ⟨q1, 2, none⟩ = some (.string et) := blk_cell p2 2
         have g13 : w3.cell? ⟨q1, 3, none⟩ = some (.slice aj nj cj) := blk_cell p2 3
         have HBA := hid bA
         have HB3 := hid (Bt HB1.out bA)
         clear bA p1 p2 a0 c0 a1 c1 a2 c2 a3 c3 a4 c4 a5 c5 a6 c6 a7 c7 a8 c8 a9 c9 k1 k2 k3 k4 j1 j2 j3 j4 z1 z2 v1 v2
         go_wp2
         go_ret
         refine ⟨?_, Bt HB2.out HB3.out⟩
         have : ns ≠ ns' := ne_of_getD default (m := m) (by rw [<- HX.out, <- HY.out]; intro e; cases e; exact HC.out rfl)
         simp [this]
        ·have bA : Below wr.heap.size wr ((wr.alloc (.cells #[.int .i64 dk, .int .i64 dn, .string et, .slice aj nj cj] 54)).alloc (.cells #[.int .i64 dk, .int .i64 dn, .string dt, .slice ak nk ck] 54)).drew := Bt (Baa wr (.cells #[.int .i64 dk, .int .i64 dn, .string et, .slice aj nj cj] 54) (.cells #[.int .i64 dk, .int .i64 dn, .string dt, .slice ak nk ck] 54)) (Bd _ 1)
         have p1 : ((wr.alloc (.cells #[.int .i64 dk, .int .i64 dn, .string et, .slice aj nj cj] 54)).alloc (.cells #[.int .i64 dk, .int .i64 dn, .string dt, .slice ak nk ck] 54)).drew.heap[wr.heap.size]? = some (.cells #[.int .i64 dk, .int .i64 dn, .string et, .slice aj nj cj] 54 (0, 0)) := (two_new wr (.cells #[.int .i64 dk, .int .i64 dn, .string et, .slice aj nj cj] 54) (.cells #[.int .i64 dk, .int .i64 dn, .string dt, .slice ak nk ck] 54)).1
         have p2 : ((wr.alloc (.cells #[.int .i64 dk, .int .i64 dn, .string et, .slice aj nj cj] 54)).alloc (.cells #[.int .i64 dk, .int .i64 dn, .string dt, .slice ak nk ck] 54)).drew.heap[wr.heap.size + 1]? = some (.cells #[.int .i64 dk, .int .i64 dn, .string dt, .slice ak nk ck] 54 (0, 0)) := (two_new wr (.cells #[.int .i64 dk, .int .i64 dn, .string et, .slice aj nj cj] 54) (.cells #[.int .i64 dk, .int .i64 dn, .string dt, .slice ak nk ck] 54)).2
         obtain ⟨q1, hq1⟩ : ∃ g, g = wr.heap.size + 1 := ⟨_, rfl⟩
         obtain ⟨q0, hq0⟩ : ∃ g, g = wr.heap.size := ⟨_, rfl⟩
         rw [<- hq0] at p1
         rw [<- hq1] at p2
         rw [<- hq1, <- hq0]
         clear hq0 hq1
         generalize ((wr.alloc (.cells #[.int .i64 dk, .int .i64 dn, .string et, .slice aj nj cj] 54)).alloc (.cells #[.int .i64 dk, .int .i64 dn, .string dt, .slice ak nk ck] 54)).drew = w3 at *
         have g00 : w3.cell? ⟨q1, 0, none⟩ = some (.int .i64 dk) := blk_cell p2 0
         have g01 : w3.cell? ⟨q1, 1, none⟩ = some (.int .i64 dn) := blk_cell p2 1
         have g02 : w3.cell? ⟨q1, 2, none⟩ = some (.string dt) := blk_cell p2 2
         have g03 : w3.cell? ⟨q1, 3, none⟩ = some (.slice ak nk ck) := blk_cell p2 3
         have g10 : w3.cell? ⟨q0, 0, none⟩ = some (.int .i64 dk) := blk_cell p1 0
         have g11 : w3.cell? ⟨q0, 1, none⟩ = some (.int .i64 dn) := blk_cell p1 1
         have g12 : w3.cell? ⟨q0, 2, none⟩ = some (.string et) := blk_cell p1 2
         have g13 : w3.cell? ⟨q0, 3, none⟩ = some (.slice aj nj cj) := blk_cell p1 3
         have HBA := hid bA
         have HB3 := hid (Bt HB1.out bA)
         clear bA p1 p2 a0 c0 a1 c1 a2 c2 a3 c3 a4 c4 a5 c5 a6 c6 a7 c7 a8 c8 a9 c9 k1 k2 k3 k4 j1 j2 j3 j4 z1 z2 v1 v2
         go_wp2
         go_ret
         refine ⟨?_, Bt HB2.out HB3.out⟩
         have : ns ≠ ns' := ne_of_getD default (m := m) (by rw [<- HX.out, <- HY.out]; intro e; cases e; exact HC.out rfl)
         simp [this]
      ·have HC : Hid (dn ≠ en) := hcase
       have e1 : (dn != en) = true := by simp [hcase]
       clear hcase
       go_wp2_with fail
       go_region
       ·have bA : Below wr.heap.size wr ((wr.alloc (.cells #[.int .i64 dk, .int .i64 dn, .string dt, .slice ak nk ck] 54)).alloc (.cells #[.int .i64 dk, .int .i64 en, .string et, .slice aj nj cj] 54)).drew := Bt (Baa wr (.cells #[.int .i64 dk, .int .i64 dn, .string dt, .slice ak nk ck] 54) (.cells #[.int .i64 dk, .int .i64 en, .string et, .slice aj nj cj] 54)) (Bd _ 1)
        have p1 : ((wr.alloc (.cells #[.int .i64 dk, .int .i64 dn, .string dt, .slice ak nk ck] 54)).alloc (.cells #[.int .i64 dk, .int .i64 en, .string et, .slice aj nj cj] 54)).drew.heap[wr.heap.size]? = some (.cells #[.int .i64 dk, .int .i64 dn, .string dt, .slice ak nk ck] 54 (0, 0)) := (two_new wr (.cells #[.int .i64 dk, .int .i64 dn, .string dt, .slice ak nk ck] 54) (.cells #[.int .i64 dk, .int .i64 en, .string et, .slice aj nj cj] 54)).1
        have p2 : ((wr.alloc (.cells #[.int .i64 dk, .int .i64 dn, .string dt, .slice ak nk ck] 54)).alloc (.cells #[.int .i64 dk, .int .i64 en, .string et, .slice aj nj cj] 54)).drew.heap[wr.heap.size + 1]? = some (.cells #[.int .i64 dk, .int .i64 en, .string et, .slice aj nj cj] 54 (0, 0)) := (two_new wr (.cells #[.int .i64 dk, .int .i64 dn, .string dt, .slice ak nk ck] 54) (.cells #[.int .i64 dk, .int .i64 en, .string et, .slice aj nj cj] 54)).2
        obtain ⟨q1, hq1⟩ : ∃ g, g = wr.heap.size + 1 := ⟨_, rfl⟩
        obtain ⟨q0, hq0⟩ : ∃ g, g = wr.heap.size := ⟨_, rfl⟩
        rw [<- hq0] at p1
        rw [<- hq1] at p2
        rw [<- hq1, <- hq0]
        clear hq0 hq1
        generalize ((wr.alloc (.cells #[.int .i64 dk, .int .i64 dn, .string dt, .slice ak nk ck] 54)).alloc (.cells #[.int .i64 dk, .int .i64 en, .string et, .slice aj nj cj] 54)).drew = w3 at *
        have g00 : w3.cell? ⟨q0, 0, none⟩ = some (.int .i64 dk) := blk_cell p1 0
        have g01 : w3.cell? ⟨q0, 1, none⟩ = some (.int .i64 dn) := blk_cell p1 1
        have g02 : w3.cell? ⟨q0, 2, none⟩ = some (.string dt) := blk_cell p1 2
        have g03 : w3.cell? ⟨q0, 3, none⟩ = some (.slice ak nk ck) := blk_cell p1 3
        have g10 : w3.cell? ⟨q1, 0, none⟩ = some (.int .i64 dk) := blk_cell p2 0
        have g11 : w3.cell? ⟨q1, 1, none⟩ = some (.int .i64 en) := blk_cell p2 1
        have g12 : w3.cell? ⟨q1, 2, none⟩ = some (.string et) := blk_cell p2 2
        have g13 : w3.cell? ⟨q1, 3, none⟩ = some (.slice aj nj cj) := blk_cell p2 3
        have HBA := hid bA
        have HB3 := hid (Bt HB1.out bA)
        clear bA p1 p2 a0 c0 a1 c1 a2 c2 a3 c3 a4 c4 a5 c5 a6 c6 a7 c7 a8 c8 a9 c9 k1 k2 k3 k4 j1 j2 j3 j4 z1 z2 v1 v2
        go_wp2
        go_ret
        refine ⟨?_, Bt HB2.out HB3.out⟩
        have : ns ≠ ns' := ne_of_getD default (m := m) (by rw [<- HX.out, <- HY.out]; intro e; cases e; exact HC.out rfl)
        simp [this]
       ·have bA : Below wr.heap.size wr ((wr.alloc (.cells #[.int .i64 dk, .int .i64 en, .string et, .slice aj nj cj] 54)).alloc (.cells #[.int .i64 dk, .int .i64 dn, .string dt, .slice ak nk ck] 54)).drew := Bt (Baa wr (.cells #[.int .i64 dk, .int .i64 en, .string et, .slice aj nj cj] 54) (.cells #[.int .i64 dk, .int .i64 dn, .string dt, .slice ak nk ck] 54)) (Bd _ 1)
        have p1 : ((wr.alloc (.cells #[.int .i64 dk, .int .i64 en, .string et, .slice aj nj cj] 54)).alloc (.cells #[.int .i64 dk, .int .i64 dn, .string dt, .slice ak nk ck] 54)).drew.heap[wr.heap.size]? = some (.cells #[.int .i64 dk, .int .i64 en, .string et, .slice aj nj cj] 54 (0, 0)) := (two_new wr (.cells #[.int .i64 dk, .int .i64 en, .string et, .slice aj nj cj] 54) (.cells #[.int .i64 dk, .int .i64 dn, .string dt, .slice ak nk ck] 54)).1
        have p2 : ((wr.alloc (.cells #[.int .i64 dk, .int .i64 en, .string et, .slice aj nj cj] 54)).alloc (.cells #[.int .i64 dk, .int .i64 dn, .string dt, .slice ak nk ck] 54)).drew.heap[wr.heap.size + 1]? = some (.cells #[.int .i64 dk, .int .i64 dn, .string dt, .slice ak nk ck] 54 (0, 0)) := (two_new wr (.cells #[.int .i64 dk, .int .i64 en, .string et, .slice aj nj cj] 54) (.cells #[.int .i64 dk, .int .i64 dn, .string dt, .slice ak nk ck] 54)).2
        obtain ⟨q1, hq1⟩ : ∃ g, g = wr.heap.size + 1 := ⟨_, rfl⟩
        obtain ⟨q0, hq0⟩ : ∃ g, g = wr.heap.size := ⟨_, rfl⟩
        rw [<- hq0] at p1
        rw [<- hq1] at p2
        rw [<- hq1, <- hq0]
        clear hq0 hq1
        generalize ((wr.alloc (.cells #[.int .i64 dk, .int .i64 en, .string et, .slice aj nj cj] 54)).alloc (.cells #[.int .i64 dk, .int .i64 dn, .string dt, .slice ak nk ck] 54)).drew = w3 at *
        have g00 : w3.cell? ⟨q1, 0, none⟩ = some (.int .i64 dk) := blk_cell p2 0
        have g01 : w3.cell? ⟨q1, 1, none⟩ = some (.int .i64 dn) := blk_cell p2 1
        have g02 : w3.cell? ⟨q1, 2, none⟩ = some (.string dt) := blk_cell p2 2
        have g03 : w3.cell? ⟨q1, 3, none⟩ = some (.slice ak nk ck) := blk_cell p2 3
        have g10 : w3.cell? ⟨q0, 0, none⟩ = some (.int .i64 dk) := blk_cell p1 0
        have g11 : w3.cell? ⟨q0, 1, none⟩ = some (.int .i64 en) := blk_cell p1 1
        have g12 : w3.cell? ⟨q0, 2, none⟩ = some (.string et) := blk_cell p1 2
        have g13 : w3.cell? ⟨q0, 3, none⟩ = some (.slice aj nj cj) := blk_cell p1 3
        have HBA := hid bA
        have HB3 := hid (Bt HB1.out bA)
        clear bA p1 p2 a0 c0 a1 c1 a2 c2 a3 c3 a4 c4 a5 c5 a6 c6 a7 c7 a8 c8 a9 c9 k1 k2 k3 k4 j1 j2 j3 j4 z1 z2 v1 v2
        go_wp2
        go_ret
        refine ⟨?_, Bt HB2.out HB3.out⟩
        have : ns ≠ ns' := ne_of_getD default (m := m) (by rw [<- HX.out, <- HY.out]; intro e; cases e; exact HC.out rfl)
        simp [this]
     ·have HC : Hid (dk ≠ ek) := hcase
      have e1 : (dk != ek) = true := by simp [hcase]
      clear hcase
      go_wp2_with fail
      go_region
      ·have bA : Below wr.heap.size wr ((wr.alloc (.cells #[.int .i64 dk, .int .i64 dn, .string dt, .slice ak nk ck] 54)).alloc (.cells #[.int .i64 ek, .int .i64 en, .string et, .slice aj nj cj] 54)).drew := Bt (Baa wr (.cells #[.int .i64 dk, .int .i64 dn, .string dt, .slice ak nk ck] 54) (.cells #[.int .i64 ek, .int .i64 en, .string et, .slice aj nj cj] 54)) (Bd _ 1)
       have p1 : ((wr.alloc (.cells #[.int .i64 dk, .int .i64 dn, .string dt, .slice ak nk ck] 54)).alloc (.cells #[.int .i64 ek, .int .i64 en, .string et, .slice aj nj cj] 54)).drew.heap[wr.heap.size]? = some (.cells #[.int .i64 dk, .int .i64 dn, .string dt, .slice ak nk ck] 54 (0, 0)) := (two_new wr (.cells #[.int .i64 dk, .int .i64 dn, .string dt, .slice ak nk ck] 54) (.cells #[.int .i64 ek, .int .i64 en, .string et, .slice aj nj cj] 54)).1
       have p2 : ((wr.alloc (.cells #[.int .i64 dk, .int .i64 dn, .string dt, .slice ak nk ck] 54)).alloc (.cells #[.int .i64 ek, .int .i64 en, .string et, .slice aj nj cj] 54)).drew.heap[wr.heap.size + 1]? = some (.cells #[.int .i64 ek, .int .i64 en, .string et, .slice aj nj cj] 54 (0, 0)) := (two_new wr (.cells #[.int .i64 dk, .int .i64 dn, .string dt, .slice ak nk ck] 54) (.cells #[.int .i64 ek, .int .i64 en, .string et, .slice aj nj cj] 54)).2
       obtain ⟨q1, hq1⟩ : ∃ g, g = wr.heap.size + 1 := ⟨_, rfl⟩
       obtain ⟨q0, hq0⟩ : ∃ g, g = wr.heap.size := ⟨_, rfl⟩
       rw [<- hq0] at p1
       rw [<- hq1] at p2
       rw [<- hq1, <- hq0]
       clear hq0 hq1
       generalize ((wr.alloc (.cells #[.int .i64 dk, .int .i64 dn, .string dt, .slice ak nk ck] 54)).alloc (.cells #[.int .i64 ek, .int .i64 en, .string et, .slice aj nj cj] 54)).drew = w3 at *
       have g00 : w3.cell? ⟨q0, 0, none⟩ = some (.int .i64 dk) := blk_cell p1 0
       have g01 : w3.cell? ⟨q0, 1, none⟩ = some (.int .i64 dn) := blk_cell p1 1
       have g02 : w3.cell? ⟨q0, 2, none⟩ = some (.string dt) := blk_cell p1 2
       have g03 : w3.cell? ⟨q0, 3, none⟩ = some (.slice ak nk ck) := blk_cell p1 3
       have g10 : w3.cell? ⟨q1, 0, none⟩ = some (.int .i64 ek) := blk_cell p2 0
       have g11 : w3.cell? ⟨q1, 1, none⟩ = some (.int .i64 en) := blk_cell p2 1
       have g12 : w3.cell? ⟨q1, 2, none⟩ = some (.string et) := blk_cell p2 2
       have g13 : w3.cell? ⟨q1, 3, none⟩ = some (.slice aj nj cj) := blk_cell p2 3
       have HBA := hid bA
       have HB3 := hid (Bt HB1.out bA)
       clear bA p1 p2 a0 c0 a1 c1 a2 c2 a3 c3 a4 c4 a5 c5 a6 c6 a7 c7 a8 c8 a9 c9 k1 k2 k3 k4 j1 j2 j3 j4 z1 z2 v1 v2
       go_wp2
       go_ret
       refine ⟨?_, Bt HB2.out HB3.out⟩
       have : ns ≠ ns' := ne_of_getD default (m := m) (by rw [<- HX.out, <- HY.out]; intro e; cases e; exact HC.out rfl)
       simp [this]
      ·have bA : Below wr.heap.size wr ((wr.alloc (.cells #[.int .i64 ek, .int .i64 en, .string et, .slice aj nj cj] 54)).alloc (.cells #[.int .i64 dk, .int .i64 dn, .string dt, .slice ak nk ck] 54)).drew := Bt (Baa wr (.cells #[.int .i64 ek, .int .i64 en, .string et, .slice aj nj cj] 54) (.cells #[.int .i64 dk, .int .i64 dn, .string dt, .slice ak nk ck] 54)) (Bd _ 1)
       have p1 : ((wr.alloc (.cells #[.int .i64 ek, .int .i64 en, .string et, .slice aj nj cj] 54)).alloc (.cells #[.int .i64 dk, .int .i64 dn, .string dt, .slice ak nk ck] 54)).drew.heap[wr.heap.size]? = some (.cells #[.int .i64 ek, .int .i64 en, .string et, .slice aj nj cj] 54 (0, 0)) := (two_new wr (.cells #[.int .i64 ek, .int .i64 en, .string et, .slice aj nj cj] 54) (.cells #[.int .i64 dk, .int .i64 dn, .string dt, .slice ak nk ck] 54)).1
       have p2 : ((wr.alloc (.cells #[.int .i64 ek, .int .i64 en, .string et, .slice aj nj cj] 54)).alloc (.cells #[.int .i64 dk, .int .i64 dn, .string dt, .slice ak nk ck] 54)).drew.heap[wr.heap.size + 1]? = some (.cells #[.int .i64 dk, .int .i64 dn, .string dt, .slice ak nk ck] 54 (0, 0)) := (two_new wr (.cells #[.int .i64 ek, .int .i64 en, .string et, .slice aj nj cj] 54) (.cells #[.int .i64 dk, .int .i64 dn, .string dt, .slice ak nk ck] 54)).2
       obtain ⟨q1, hq1⟩ : ∃ g, g = wr.heap.size + 1 := ⟨_, rfl⟩
       obtain ⟨q0, hq0⟩ : ∃ g, g = wr.heap.size := ⟨_, rfl⟩
       rw [<- hq0] at p1
       rw [<- hq1] at p2
       rw [<- hq1, <- hq0]
       clear hq0 hq1
       generalize ((wr.alloc (.cells #[.int .i64 ek, .int .i64 en, .string et, .slice aj nj cj] 54)).alloc (.cells #[.int .i64 dk, .int .i64 dn, .string dt, .slice ak nk ck] 54)).drew = w3 at *
       have g00 : w3.cell? ⟨q1, 0, none⟩ = some (.int .i64 dk) := blk_cell p2 0
       have g01 : w3.cell? ⟨q1, 1, none⟩ = some (.int .i64 dn) := blk_cell p2 1
       have g02 : w3.cell? ⟨q1, 2, none⟩ = some (.string dt) := blk_cell p2 2
       have g03 : w3.cell? ⟨q1, 3, none⟩ = some (.slice ak nk ck) := blk_cell p2 3
       have g10 : w3.cell? ⟨q0, 0, none⟩ = some (.int .i64 ek) := blk_cell p1 0
       have g11 : w3.cell? ⟨q0, 1, none⟩ = some (.int .i64 en) := blk_cell p1 1
       have g12 : w3.cell? ⟨q0, 2, none⟩ = some (.string et) := blk_cell p1 2
       have g13 : w3.cell? ⟨q0, 3, none⟩ = some (.slice aj nj cj) := blk_cell p1 3
       have HBA := hid bA
       have HB3 := hid (Bt HB1.out bA)
       clear bA p1 p2 a0 c0 a1 c1 a2 c2 a3 c3 a4 c4 a5 c5 a6 c6 a7 c7 a8 c8 a9 c9 k1 k2 k3 k4 j1 j2 j3 j4 z1 z2 v1 v2
       go_wp2
       go_ret
       refine ⟨?_, Bt HB2.out HB3.out⟩
       have : ns ≠ ns' := ne_of_getD default (m := m) (by rw [<- HX.out, <- HY.out]; intro e; cases e; exact HC.out rfl)
       simp [this]
    ·obtain rfl : m = nn := by omega
     have h1 := hI.out.1
     rw [List.take_of_length_le (by omega), List.take_of_length_le (by omega)] at h1
     have HBE := hid (Bt HB2.out hbI)
     clear hI hbI
     go_wp2
     go_ret
     exact ⟨by simp [h1, HRR.out], HBE.out⟩
  ·rw [decide_eq_false hrr]
   have HRR := hid hrr
   clear hrr
   go_wp2
   go_ret
   have := HRR.out
   exact ⟨by simp [this], HB2.out⟩
 ·have hne : ns ≠ ns' := fun e => hnn (by rw [<- hln, <- hln', e])
  have e1 : ((nn : Int) != (nn' : Int)) = true := by simp; omega
  have e2 : decide (ns = ns' /\ rs = rs') = false := by simp [hne]
  rw [e2]
  go_enter Tryz.func13, Tryz.ntmps13
  go_wp2
  go_ret
  exact ⟨rfl, Baa _ _ _⟩
end Go.Proofs.YticimejfjjmikaaGreatDoor
