/-
  Walk: met of the document's answer.
-/
import Derived.Test.YtfkdpomhojhapaaDoorH2
import Derived.Test.YtfkdpomhojhapaaDoorK1
import Derived.Test.YtfkdpomhojhapaaDoorH6
import Derived.Test.YtfkdpomhojhapaaDoorL1
set_option linter.unusedVariables false
set_option linter.unusedSimpArgs false
set_option maxRecDepth 100000
namespace Go.Proofs.YtfkdpomhojhapaaDoor
open Go.RowKit

/-- What met looks at. -/
structure MetIn (w : World) (oa : Option Addr) (on oc : Nat) (os : List Nd) (ta : Option Addr) (tc : Nat) (pt : List Int) (sa : Option Addr) (sn sc : Nat) (ns : List Nd) (ord : List Int) (an : Option Addr) (nn cn : Nat) : Prop where
  out : NRow w oa on oc os
  olen : on = ord.length
  osame : ∀ j, j < ord.length → sameA (os.getD j default) (ns.getD (ord.getD j 0).toNat default)
  pt_ : IRow w ta nn tc pt
  atoms : IRow w sa sn sc (atomsL ns ord 0)
  nodes : NRow w an nn cn ns
  small : nn ≤ 1000 ∧ on ≤ 1000
theorem MetIn.below {w w' : World} {oa : Option Addr} {on oc : Nat} {os : List Nd} {ta : Option Addr} {tc : Nat} {pt : List Int} {sa : Option Addr} {sn sc : Nat} {ns : List Nd} {ord : List Int} {an : Option Addr} {nn cn : Nat} (h : MetIn w oa on oc os ta tc pt sa sn sc ns ord an nn cn) (hb : Below w.heap.size w w') : MetIn w' oa on oc os ta tc pt sa sn sc ns ord an nn cn :=
  ⟨h.out.below hb, h.olen, h.osame, h.pt_.below hb, h.atoms.below hb, h.nodes.below hb, h.small⟩

set_option maxHeartbeats 4000000 in
theorem rmet_any (oa : Option Addr) (on oc : Nat) (xa : Option Addr) (xn xc : Nat) (os : List Nd) (ta : Option Addr) (tc : Nat) (pt : List Int) (sa : Option Addr) (sn sc : Nat) (ns : List Nd) (ord : List Int) (an : Option Addr) (nn cn : Nat) (ar : Option Addr) (nr cr : Nat) (n : Nat) (hn : n < nn) (w : World) (M : MetIn w oa on oc os ta tc pt sa sn sc ns ord an nn cn) :
    Calls Tryd.prog 31 #[.agg #[.slice oa on oc, .slice xa xn xc], .slice ta nn tc, .slice sa sn sc, .agg #[.slice an nn cn, .slice ar nr cr], .int .i64 (n : Int)] w fun e w' => e = .returned (.int .i64 (rmetS ns pt ord n)) ∧ Below w.heap.size w w' := by
  have HM := hid M
  have hm1 := M.small
  have ht1 := M.pt_.fits
  have ht2 := M.pt_.most
  have hs1 := M.atoms.fits
  have hs2 := M.atoms.most
  have hn1 := M.nodes.fits
  have hn2 := M.nodes.most
  have ho1 := M.out.fits
  have ho2 := M.out.most
  have HSL := hid M.atoms.len
  have HOL := hid M.olen
  unfold maxLen at ht2 hs2 hn2 ho2
  obtain ⟨hm1, hm2⟩ := hm1
  obtain ⟨bt, ot, rfl, hlt, hct⟩ := M.pt_.some (by omega)
  obtain ⟨bn, on', rfl, hln, hcn⟩ := M.nodes.some (by omega)
  have c1 := hct n hn
  obtain ⟨j1, j2, j3, ak, nk, ck, j4, j5⟩ := hcn n hn
  obtain ⟨p, hp⟩ : ∃ p, p = pt.getD n 0 := ⟨_, rfl⟩
  obtain ⟨d, hd⟩ : ∃ d, d = ns.getD n default := ⟨_, rfl⟩
  rw [← hp] at c1
  rw [← hd] at j1 j2 j3 j5
  obtain ⟨dk, dn, dt, dl⟩ := d
  simp only [] at j1 j2 j3 j5
  have HP := hid hp
  have HD := hid hd
  have bA := Baa w (.cells #[.slice oa on oc, .slice xa xn xc] 25) (.cells #[.slice (some ⟨bn, on', none⟩) nn cn, .slice ar nr cr] 25)
  have c1' := (bA.cell (p := ⟨bt, ot + n, none⟩) hlt).trans c1
  have j1' := (bA.cell (p := ⟨bn, on' + n * 4, none⟩) hln).trans j1
  have j2' := (bA.cell (p := ⟨bn, on' + n * 4 + 1, none⟩) hln).trans j2
  have j3' := (bA.cell (p := ⟨bn, on' + n * 4 + 2, none⟩) hln).trans j3
  have j4' := (bA.cell (p := ⟨bn, on' + n * 4 + 3, none⟩) hln).trans j4
  have HBA := hid bA
  clear M hct hcn c1 j1 j2 j3 j4 j5 hp hd bA
  by_cases hp0 : 0 ≤ p
  · have e0 : decide (0 ≤ p) = true := by simp [hp0]
    go_enter Tryd.func31, Tryd.ntmps31
    go_wp2
    go_ret
    exact ⟨by rw [rmetS_self (.inl (by rw [← HP.out]; exact hp0)), ← HP.out]; rfl, HBA.out⟩
  · have e0 : decide (0 ≤ p) = false := by simp [hp0]
    go_enter Tryd.func31, Tryd.ntmps31
    go_wp2_with fail
    refine (ratom_any dk _).mono ?_
    rintro e w7 ⟨rfl, hw7⟩
    subst hw7
    cases ha : atomB dk
    · go_wp2
      go_ret
      exact ⟨by rw [rmetS_self (.inr (by rw [← HD.out]; exact ha)), ← HP.out]; rfl, HBA.out⟩
    · have HNS : Hid (¬ (0 ≤ pt.getD n 0 ∨ atomB (ns.getD n default).kind = false)) := by unfold Hid; rw [← HP.out, ← HD.out]; simp [hp0, ha]
      go_wp2_with fail
      have bB : Below w.heap.size w (allocs w [(.cells #[.slice oa on oc, .slice xa xn xc] 25), (.cells #[.slice (some ⟨bn, on', none⟩) nn cn, .slice ar nr cr] 25), (.cells #[.int .i64 dk, .int .i64 dn, .string dt, .slice ak nk ck] 32)]) := allocs_below _ _
      have x0 : (allocs w [(.cells #[.slice oa on oc, .slice xa xn xc] 25), (.cells #[.slice (some ⟨bn, on', none⟩) nn cn, .slice ar nr cr] 25), (.cells #[.int .i64 dk, .int .i64 dn, .string dt, .slice ak nk ck] 32)]).heap[w.heap.size]? = some (.cells #[.slice oa on oc, .slice xa xn xc] 25 (0, 0)) := allocs_get (i := 0) rfl
      have x2 : (allocs w [(.cells #[.slice oa on oc, .slice xa xn xc] 25), (.cells #[.slice (some ⟨bn, on', none⟩) nn cn, .slice ar nr cr] 25), (.cells #[.int .i64 dk, .int .i64 dn, .string dt, .slice ak nk ck] 32)]).heap[w.heap.size + 1 + 1]? = some (.cells #[.int .i64 dk, .int .i64 dn, .string dt, .slice ak nk ck] 32 (0, 0)) := allocs_get (i := 2) rfl
      have hWW : allocs w [(.cells #[.slice oa on oc, .slice xa xn xc] 25), (.cells #[.slice (some ⟨bn, on', none⟩) nn cn, .slice ar nr cr] 25), (.cells #[.int .i64 dk, .int .i64 dn, .string dt, .slice ak nk ck] 32)] = ((w.alloc (.cells #[.slice oa on oc, .slice xa xn xc] 25)).alloc (.cells #[.slice (some ⟨bn, on', none⟩) nn cn, .slice ar nr cr] 25)).alloc (.cells #[.int .i64 dk, .int .i64 dn, .string dt, .slice ak nk ck] 32) := rfl
      rw [← hWW]
      clear hWW
      generalize allocs w [(.cells #[.slice oa on oc, .slice xa xn xc] 25), (.cells #[.slice (some ⟨bn, on', none⟩) nn cn, .slice ar nr cr] 25), (.cells #[.int .i64 dk, .int .i64 dn, .string dt, .slice ak nk ck] 32)] = W2 at *
      obtain ⟨gx, hgx⟩ : ∃ g, g = w.heap.size + 1 + 1 := ⟨_, rfl⟩
      obtain ⟨g1, hg1⟩ : ∃ g, g = w.heap.size + 1 := ⟨_, rfl⟩
      obtain ⟨g0, hg0⟩ : ∃ g, g = w.heap.size := ⟨_, rfl⟩
      rw [← hgx] at x2
      rw [← hg0] at x0
      rw [← hgx, ← hg1, ← hg0]
      have HB := hid bB
      have X0 := hid x0
      have X2 := hid x2
      clear hgx hg1 hg0 bB x0 x2 c1' j1' j2' j3' j4' HBA
      go_loopw [12] (fun i wr => ∃ m : Nat, m ≤ sn ∧ i = .int .i64 m ∧ Hid (((atomsL ns ord 0).take m).find? (sameAt ns ord ⟨dk, dn, dt, dl⟩) = none ∧ Below W2.heap.size W2 wr)) (fun i _ => sn - (intOf i).toNat)
      case atStart => exact ⟨0, Nat.zero_le _, rfl, rfl, Below.refl _ _⟩
      case round =>
        obtain ⟨m, hmn, rfl, hI⟩ := hrel
        obtain ⟨hf, hb⟩ := hI.out
        have HF := hid hf
        have HBR := hid hb
        clear hf hI
        by_cases hlm : m < sn
        · obtain ⟨bs, os', rfl, hls, hcs⟩ := HM.out.atoms.some (by omega)
          have hml : m < (atomsL ns ord 0).length := by have := HSL.out; omega
          obtain ⟨z, hz⟩ : ∃ z, z = (atomsL ns ord 0).getD m 0 := ⟨_, rfl⟩
          have hzr := atomsL_rng ns ord 0 z (by rw [hz, List.getD_eq_getElem?_getD, List.getElem?_eq_getElem hml]; exact List.getElem_mem hml)
          obtain ⟨kn, rfl⟩ := Int.eq_ofNat_of_zero_le (by omega : 0 ≤ z)
          have hkn : kn < on := by have := HOL.out; omega
          have HZ := hid hz
          obtain ⟨bo, oo, rfl, hlo, hco⟩ := HM.out.out.some (by omega)
          have bW : Below w.heap.size w wr := Bt HB.out hb
          have cz0 : wr.cell? ⟨bs, os' + m, none⟩ = some (.int .i64 (kn : Int)) := by rw [hz]; exact (bW.cell (p := ⟨bs, os' + m, none⟩) hls).trans (hcs m hlm)
          have hnd := (hco kn hkn).below hlo bW
          have hos := HM.out.osame kn (by have := HOL.out; omega)
          obtain ⟨e, he⟩ : ∃ e, e = os.getD kn default := ⟨_, rfl⟩
          rw [← he] at hnd hos
          obtain ⟨i1, i2, i3, ae, ne, ce, i4, _⟩ := hnd
          obtain ⟨ek, en, et, el⟩ := e
          simp only [] at i1 i2 i3
          have hP : Hid (sameAt ns ord ⟨dk, dn, dt, dl⟩ ((atomsL ns ord 0).getD m 0) = decide (ek = dk ∧ en = dn ∧ et = dt)) := by
            unfold Hid sameAt
            rw [← hz, Int.toNat_natCast]
            exact decide_sameA hos.symm (sameA.rfl' _)
          obtain ⟨y0, y1⟩ := (GBox.on (t := 25) (p := g0) X0.out hb).c
          have X2r := (hb.block gx (Array.getElem?_eq_some_iff.1 X2.out).1).trans X2.out
          have y2 : wr.cell? ⟨gx, 0, none⟩ = some (.int .i64 dk) := blk_cell X2r 0
          have y3 : wr.cell? ⟨gx, 1, none⟩ = some (.int .i64 dn) := blk_cell X2r 1
          have y4 : wr.cell? ⟨gx, 2, none⟩ = some (.string dt) := blk_cell X2r 2
          clear hz hcs hco he hos hb bW X2r hzr
          by_cases hne : ek = dk
          · subst hne
            by_cases hne : en = dn
            · subst hne
              by_cases hne : et = dt
              · subst hne
                have e1 : (ek == ek) = true := by simp
                have e2 : (en == en) = true := by simp
                have e3 : (et.toList == et.toList) = true := by simp
                go_wp2_with fail
                go_quiet (fail)
                have HBQ := hid (Bt HBR.out (Bd wr nq))
                go_wp2
                go_ret
                refine ⟨?_, Bt HB.out HBQ.out⟩
                have h1 := (find_take hml HF.out).1 (by rw [hP.out]; simp)
                rw [← HZ.out] at h1
                rw [rmetS_some HNS.out (by rw [← HD.out]; exact h1)]; rfl
              · have e1 : (ek == ek) = true := by simp
                have e2 : (en == en) = true := by simp
                have e3 : (et.toList == dt.toList) = false := by rw [str_eq]; simp [hne]
                go_wp2_with fail
                go_quiet (fail)
                have HBQ := hid (Bt HBR.out (Bd wr nq))
                go_wp2
                refine ⟨⟨m + 1, by omega, by go_num, (find_take hml HF.out).2 (by rw [hP.out]; simp [hne]), HBQ.out⟩, by simp [intOf] <;> omega⟩
            · have e1 : (ek == ek) = true := by simp
              have e2 : (en == dn) = false := by simp [hne]
              go_wp2_with fail
              go_quiet (fail)
              have HBQ := hid (Bt HBR.out (Bd wr nq))
              go_wp2
              refine ⟨⟨m + 1, by omega, by go_num, (find_take hml HF.out).2 (by rw [hP.out]; simp [hne]), HBQ.out⟩, by simp [intOf] <;> omega⟩
          · have e1 : (ek == dk) = false := by simp [hne]
            go_wp2_with fail
            go_quiet (fail)
            have HBQ := hid (Bt HBR.out (Bd wr nq))
            go_wp2
            refine ⟨⟨m + 1, by omega, by go_num, (find_take hml HF.out).2 (by rw [hP.out]; simp [hne]), HBQ.out⟩, by simp [intOf] <;> omega⟩
        · obtain rfl : sn = m := by omega
          go_wp2
          go_ret
          refine ⟨?_, Bt HB.out HBR.out⟩
          have h1 := HF.out
          rw [List.take_of_length_le (by have := HSL.out; omega)] at h1
          rw [rmetS_none HNS.out (by rw [← HD.out]; exact h1)]; rfl
end Go.Proofs.YtfkdpomhojhapaaDoor
