/-
  Walks: renumbered.
-/
import Derived.Test.YtfkdpomhojhapaaDoorG17
set_option linter.unusedVariables false
set_option linter.unusedSimpArgs false
namespace Go.Proofs.YtfkdpomhojhapaaDoor
open Go.RowKit

/-- New places of old ones. -/
def renum (pl l : List Int) : List Int := l.map fun o => pl.getD o.toNat 0
/-- What owns numbers is a row of them. -/
theorem irow_of {w : World} {base : Nat} {v : Value} {n : Nat} {l : List Int} (h : w.ownsRow base 3 1 v n (cz l)) (hb : ∀ z ∈ l, I64 z) : ∃ ao cap, v = .slice ao n cap ∧ IRow w ao n cap l := by
  have hn : l.length = n := by have := h.1; rw [cz_length] at this; omega
  rcases h.2 with ⟨rfl, h0⟩ | ⟨g, cap, cur, rfl, hbs, hg, hle, hm, hsz, htk⟩
  · subst h0
    have : l = [] := List.length_eq_zero_iff.1 hn
    subst this
    exact ⟨none, 0, rfl, IRow.nil _ _⟩
  · refine ⟨some ⟨g, 0, none⟩, cap, rfl, hn, hle, hm, fun h => (by cases h), hb, .inr ⟨g, 0, rfl, (Array.getElem?_eq_some_iff.1 hg).1, fun i hi => ?_⟩⟩
    rw [Nat.zero_add]
    exact owns_cell (base := base) (n := n) (cap := cap) ⟨h.1, .inr ⟨g, cap, cur, rfl, hbs, hg, hle, hm, hsz, htk⟩⟩ hi

set_option maxHeartbeats 2000000 in
theorem renumbered_any (base : Nat) (w0 w : World) (B0 gp Bm : Nat) (an : Option Addr) (nn cn : Nat) (ar : Option Addr) (nr cr : Nat) (pl ord : List Int) (vo : Value) (W : WCore base w0 w B0 gp Bm an nn cn ar nr cr pl ord vo)
    (ao : Option Addr) (n cap : Nat) (l : List Int) (R : IRow w ao n cap l) (hr : ∀ z ∈ l, 0 ≤ z ∧ z < nn) (hn : n ≤ 1000) (hnn : nn ≤ 1000) :
    Calls Tryd.prog 37 #[.pointer (some ⟨B0, 0, none⟩), .slice ao n cap] w fun e w' => ∃ v, e = .returned v ∧ w'.ownsRow w.heap.size 3 1 v n (cz (renum pl l)) ∧ Below w.heap.size w w' := by
  have HW := hid W
  have HR := hid R
  have HRN := hid hr
  have hf := R.fits
  have hm := R.most
  unfold maxLen at hm
  clear W R hr
  go_enter Tryd.func37, Tryd.ntmps37
  go_wp2_with fail
  go_loopw [5, 10] (fun v i wr => ∃ m : Nat, m ≤ n ∧ i = .int .i64 m ∧ Hid (wr.ownsRow w.heap.size 3 1 v m (cz (renum pl (l.take m))) ∧ Below w.heap.size w wr)) (fun _ i _ => n - (intOf i).toNat)
  case atStart => exact ⟨0, Nat.zero_le _, rfl, by simpa [renum, cz] using World.ownsRow_nil _ _ _ _, Below.refl _ _⟩
  case round =>
    obtain ⟨m, hmn, rfl, hI⟩ := hrel
    have hbw := hI.out.2
    by_cases hlt : m < n
    · obtain ⟨b, o, rfl, hl, hc⟩ := HR.out.some (by omega)
      have hml : m < l.length := by rw [HR.out.len]; exact hlt
      obtain ⟨z, hz⟩ : ∃ z, z = l.getD m 0 := ⟨_, rfl⟩
      have hzr : 0 ≤ z ∧ z < nn := HRN.out z (by rw [hz, List.getD_eq_getElem?_getD, List.getElem?_eq_getElem hml]; exact List.getElem_mem hml)
      obtain ⟨zn, rfl⟩ := Int.eq_ofNat_of_zero_le hzr.1
      have hzn : zn < nn := by omega
      have hc1 : wr.cell? ⟨b, o + m, none⟩ = some (.int .i64 (zn : Int)) := by
        rw [hz]; exact (hbw.cell (p := ⟨b, o + m, none⟩) hl).trans (hc m hlt)
      have hw := HW.out.on hbw
      have c2 : wr.cell? ⟨B0, 2, none⟩ = some (.slice (some ⟨gp, 0, none⟩) nn nn) := blk_cell hw.box 2
      have cp : wr.cell? ⟨gp, zn, none⟩ = some (.int .i64 (pl.getD zn 0)) := hw.places.cell (by rw [hw.plen]; exact hzn)
      obtain ⟨pv, hpv⟩ : ∃ pv, pv = pl.getD zn 0 := ⟨_, rfl⟩
      rw [← hpv] at cp
      have hst : Hid (renum pl (l.take (m + 1)) = renum pl (l.take m) ++ [pv]) := by
        unfold Hid renum
        rw [List.take_succ_eq_append_getElem hml, List.map_append]
        congr 1
        simp only [List.map_cons, List.map_nil]
        have : l[m] = (zn : Int) := by rw [hz, List.getD_eq_getElem?_getD, List.getElem?_eq_getElem hml]; rfl
        rw [this, hpv]; simp
      have HOA : Hid (∀ ox, (wr.alloc ox).ownsRow w.heap.size 3 1 u5 m (cz (renum pl (l.take m)))) := fun ox => hI.out.1.alloc ox
      have HBW := hid hbw
      have hsz : Hid (w.heap.size ≤ wr.heap.size) := hbw.size
      have HOW := hid hI.out.1
      clear hc hz hpv hw hbw hI
      go_wp2_with (at_builtin; refine appz rfl _ _ 23 rfl w.heap.size 3 Tryd.underlying23 info_int _ _ (renum pl (l.take m)) rfl (HOA.out _) ⟨wr.heap.size, 0, none⟩ 1 pv rfl ?c0 (by omega) (by have := hsz.out; simp; omega) ?_; rotate_right; intro g2 cap2 w4 hown hgrow hloc hglt)
      case c0 => exact cell_new wr (.int .i64 pv) 3
      rw [← hst.out] at hown
      have hb2 : Below w.heap.size (wr.alloc (.cells #[.int .i64 pv] 3)) w4 := (Below.refl _ _).grown hgrow (by have := hsz.out; rw [size_alloc]; omega) (fun k hk => (HOW.out.lt k hk).1)
      exact ⟨⟨m + 1, by omega, by go_num, hown, ((HBW.out.trans ((Ba wr _).mono hsz.out)).trans hb2)⟩, by simp [intOf] <;> omega⟩
    · obtain rfl : m = n := by omega
      obtain ⟨h1, h2⟩ := hI.out
      rw [List.take_of_length_le (by rw [HR.out.len]; omega)] at h1
      have H1 := hid h1
      have H2 := hid h2
      clear h1 h2 hI hbw
      go_wp2_with fail
      go_ret
      exact ⟨_, rfl, H1.out, H2.out⟩

end Go.Proofs.YtfkdpomhojhapaaDoor
