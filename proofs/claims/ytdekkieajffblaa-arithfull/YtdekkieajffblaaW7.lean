/-
  Walks, of the document's answer: whole, From.
-/
import Derived.Test.YtdekkieajffblaaW6
import Derived.Test.YtdekkieajffblaaMath2
set_option linter.unusedVariables false
set_option linter.unusedSimpArgs false
namespace Go.Proofs.Ytdekkieajffblaa
open Go.RowKit

theorem blk_on {w w2 : World} {o : Obj} {p : Nat} {c : Array Value} {t : TypeId} (h : w.heap[p]? = some (.cells c t (0, 0))) (hb : Below (p + 1) (w.alloc o) w2) : w2.heap[p]? = some (.cells c t (0, 0)) :=
  (hb.block p (by omega)).trans ((Below.heap_alloc w o p (Array.getElem?_eq_some_iff.1 h).1).trans h)

set_option maxHeartbeats 2000000 in
theorem rwhole_any (neg : Bool) (ao : Option Addr) (n cap : Nat) (b : List Nat) (w : World) (R : Row .u8 256 w ao n cap b) (hs : n ≤ 1000) :
    Calls Try.prog 40 #[.bool neg, .slice ao n cap] w fun e w' => ∃ x en, e = .returned (.tuple #[x, .int .i64 en]) ∧ Ans w' x en neg (val 256 b) ∧ Below w.heap.size w w' := by
  have HR := hid R
  clear R
  go_enter Try.func40, Try.ntmps40
  go_wp2_with fail
  refine (rtrim_any ao n cap b _ (HR.out.below (Ba _ _)) hs).mono ?_
  rintro e w1 ⟨m, ao1, cap1, hm, rfl, hO, ht, hv, hb1⟩
  have hd0 : w1.heap[w.heap.size]? = some (.cells #[.bool false, .slice none 0 0] 24 (0, 0)) := (hb1.block w.heap.size (by simp)).trans (blk_new _ _ _)
  have hlen := hO.row.len
  generalize b.take m = r at *
  have hcap1 := hO.row.fits
  have hmax1 := hO.row.most
  unfold maxLen at hmax1
  have HO := hid hO
  have HT := hid ht
  have HV := hid hv
  have HB := hid (Bt (Ba w (.cells #[.bool false, .slice none 0 0] 24)) hb1)
  have HL := hid hlen
  have HD0 := hid hd0
  have hsz : w.heap.size < w1.heap.size := (Array.getElem?_eq_some_iff.1 hd0).1
  clear hO ht hv hb1 hlen hd0 HR
  obtain ⟨sg, hsg⟩ : ∃ sg, sg = (neg && decide (0 < m)) := ⟨_, rfl⟩
  have HSG := hid hsg
  clear hsg
  cases neg
  all_goals
    go_wp2
    go_loopw [7, 8, 9] (fun i _ _ wr => ∃ j : Nat, ∃ v, i = .int .i64 ((4 * j : Nat) : Int) ∧ 4 * j ≤ m + 3 ∧ Hid (wr.heap[w1.heap.size]? = some (.cells #[.bool sg, v] 24 (0, 0)) ∧ wr.ownsRow (w1.heap.size + 1) 62 1 v j (cs .u32 (lws r j)) ∧ Below w1.heap.size w1 wr)) (fun i _ _ _ => m + 3 - (intOf i).toNat)
    case atStart =>
      refine ⟨0, .slice none 0 0, rfl, by omega, ?_, ?_, Ba _ _⟩
      · rw [HSG.out]; exact blk_new _ _ _
      · simpa [lws, cs] using World.ownsRow_nil _ _ _ _
    case round =>
      obtain ⟨j, v, rfl, hj, hH⟩ := hrel
      obtain ⟨h1, h2, h3⟩ := hH.out
      have hc0 := blk_cell h1 0
      have hc1 := blk_cell h1 1
      have hf1 := blk_free h1 1
      simp at hc0 hc1
      have hz1 : w1.heap.size < wr.heap.size := (Array.getElem?_eq_some_iff.1 h1).1
      have HZ1 := hid hz1
      have H2 := hid h2
      have H3 := hid h3
      have H1 := hid h1
      clear h1 h2 h3 hH hz1
      by_cases hlt : 4 * j < m
      · obtain ⟨bb, o, rfl, hl, hcl⟩ := HO.out.row.rd.some (by rw [HL.out]; omega)
        have HCL : Hid (∀ i, i < m → wr.cell? ⟨bb, o + i, none⟩ = some (.int .u8 (r.getD i 0 : Nat))) := fun i hi => (H3.out.cell (p := ⟨bb, o + i, none⟩) hl).trans (hcl i (by rw [HL.out]; exact hi))
        clear hcl
        go_wp2
        go_loop [8, 9] (fun a k => ∃ q acc : Nat, q ≤ 4 ∧ 4 * j + q ≤ m ∧ k = .int .i64 q ∧ a = .int .u32 acc ∧ Hid (acc = val 256 ((r.drop (4 * j)).take q))) (fun _ k => 4 - (intOf k).toNat)
        case atStart => exact ⟨0, 0, by omega, by omega, rfl, rfl, rfl⟩
        case round =>
          obtain ⟨q, acc, hq, hqm, rfl, rfl, hacc⟩ := hrel
          have hlim : acc < 256 ^ q := by rw [hacc.out]; exact acc_lt HO.out.row.dg j q
          by_cases hgo : q < 4 ∧ 4 * j + q < m
          · obtain ⟨hq4, hqlt⟩ := hgo
            have hcd := HCL.out (4 * j + q) hqlt
            obtain ⟨d, hd⟩ : ∃ d, d = r.getD (4 * j + q) 0 := ⟨_, rfl⟩
            have hdb : d < 256 := by rw [hd]; exact HO.out.row.dg.getD _ (by rw [HL.out]; exact hqlt)
            rw [← hd] at hcd
            have HS : Hid (val 256 ((r.drop (4 * j)).take (q + 1)) = acc + 256 ^ q * d) := by
              unfold Hid; rw [acc_step r j q (by rw [HL.out]; exact hqlt), ← hacc.out, ← hd]
            clear hd hacc
            have hq' : q = 0 ∨ q = 1 ∨ q = 2 ∨ q = 3 := by omega
            rcases hq' with rfl | rfl | rfl | rfl
            · obtain rfl : acc = 0 := by simp at hlim; exact hlim
              have hor := or_u32_0 d hdb
              simp only [Nat.add_zero] at hcd
              clear hlim
              go_wp2
              exact ⟨⟨1, d, by omega, by omega, rfl, rfl, by unfold Hid; rw [HS.out]; omega⟩, by simp [intOf]⟩
            · have hor := or_u32_8 acc d (by omega) hdb
              obtain ⟨A, hA⟩ : ∃ A, A = acc + 256 * d := ⟨_, rfl⟩
              rw [← hA] at hor
              have HA := hid hA
              clear hlim hA
              go_wp2
              exact ⟨⟨2, A, by omega, by omega, rfl, rfl, by unfold Hid; rw [HS.out, HA.out]⟩, by simp [intOf]⟩
            · have hor := or_u32_16 acc d (by omega) hdb
              obtain ⟨A, hA⟩ : ∃ A, A = acc + 65536 * d := ⟨_, rfl⟩
              rw [← hA] at hor
              have HA := hid hA
              clear hlim hA
              go_wp2
              exact ⟨⟨3, A, by omega, by omega, rfl, rfl, by unfold Hid; rw [HS.out, HA.out]⟩, by simp [intOf]⟩
            · have hor := or_u32_24 acc d (by omega) hdb
              obtain ⟨A, hA⟩ : ∃ A, A = acc + 16777216 * d := ⟨_, rfl⟩
              rw [← hA] at hor
              have HA := hid hA
              clear hlim hA
              go_wp2
              exact ⟨⟨4, A, by omega, by omega, rfl, rfl, by unfold Hid; rw [HS.out, HA.out]⟩, by simp [intOf]⟩
          · have HLW : Hid (acc = lw r j) := by
              unfold Hid lw; rw [hacc.out]
              by_cases h4 : q = 4
              · rw [h4]
              · have hqe : 4 * j + q = m := by omega
                rw [List.take_of_length_le (l := r.drop (4 * j)) (i := q) (by rw [List.length_drop, HL.out]; omega), List.take_of_length_le (l := r.drop (4 * j)) (i := 4) (by rw [List.length_drop, HL.out]; omega)]
            have hgo' : q = 4 ∨ q < 4 ∧ 4 * j + q = m := by omega
            have hacb : acc < 4294967296 := by rw [HLW.out]; exact lw_lt HO.out.row.dg j
            clear hacc hlim hgo
            rcases hgo' with rfl | ⟨hq4, hqe⟩
            all_goals
              go_wp2_with (at_builtin; refine app1 rfl _ _ 22 rfl (w1.heap.size + 1) 62 .u32 4 (by decide) Try.underlying22 info_u32 _ _ _ rfl (H2.out.alloc _) ⟨wr.heap.size, 0, none⟩ 1 acc rfl (cell_new _ _ _) (by omega) (by have := HZ1.out; simp; omega) ?_; intro g cap' w2 hown hbel; have hk := blk_on H1.out hbel; have hk1 : w2.cell? ⟨w1.heap.size, 1, none⟩ = some v := blk_cell hk 1; have hkf := blk_free hk 1; have HK := hid hk; have HW := hid hown; have HE := hid hbel; clear hk hown hbel)
              refine ⟨⟨j + 1, .slice (some ⟨g, 0, none⟩) (j + 1) cap', by go_num, by omega, blk_set HK.out _, ?_, ?_⟩, by simp [intOf]; omega⟩
              · rw [lws_succ, ← HLW.out]; exact ownsRow_setCell_below HW.out (by simp) _
              · exact ((H3.out.alloc (by have := HZ1.out; omega) _).trans (HE.out.mono (by omega))).setCell (Nat.le_refl _) _
      · have hjm : m ≤ 4 * j := by omega
        obtain ⟨ao2, cap2, hu, hO2⟩ := own_of H2.out (lws_dg HO.out.row.dg j)
        subst hu
        have HV2 : Hid (val B32 (lws r j) = val 256 b) := by
          unfold Hid; rw [lws_val r j (by rw [HL.out]; exact hj), List.take_of_length_le (by rw [HL.out]; exact hjm), HV.out]
        have HT2 := hid (lws_tr HT.out j (by rw [HL.out]; exact hjm) (by rw [HL.out]; exact hj))
        have HO2 := hid hO2
        have HSG2 : Hid (decide (0 < m) = decide (lws r j ≠ [])) := by
          unfold Hid
          rw [decide_eq_decide, ← List.length_pos_iff, lws_length]
          omega
        have hbnd := hO2.row.most
        have hft2 := hO2.row.fits
        unfold maxLen at hbnd
        have hd0 : wr.heap[w.heap.size]? = some (.cells #[.bool false, .slice none 0 0] 24 (0, 0)) := (H3.out.block _ hsz).trans HD0.out
        have hq0 := blk_cell hd0 0
        have hq1 := blk_cell hd0 1
        have hqf0 := blk_free hd0 0
        have hqf1 := blk_free hd0 1
        simp at hq0 hq1
        have HQ := hid hd0
        clear hd0 hO2
        have HB3 := hid (HB.out.trans (H3.out.mono (Nat.le_of_lt hsz)))
        by_cases h40 : j ≤ 40
        · have e40 : decide ((40 : Int) < j) = false := by simp; omega
          go_wp2
          refine bodyPost_ret (v := .tuple #[.agg #[.bool sg, .slice ao2 j cap2], .int .i64 0]) (by simp [results, Try.results40, go_sem, hq0, hq1]) rfl ⟨_, _, rfl, .inl ⟨?_, rfl, lws r j, ⟨ao2, j, cap2, ?_, ((HO2.out.setFar (p := ⟨w.heap.size, 0, none⟩) (by simp; omega) _).setFar (p := ⟨w.heap.size, 1, none⟩) (by simp; omega) _).row⟩, HT2.out, HV2.out⟩, (HB3.out.setCell (Nat.le_refl _) _).setCell (Nat.le_refl _) _⟩
          · rw [← HV2.out, ← small_len (lws_dg HO.out.row.dg j) HT2.out, lws_length]; exact h40
          · rw [HSG.out, HSG2.out]
        · have e40 : decide ((40 : Int) < j) = true := by simp; omega
          go_wp2
          refine bodyPost_ret (v := .tuple #[.agg #[.bool false, .slice none 0 0], .int .i64 10]) (by simp [results, Try.results40, go_sem, hq0, hq1]) rfl ⟨_, _, rfl, .inr ⟨?_, rfl, rfl⟩, (HB3.out.setCell (Nat.le_refl _) _).setCell (Nat.le_refl _) _⟩
          have := (small_len (lws_dg HO.out.row.dg j) HT2.out)
          rw [lws_length, HV2.out] at this
          exact Classical.byContradiction fun h => h40 (this.2 h)

end Go.Proofs.Ytdekkieajffblaa
