import Derived.Test.YtdekkieajffblaaGreatDoorW6
import Derived.Test.YtdekkieajffblaaGreatDoorX0
import Derived.Test.YtdekkieajffblaaGreatDoorApp
import Derived.Test.YtdekkieajffblaaGreatDoorOnto
set_option linter.unusedVariables false
set_option linter.unusedSimpArgs false
namespace Go.Proofs.YtdekkieajffblaaGreatDoor
open Go.RowKit
theorem blk_on {w w2 : World} {o : Obj} {p : Nat} {c : Array Value} {t : TypeId} (h : w.heap[p]? = some (.cells c t (0, 0))) (hb : Below (p + 1) (w.alloc o) w2) : w2.heap[p]? = some (.cells c t (0, 0)) :=
 (hb.block p (by omega)).trans ((Below.heap_alloc w o p (Array.getElem?_eq_some_iff.1 h).1).trans h)
set_option maxHeartbeats 2000000 in
theorem rwhole_any (neg : Bool) (ao : Option Addr) (n cap : Nat) (b : List Nat) (w : World) (R : Row .u8 256 w ao n cap b) (hs : n <= 1000) :
  Calls Tryz.prog 25 #[.bool neg, .slice ao n cap] w fun e w' => ∃ x en, e = .returned (.tuple #[x, .int .i64 en]) /\ Ans w' x en neg (val 256 b) /\ Below w.heap.size w w' := by
 have HR := hid R
 clear R
 go_enter Tryz.func25, Tryz.ntmps25
 go_wp2_with fail
 refine (rtrim_any ao n cap b _ (HR.out.below (Ba _ _)) hs).mono ?_
 rintro e w1 ⟨m, ao1, cap1, hm, rfl, hO, ht, hv, hb1⟩
 have hd0 : w1.heap[w.heap.size]? = some (.cells #[.bool false, .slice none 0 0] 24 (0, 0)) := (hb1.block w.heap.size (by simp)).trans (blk_new _ _ _)
 have hlen := hO.row.len
 generalize b.take m = r at *
 have hcap1 := hO.row.fits
 have hmax1 := hO.row.most
 unfold maxLen at hmax1
 have HO := hid hO
 have HT := hid ht
 have HV := hid hv
 have HB := hid (Bt (Ba w (.cells #[.bool false, .slice none 0 0] 24)) hb1)
 have HL := hid hlen
 have HD0 := hid hd0
 have hsz : w.heap.size < w1.heap.size := (Array.getElem?_eq_some_iff.1 hd0).1
 clear hO ht hv hb1 hlen hd0 HR
 obtain ⟨sg, hsg⟩ : ∃ sg, sg = (neg && decide (0 < m)) := ⟨_, rfl⟩
 have HSG := hid hsg
 clear hsg
 cases neg
 all_goals
  go_wp2
  go_loopw [7, 8, 9] (fun i _ _ wr => ∃ j : Nat, ∃ v, i = .int .i64 ((4 * j : Nat) : Int) /\ 4 * j <= m + 3 /\ Hid (wr.heap[w1.heap.size]? = some (.cells #[.bool sg, v] 24 (0, 0)) /\ wr.ownsRow (w1.heap.size + 1) 58 1 v j (cs .u32 (lws r j)) /\ Below w1.heap.size w1 wr)) (fun i _ _ _ => m + 3 - (intOf i).toNat)
  case atStart =>
   refine ⟨0, .slice none 0 0, rfl, by omega, ?_, ?_, Ba _ _⟩
   ·rw [HSG.out]; exact blk_new _ _ _
   ·simpa [lws, cs] using World.ownsRow_nil _ _ _ _
  case round =>
   obtain ⟨j, v, rfl, hj, hH⟩ := hrel
   obtain ⟨h1, h2, h3⟩ := hH.out
   have hc0 := blk_cell h1 0
   have hc1 := blk_cell h1 1
   have hf1 := blk_free h1 1
   simp at hc0 hc1
   have hz1 : w1.heap.size < wr.heap.size := (Array.getElem?_eq_some_iff.1 h1).1
   have HZ1 := hid hz1
   have H2 := hid h2
   have H3 := hid h3
   have H1 := hid h1
   clear h1 h2 h3 hH hz1
   by_cases hlt : 4 * j < m
   ·obtain ⟨bb, o, rfl, hl, hcl⟩ := HO.out.row.rd.some (by rw [HL.out]; omega)
    have HCL : Hid (∀ i, i < m -> wr.cell? ⟨bb, o + i, none⟩ = some (.int .u8 (r.getD i 0 : Nat))) := fun i hi => (H3.out.cell (p := ⟨bb, o + i, none⟩) hl).trans (hcl i (by rw [HL.out]; exact hi))
    clear hcl
    go_wp2
    go_loop [8, 9] (fun a k => ∃ q acc : Nat, q <= 4 /\ 4 * j + q <= m /\ k = .int .i64 q /\ a = .int .u32 acc /\ Hid (acc = val 256 ((r.drop (4 * j)).take q))) (fun _ k => 4 - (intOf k).toNat)
    case atStart => exact ⟨0, 0, by omega, by omega, rfl, rfl, rfl⟩
    case round =>
     obtain ⟨q, acc, hq, hqm, rfl, rfl, hacc⟩ := hrel
     have hlim : acc < 256 ^ q := by rw [hacc.out]; exact acc_lt HO.out.row.dg j q
     by_cases hgo : q < 4 /\ 4 * j + q < m
     ·obtain ⟨hq4, hqlt⟩ := hgo
      have hcd := HCL.out (4 * j + q) hqlt
      obtain ⟨d, hd⟩ : ∃ d, d = r.getD (4 * j + q) 0 := ⟨_, rfl⟩
      have hdb : d < 256 := by rw [hd]; exact HO.out.row.dg.getD _ (by rw [HL.out]; exact hqlt)
      rw [<- hd] at hcd
      have HS : Hid (val 256 ((r.drop (4 * j)).take (q + 1)) = acc + 256 ^ q * d) := by
       unfold Hid; rw [acc_step r j q (by rw [HL.out]; exact hqlt), <- hacc.out, <- hd]
      clear hd hacc
      have hq' : q = 0 \/ q = 1 \/ q = 2 \/ q = 3 := by omega
      rcases hq' with rfl | rfl | rfl | rfl
      ·obtain rfl : acc = 0 := by simp at hlim; exact hlim
       have hor := or_u32_0 d hdb
       simp only [Nat.add_zero] at hcd
       clear hlim
       go_wp2
       exact ⟨⟨1, d, by omega, by omega, rfl, rfl, by unfold Hid; rw [HS.out]; omega⟩, by simp [intOf]⟩
      ·have hor := or_u32_8 acc d (by omega) hdb
       obtain ⟨A, hA⟩ : ∃ A, A = acc + 256 * d := ⟨_, rfl⟩
       rw [<- hA] at hor
       have HA := hid hA
       clear hlim hA
       go_wp2
       exact ⟨⟨2, A, by omega, by omega, rfl, rfl, by unfold Hid; rw [HS.out, HA.out]⟩, by simp [intOf]⟩
      ·have hor := or_u32_16 acc d (by omega) hdb
       obtain ⟨A, hA⟩ : ∃ A, A = acc + 65536 * d := ⟨_, rfl⟩
       rw [<- hA] at hor
       have HA := hid hA
       clear hlim hA
       go_wp2
       exact ⟨⟨3, A, by omega, by omega, rfl, rfl, by unfold Hid; rw [HS.out, HA.out]⟩, by simp [intOf]⟩
      ·have hor := or_u32_24 acc d (by omega) hdb
       obtain ⟨A, hA⟩ : ∃ A, A = acc + 16777216 * d := ⟨_, rfl⟩
       rw [<- hA] at hor
       have HA := hid hA
       clear hlim hA
       go_wp2
       exact ⟨⟨4, A, by omega, by omega, rfl, rfl, by unfold Hid; rw [HS.out, HA.out]⟩, by simp [intOf]⟩
     ·have HLW : Hid (acc = lw r j) := by
       unfold Hid lw; rw [hacc.out]
       by_cases h4 : q = 4
       ·rw [h4]
       ·have hqe : 4 * j + q = m := by omega
        rw [List.take_of_length_le (l := r.drop (4 * j)) (i := q) (by rw [List.length_drop, HL.out]; omega), List.take_of_length_le (l := r.drop (4 * j)) (i := 4) (by rw [List.length_drop, HL.out]; omega)]
      have hgo' : q = 4 \/ q < 4 /\ 4 * j + q = m := by omega
      have hacb : acc < 4294967296 := by rw [HLW.out]; exact lw_lt HO.out.row.dg j
      clear hacc hlim hgo
      rcases hgo' with rfl | ⟨hq4, hqe⟩
      all_goals
       go_wp2_with (at_builtin; refine app1 rfl _ _ 22 rfl (w1.heap.size + 1) 58 .u32 4 (by decide) Tryz.underlying22 info_u32 _ _ _ rfl (H2.out.alloc _) ⟨wr.heap.size, 0, none⟩ 1 acc rfl (cell_new _ _ _) (by omega) (by have := HZ1.out; simp; omega) ?_; intro g cap' w2 hown hbel; have hk := blk_on H1.out hbel; have hk1 : w2.cell? ⟨w1.heap.size, 1, none⟩ = some v := blk_cell hk 1; have hkf := blk_free hk 1; have HK := hid hk; have HW := hid hown; have HE := hid hbel; clear hk hown hbel)
       refine ⟨⟨j + 1, .slice (some ⟨g, 0, none⟩) (j + 1) cap', by go_num, by omega, blk_set HK.out _, ?_, ?_⟩, by simp [intOf]; omega⟩
       ·rw [lws_succ, <- HLW.out]; exact ownsRow_setCell_below HW.out (by simp) _
       ·exact ((H3.out.alloc (by have := HZ1.out; omega) _).trans (HE.out.mono (by omega))).setCell (Nat.le_refl _) _
   ·have hjm : m <= 4 * j := by omega
    obtain ⟨ao2, cap2, hu, hO2⟩ := own_of H2.out (lws_dg HO.out.row.dg j)
    subst hu
    have HV2 : Hid (val B32 (lws r j) = val 256 b) := by
     unfold Hid; rw [lws_val r j (by rw [HL.out]; exact hj), List.take_of_length_le (by rw [HL.out]; exact hjm), HV.out]
    have HT2 := hid (lws_tr HT.out j (by rw [HL.out]; exact hjm) (by rw [HL.out]; exact hj))
    have HO2 := hid hO2
    have HSG2 : Hid (decide (0 < m) = decide (lws r j ≠ [])) := by
     unfold Hid
     rw [decide_eq_decide, <- List.length_pos_iff, lws_length]
     omega
    have hbnd := hO2.row.most
    have hft2 := hO2.row.fits
    unfold maxLen at hbnd
    have hd0 : wr.heap[w.heap.size]? = some (.cells #[.bool false, .slice none 0 0] 24 (0, 0)) := (H3.out.block _ hsz).trans HD0.out
    have hq0 := blk_cell hd0 0
    have hq1 := blk_cell hd0 1
    have hqf0 := blk_free hd0 0
    have hqf1 := blk_free hd0 1
    simp at hq0 hq1
    have HQ := hid hd0
    clear hd0 hO2
    have HB3 := hid (HB.out.trans (H3.out.mono (Nat.le_of_lt hsz)))
    by_cases h40 : j <= 40
    ·have e40 : decide ((40 : Int) < j) = false := by simp; omega
     go_wp2
     refine bodyPost_ret (v := .tuple #[.agg #[.bool sg, .slice ao2 j cap2], .int .i64 0]) (by simp [results, Tryz.results25, go_sem, hq0, hq1]) rfl ⟨_, _, rfl, .inl ⟨?_, rfl, lws r j, ⟨ao2, j, cap2, ?_, ((HO2.out.setFar (p := ⟨w.heap.size, 0, none⟩) (by simp; omega) _).setFar (p := ⟨w.heap.size, 1, none⟩) (by simp; omega) _).row⟩, HT2.out, HV2.out⟩, (HB3.out.setCell (Nat.le_refl _) _).setCell (Nat.le_refl _) _⟩
     ·rw [<- HV2.out, <- small_len (lws_dg HO.out.row.dg j) HT2.out, lws_length]; exact h40
     ·rw [HSG.out, HSG2.out]
    ·have e40 : decide ((40 : Int) < j) = true := by simp; omega
     go_wp2
     refine bodyPost_ret (v := .tuple #[.agg #[.bool false, .slice none 0 0], .int .i64 10]) (by simp [results, Tryz.results25, go_sem, hq0, hq1]) rfl ⟨_, _, rfl, .inr ⟨?_, rfl, rfl⟩, (HB3.out.setCell (Nat.le_refl _) _).setCell (Nat.le_refl _) _⟩
     have := (small_len (lws_dg HO.out.row.dg j) HT2.out)
     rw [lws_length, HV2.out] at this
     exact Classical.byContradiction fun h => h40 (this.2 h)
def b8 (d : Nat) : List Nat := [d % 256, d / 256 % 256, d / 65536 % 256, d / 16777216 % 256, d / 4294967296 % 256, d / 1099511627776 % 256, d / 281474976710656 % 256, d / 72057594037927936 % 256]
theorem b8_val (d : Nat) (h : d < 18446744073709551616) : val 256 (b8 d) = d := by
 simp only [b8, val]; omega
theorem b8_dg (d : Nat) : Dg 256 (b8 d) := by
 intro x hx
 simp only [b8, List.mem_cons, List.not_mem_nil, or_false] at hx
 omega
theorem not_big_64 (d : Nat) (h : d < 18446744073709551616) : ¬ Big d := by
 unfold Big
 have h1 : B32 ^ 2 <= B32 ^ 40 := Nat.pow_le_pow_right (by decide) (by decide)
 have h2 : B32 ^ 2 = 18446744073709551616 := by decide
 omega
set_option maxHeartbeats 4000000 in
theorem rfrom_core (n : Int) (u : Nat) (neg : Bool) (w : World) (hub : u <= 18446744073709551615) (hu : u = n.natAbs) (e0 : decide (n < 0) = neg) (hc : neg = true /\ n < 0 /\ IntKind.u64.wrap (-IntKind.u64.wrap n) = (u : Int) \/ neg = false /\ n = (u : Int)) :
  Calls Tryz.prog 14 #[.int .i64 n] w fun e w' => ∃ x l, e = .returned x /\ IntIs w' x (decide (n < 0) && decide (l ≠ [])) l /\ Tr l /\ val B32 l = n.natAbs /\ Below w.heap.size w w' := by
 have HU := hid hu
 clear hu
 rcases hc with ⟨rfl, hneg, hw⟩ | ⟨rfl, rfl⟩
 all_goals
  go_enter Tryz.func14, Tryz.ntmps14
  go_wp2
  go_loopw [4, 5] (fun v i wr => ∃ k : Nat, k <= 8 /\ i = .int .i64 k /\ Hid (wr.ownsRow (w.heap.size + 1) 5 1 v k (cs .u8 ([] ++ (b8 u).take k)) /\ Below (w.heap.size + 1) (w.alloc (.cells #[.bool false, .slice none 0 0] 24)) wr)) (fun _ i _ => 8 - (intOf i).toNat)
  case atStart => exact ⟨0, by omega, rfl, by simpa [cs] using World.ownsRow_nil _ _ _ _, Below.refl _ _⟩
  case round =>
   obtain ⟨k, hk, rfl, hI⟩ := hrel
   have hsz : Hid (w.heap.size + 1 <= wr.heap.size) := by have := hI.out.2.size; unfold Hid; simpa using this
   by_cases hk8 : k < 8
   ·obtain ⟨hI1, hI2⟩ := hI.out
    have HI1 := hid hI1
    have HI2 := hid hI2
    clear hI hI1 hI2
    have hk' : k = 0 \/ k = 1 \/ k = 2 \/ k = 3 \/ k = 4 \/ k = 5 \/ k = 6 \/ k = 7 := by omega
    rcases hk' with rfl | rfl | rfl | rfl | rfl | rfl | rfl | rfl
    ·go_wp2_with (at_builtin; refine app1 rfl _ _ 59 rfl (w.heap.size + 1) 5 .u8 1 (by decide) Tryz.underlying59 info_u8 _ _ _ rfl (HI1.out.alloc _) ⟨wr.heap.size, 0, none⟩ 1 ((b8 u).getD 0 0) rfl ?c0 (by omega) (by have := hsz.out; simp; omega) ?_; rotate_right; intro g cap' w1 hown hbel)
     case c0 => rw [cell_new]; simp [b8] <;> omega
     case roundEnd => exact ⟨⟨1, by omega, rfl, own_step (l := []) (r := b8 u) hown (by omega) (by simp [b8]), (HI2.out.alloc hsz.out _).trans hbel⟩, by simp [intOf]⟩
    ·go_wp2_with (at_builtin; refine app1 rfl _ _ 59 rfl (w.heap.size + 1) 5 .u8 1 (by decide) Tryz.underlying59 info_u8 _ _ _ rfl (HI1.out.alloc _) ⟨wr.heap.size, 0, none⟩ 1 ((b8 u).getD 1 0) rfl ?c1 (by omega) (by have := hsz.out; simp; omega) ?_; rotate_right; intro g cap' w1 hown hbel)
     case c1 => rw [cell_new]; simp [b8] <;> omega
     case roundEnd => exact ⟨⟨2, by omega, rfl, own_step (l := []) (r := b8 u) hown (by omega) (by simp [b8]), (HI2.out.alloc hsz.out _).trans hbel⟩, by simp [intOf]⟩
    ·go_wp2_with (at_builtin; refine app1 rfl _ _ 59 rfl (w.heap.size + 1) 5 .u8 1 (by decide) Tryz.underlying59 info_u8 _ _ _ rfl (HI1.out.alloc _) ⟨wr.heap.size, 0, none⟩ 1 ((b8 u).getD 2 0) rfl ?c2 (by omega) (by have := hsz.out; simp; omega) ?_; rotate_right; intro g cap' w1 hown hbel)
     case c2 => rw [cell_new]; simp [b8] <;> omega
     case roundEnd => exact ⟨⟨3, by omega, rfl, own_step (l := []) (r := b8 u) hown (by omega) (by simp [b8]), (HI2.out.alloc hsz.out _).trans hbel⟩, by simp [intOf]⟩
    ·go_wp2_with (at_builtin; refine app1 rfl _ _ 59 rfl (w.heap.size + 1) 5 .u8 1 (by decide) Tryz.underlying59 info_u8 _ _ _ rfl (HI1.out.alloc _) ⟨wr.heap.size, 0, none⟩ 1 ((b8 u).getD 3 0) rfl ?c3 (by omega) (by have := hsz.out; simp; omega) ?_; rotate_right; intro g cap' w1 hown hbel)
     case c3 => rw [cell_new]; simp [b8] <;> omega
     case roundEnd => exact ⟨⟨4, by omega, rfl, own_step (l := []) (r := b8 u) hown (by omega) (by simp [b8]), (HI2.out.alloc hsz.out _).trans hbel⟩, by simp [intOf]⟩
    ·go_wp2_with (at_builtin; refine app1 rfl _ _ 59 rfl (w.heap.size + 1) 5 .u8 1 (by decide) Tryz.underlying59 info_u8 _ _ _ rfl (HI1.out.alloc _) ⟨wr.heap.size, 0, none⟩ 1 ((b8 u).getD 4 0) rfl ?c4 (by omega) (by have := hsz.out; simp; omega) ?_; rotate_right; intro g cap' w1 hown hbel)
     case c4 => rw [cell_new]; simp [b8] <;> omega
     case roundEnd => exact ⟨⟨5, by omega, rfl, own_step (l := []) (r := b8 u) hown (by omega) (by simp [b8]), (HI2.out.alloc hsz.out _).trans hbel⟩, by simp [intOf]⟩
    ·go_wp2_with (at_builtin; refine app1 rfl _ _ 59 rfl (w.heap.size + 1) 5 .u8 1 (by decide) Tryz.underlying59 info_u8 _ _ _ rfl (HI1.out.alloc _) ⟨wr.heap.size, 0, none⟩ 1 ((b8 u).getD 5 0) rfl ?c5 (by omega) (by have := hsz.out; simp; omega) ?_; rotate_right; intro g cap' w1 hown hbel)
     case c5 => rw [cell_new]; simp [b8] <;> omega
     case roundEnd => exact ⟨⟨6, by omega, rfl, own_step (l := []) (r := b8 u) hown (by omega) (by simp [b8]), (HI2.out.alloc hsz.out _).trans hbel⟩, by simp [intOf]⟩
    ·go_wp2_with (at_builtin; refine app1 rfl _ _ 59 rfl (w.heap.size + 1) 5 .u8 1 (by decide) Tryz.underlying59 info_u8 _ _ _ rfl (HI1.out.alloc _) ⟨wr.heap.size, 0, none⟩ 1 ((b8 u).getD 6 0) rfl ?c6 (by omega) (by have := hsz.out; simp; omega) ?_; rotate_right; intro g cap' w1 hown hbel)
     case c6 => rw [cell_new]; simp [b8] <;> omega
     case roundEnd => exact ⟨⟨7, by omega, rfl, own_step (l := []) (r := b8 u) hown (by omega) (by simp [b8]), (HI2.out.alloc hsz.out _).trans hbel⟩, by simp [intOf]⟩
    ·go_wp2_with (at_builtin; refine app1 rfl _ _ 59 rfl (w.heap.size + 1) 5 .u8 1 (by decide) Tryz.underlying59 info_u8 _ _ _ rfl (HI1.out.alloc _) ⟨wr.heap.size, 0, none⟩ 1 ((b8 u).getD 7 0) rfl ?c7 (by omega) (by have := hsz.out; simp; omega) ?_; rotate_right; intro g cap' w1 hown hbel)
     case c7 => rw [cell_new]; simp [b8] <;> omega
     case roundEnd => exact ⟨⟨8, by omega, rfl, own_step (l := []) (r := b8 u) hown (by omega) (by simp [b8]), (HI2.out.alloc hsz.out _).trans hbel⟩, by simp [intOf]⟩
   ·obtain rfl : k = 8 := by omega
    obtain ⟨ao', cap', hv, hO⟩ := own_of hI.out.1 (B := 256) (by simpa [b8] using b8_dg u)
    subst hv
    have HO := hid hO
    clear hO
    have hb0 : Hid (Below w.heap.size w wr) := (Ba w _).trans (hI.out.2.mono (Nat.le_succ _))
    have hd0 := (hI.out.2.block w.heap.size (by omega)).trans (blk_new _ _ _)
    have HD0 := hid hd0
    clear hd0
    go_wp2_with fail
    refine (rwhole_any _ ao' 8 cap' _ wr HO.out.row (by omega)).mono ?_
    rintro e w1 ⟨x, en, rfl, hA, hb⟩
    have hval : val 256 ([] ++ (b8 u).take 8) = u := by
     have : [] ++ (b8 u).take 8 = b8 u := rfl
     rw [this]; exact b8_val u (by omega)
    rw [hval] at hA
    rcases hA with ⟨_, rfl, l, hI2, ht, hv⟩ | ⟨hbig, _⟩
    ·obtain ⟨ao2, n2, cap2, sg, rfl, HSG, R2⟩ := hI2.open_
     have hd1 := (hb.block w.heap.size (Array.getElem?_eq_some_iff.1 HD0.out).1).trans HD0.out
     have hq0 := blk_cell hd1 0
     have hq1 := blk_cell hd1 1
     have hqf0 := blk_free hd1 0
     have hqf1 := blk_free hd1 1
     have hlt1 : w.heap.size < w1.heap.size := (Array.getElem?_eq_some_iff.1 hd1).1
     simp at hq0 hq1
     have HR := hid R2
     have HT := hid ht
     have HVv := hid hv
     have HB := hid (Bt hb0.out hb)
     have HD1 := hid hd1
     clear hd1 R2 ht hv hb hval hI2
     go_wp2
     have hbx := box_set2_cells HD1.out sg (.slice ao2 n2 cap2) (.cells #[.bool sg, .slice ao2 n2 cap2] 24)
     refine bodyPost_ret (v := .agg #[.bool sg, .slice ao2 n2 cap2]) (by simp [results, Tryz.results14, go_sem, hbx.1, hbx.2]) rfl ⟨_, l, rfl, ⟨ao2, n2, cap2, ?_, (HR.out.setBox2 HD1.out _ _).below (Ba _ _)⟩, HT.out, ?_, ((HB.out.setCell (Nat.le_refl _) _).setCell (Nat.le_refl _) _).alloc (by simp [World.setCell]; omega) _⟩
     ·rw [HSG.out, e0]
     ·rw [HVv.out]; exact HU.out
    ·exact absurd hbig (not_big_64 u (by omega))
set_option maxHeartbeats 2000000 in
theorem rfrom_any (n : Int) (w : World) (h1 : -9223372036854775808 <= n) (h2 : n <= 9223372036854775807) :
  Calls Tryz.prog 14 #[.int .i64 n] w fun e w' => ∃ x l, e = .returned x /\ IntIs w' x (decide (n < 0) && decide (l ≠ [])) l /\ Tr l /\ val B32 l = n.natAbs /\ Below w.heap.size w w' := by
 obtain ⟨u, hu⟩ : ∃ u, u = n.natAbs := ⟨_, rfl⟩
 have hub : u <= 18446744073709551615 := by omega
 have HU := hid hu
 by_cases hneg : n < 0
 ·have e0 : decide (n < 0) = true := by simp [hneg]
  have hw : IntKind.u64.wrap (-IntKind.u64.wrap n) = (u : Int) := by rw [IntKind.wrap_u64, IntKind.wrap_u64]; omega
  clear hu
  exact rfrom_core n u true w hub HU.out e0 (.inl ⟨rfl, hneg, hw⟩)
 ·have e0 : decide (n < 0) = false := by simp [hneg]
  exact rfrom_core n u false w hub HU.out e0 (.inr ⟨rfl, by omega⟩)
theorem or_join (hi lo : Nat) (h1 : hi < 4294967296) (h2 : lo < 4294967296) : bits .or .u64 ((hi : Int) * 4294967296) (lo : Int) = ((hi * 4294967296 + lo : Nat) : Int) := by
 rw [show ((hi : Int) * 4294967296) = ((hi * 4294967296 : Nat) : Int) by omega, u64_or_nat _ _ (by omega) (by omega), nat_join 32 _ _ (by omega) (by omega)]
theorem div_fits (z v : Nat) (h : z / v < 4294967296) : IntKind.u64.wrap ((z : Int).tdiv v) % 4294967296 = ((z / v : Nat) : Int) := by
 rw [<- Int.ofNat_tdiv, IntKind.wrap_u64]; generalize z / v = q at *; omega
theorem mod_fits (z v : Nat) (h : z % v < 4294967296) : (z : Int).tmod v % 4294967296 = ((z % v : Nat) : Int) := by
 rw [<- Int.ofNat_tmod]; generalize z % v = q at *; omega
theorem ret_two {a b c d : Value} (h1 : a = c) (h2 : b = d) : Ending.returned (.tuple #[a, b]) = .returned (.tuple #[c, d]) := by rw [h1, h2]
set_option maxHeartbeats 400000 in
theorem div32_any (hi lo v : Nat) (hh : hi < v) (hl : lo < B32) (hv : v < B32) (w : World) :
  Calls Tryz.prog 97 #[.int .u32 hi, .int .u32 lo, .int .u32 v] w fun e w' => e = .returned (.tuple #[.int .u32 ((hi * B32 + lo) / v : Nat), .int .u32 ((hi * B32 + lo) % v : Nat)]) /\ ∃ k, w' = w.drewN k := by
 unfold B32 at *
 have e1 : ((v : Int) != 0) = true := by rw [bne_iff_ne]; omega
 have e2 : decide ((v : Int) <= hi) = false := by simp; omega
 have hor := or_join hi lo (by omega) hl
 obtain ⟨z, hz⟩ : ∃ z, z = hi * 4294967296 + lo := ⟨_, rfl⟩
 rw [<- hz] at hor ⊢
 have hq : z / v < 4294967296 := by
  rw [Nat.div_lt_iff_lt_mul (by omega)]
  have : (hi + 1) * 4294967296 <= v * 4294967296 := Nat.mul_le_mul_right _ hh
  omega
 have hr : z % v < 4294967296 := by have := Nat.mod_lt z (by omega : 0 < v); omega
 have hz2 : z < 18446744073709551616 := by omega
 have HQ : Hid (z / v < 4294967296) := hq
 have HR : Hid (z % v < 4294967296) := hr
 clear hz hq hr hz2
 go_enter Tryz.func97, Tryz.ntmps97
 go_wp2
 go_quiet (fail)
 go_wp2
 go_ret2
 refine ⟨ret_two ?_ ?_, nq, rfl⟩
 ·exact congrArg (Value.int .u32) (div_fits z v HQ.out)
 ·exact congrArg (Value.int .u32) (mod_fits z v HR.out)
theorem divStep {B r v q : Nat} (hv : 0 < v) (m : Nat) (L : List Nat) (hm : m < L.length) (h1 : val B (L.drop (m + 1)) = q * v + r) (hr : r < v) :
  val B (L.drop m) = ((r * B + L.getD m 0) / v + B * q) * v + (r * B + L.getD m 0) % v := by
 rw [val_drop_succ B L m hm, h1]
 have := Nat.div_add_mod (r * B + L.getD m 0) v
 rw [Nat.add_mul, Nat.mul_add, Nat.mul_assoc B q v, Nat.mul_comm B r]
 rw [Nat.mul_comm v] at this
 omega
theorem set_take_append {l q : List Nat} {m x : Nat} (hm : m < l.length) : (l.take (m + 1) ++ q).set m x = l.take m ++ (x :: q) := by
 rw [take_snoc l m hm, List.append_assoc, List.set_append, if_neg (by rw [List.length_take]; omega), List.length_take, Nat.min_eq_left (by omega)]
 simp
set_option maxHeartbeats 1000000 in
theorem divSmall_any (g o n cap : Nat) (cur : Array Value) (l : List Nat) (v : Nat) (w : World) (W : Win .u32 58 w g o n cur l) (hd : Dg B32 l) (hn : n <= maxLen) (hv0 : 0 < v) (hv : v < B32) :
  Calls Tryz.prog 76 #[.slice (some ⟨g, o, none⟩) n cap, .int .u32 v] w fun e w' => e = .returned (.int .u32 (val B32 l % v : Nat)) /\ ∃ l', Onto .u32 58 g o n w w' cur l' /\ Dg B32 l' /\ val B32 l' = val B32 l / v := by
 have HW : Hid (Win .u32 58 w g o n cur l) := W
 have HD : Hid (Dg B32 l) := hd
 have HL : Hid (l.length = n) := W.len
 unfold maxLen at hn
 clear W hd
 go_enter Tryz.func76, Tryz.ntmps76
 go_wp2
 go_loopw [5, 6] (fun t i wr => ∃ m r : Nat, ∃ q : List Nat, m <= n /\ i = .int .i64 ((m : Int) - 1) /\ t = .int .u32 r /\ r < v /\ Hid (q.length = n - m /\ Dg B32 q /\ val B32 (l.drop m) = val B32 q * v + r /\ Onto .u32 58 g o n w wr cur (l.take m ++ q))) (fun _ i _ => (intOf i + 1).toNat)
 case atStart => exact ⟨n, 0, [], Nat.le_refl _, rfl, rfl, hv0, by simp, Dg.nil _, by rw [List.drop_eq_nil_of_le (by rw [HL.out]; omega)]; simp [val], by
  rw [List.take_of_length_le (by rw [HL.out]; omega), List.append_nil]; exact HW.out.onto⟩
 case round =>
  obtain ⟨m, r, q, hm, rfl, rfl, hr, hH⟩ := hrel
  by_cases hz : m = 0
  ·subst hz
   go_wp2
   go_ret
   obtain ⟨h1, h2, h3, h4⟩ := hH.out
   rw [List.drop_zero] at h3
   rw [h3]
   refine ⟨congrArg (fun z : Nat => Ending.returned (.int .u32 (z : Int))) ?_, q, by simpa using h4, h2, ?_⟩
   ·rw [Nat.mul_comm, Nat.mul_add_mod, Nat.mod_eq_of_lt hr]
   ·rw [Nat.mul_comm, Nat.mul_add_div hv0, Nat.div_eq_of_lt hr]; rfl
  ·obtain ⟨p, rfl⟩ : ∃ p, m = p + 1 := ⟨m - 1, by omega⟩
   obtain ⟨d, hd⟩ : ∃ d, d = l.getD p 0 := ⟨_, rfl⟩
   have hll : p < l.length := by rw [HL.out]; omega
   have hdb : d < B32 := by rw [hd]; exact HD.out.getD _ hll
   have hc : wr.cell? ⟨g, o + p, none⟩ = some (.int .u32 d) := by
    have := hH.out.2.2.2.cell (i := p) (by omega)
    rw [getD_append_left (by rw [List.length_take]; omega), getD_take (by omega), <- hd] at this
    exact this
   have hf : wr.frozen? ⟨g, o + p, none⟩ = false := hH.out.2.2.2.frozen _
   have H1 : Hid (d = l.getD p 0) := hd
   have HP : Hid (p < l.length) := hll
   clear hd hll
   obtain ⟨Q, hQ⟩ : ∃ Q, Q = (r * B32 + d) / v := ⟨_, rfl⟩
   obtain ⟨R, hR⟩ : ∃ R, R = (r * B32 + d) % v := ⟨_, rfl⟩
   have HC : Hid (∀ w, Calls Tryz.prog 97 #[.int .u32 r, .int .u32 d, .int .u32 v] w fun e w' => e = .returned (.tuple #[.int .u32 Q, .int .u32 R]) /\ ∃ k, w' = w.drewN k) := fun w => by rw [hQ, hR]; exact div32_any r d v hr hdb hv w
   have HQ : Hid (Q = (r * B32 + d) / v) := hQ
   have HR : Hid (R = (r * B32 + d) % v) := hR
   have hRv : R < v := by rw [hR]; exact Nat.mod_lt _ hv0
   have HB : Hid (Q < B32) := by
    unfold Hid
    rw [hQ, Nat.div_lt_iff_lt_mul hv0]
    have : (r + 1) * B32 <= v * B32 := Nat.mul_le_mul_right _ hr
    rw [Nat.add_mul] at this
    rw [Nat.mul_comm B32 v]
    omega
   clear hQ hR
   go_wp2_with (go_at_call 97; refine (HC.out _).mono ?_; rintro e w' ⟨rfl, q1, rfl⟩)
   obtain ⟨h1, h2, h3, h4⟩ := hH.out
   refine ⟨⟨p, R, Q :: q, by omega, rfl, rfl, hRv, ?_, ?_, ?_, ?_⟩, by simp [intOf] <;> omega⟩
   ·simp [h1]; omega
   ·exact fun x hx => by rcases List.mem_cons.1 hx with rfl | hx; exact HB.out; exact h2 x hx
   ·rw [divStep hv0 p l HP.out h3 hr, <- H1.out, <- HQ.out, <- HR.out, val_cons]
   ·rw [<- set_take_append HP.out]; exact (h4.drewN q1).store (by omega) Q
end Go.Proofs.YtdekkieajffblaaGreatDoor
