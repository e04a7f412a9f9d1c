import Derived.Test.YtdekkieajffblaaGreatDoorApp
import Derived.Lib.SliceRun
import Derived.Deep.RegionHeld3
set_option linter.unusedVariables false
set_option linter.unusedSimpArgs false
namespace Go.Proofs.YtdekkieajffblaaGreatDoor
open Go.RowKit
theorem info_u32 : (Tryz.prog.info? 58).map (fun i => (i.zero, i.size, i.bytes)) = some (some (.int .u32 0), 1, 4) := by kernel_rfl
theorem info_u8 : (Tryz.prog.info? 5).map (fun i => (i.zero, i.size, i.bytes)) = some (some (.int .u8 0), 1, 1) := by kernel_rfl
set_option maxHeartbeats 400000 in
theorem clone_any (ao : Option Addr) (n cap : Nat) (l : List Nat) (w : World) (R : Row .u32 B32 w ao n cap l) (hs : n <= 1000) :
  Calls Tryz.prog 74 #[.slice ao n cap] w fun e w' => ∃ ao' cap', e = .returned (.slice ao' n cap') /\ Own .u32 58 B32 w.heap.size w' ao' n cap' l /\ Below w.heap.size w w' := by
 have heq := fun wx => Lib.run_eql_slice_nil (P := Tryz.prog) wx 22 58 ao n cap 0 0 Tryz.underlying22
 have HD : Hid (Dg B32 l) := R.dg
 cases ao with
 | none =>
  have hc := R.nil_ rfl
  subst hc
  have hm : n = 0 := by have := R.fits; omega
  subst hm
  have hl : l = [] := List.length_eq_zero_iff.1 R.len
  subst hl
  simp only [Option.isNone_none] at heq
  clear R HD
  go_enter Tryz.func74, Tryz.ntmps74
  go_wp2
  go_ret
  exact ⟨none, 0, rfl, Own.nil _ _ _ _ _ _, Below.refl _ _⟩
 | some a =>
  simp only [Option.isNone_some] at heq
  have HR : Hid (Row .u32 B32 w (some a) n cap l) := R
  clear R
  go_enter Tryz.func74, Tryz.ntmps74
  go_wp2_with (at_builtin; refine appRow rfl _ _ 22 rfl w.heap.size 58 .u32 4 (by decide) Tryz.underlying22 info_u32 _ 0 [] rfl (own0 w .u32 58) B32 (some a) n cap l rfl (HR.out.below (Ba _ _)) (by omega) (by simp) ?_; intro v' w1 hown hbel)
  simp only [Nat.zero_add, List.nil_append] at hown
  have hb := Bb (Ba w (.cells #[] 58)) hbel (Nat.le_refl _)
  have HO := hid hown
  have HB := hid hb
  clear hown hbel hb
  go_wp2
  go_ret
  obtain ⟨ao', cap', rfl, hO⟩ := own_of HO.out HD.out
  exact ⟨ao', cap', rfl, hO, HB.out⟩
set_option maxHeartbeats 400000 in
theorem rtrim_any (ao : Option Addr) (n cap : Nat) (l : List Nat) (w : World) (R : Row .u8 256 w ao n cap l) (hs : n <= 1000) :
  Calls Tryz.prog 44 #[.slice ao n cap] w fun e w' => ∃ m ao' cap', m <= n /\ e = .returned (.slice ao' m cap') /\ Own .u8 5 256 w.heap.size w' ao' m cap' (l.take m) /\ Tr (l.take m) /\ val 256 (l.take m) = val 256 l /\ Below w.heap.size w w' := by
 have HR : Hid (Row .u8 256 w ao n cap l) := R
 obtain ⟨hn, hcap, hmax, _, hdg, hrd⟩ := R
 unfold maxLen at hmax
 have HN : Hid (l.length = n) := hn
 have HD : Hid (Dg 256 l) := hdg
 clear hn hdg
 go_enter Tryz.func44, Tryz.ntmps44
 go_wp2
 go_loop [3] (fun t => ∃ m : Nat, m <= n /\ t = .int .i64 m /\ Hid (val 256 (l.take m) = val 256 l)) (fun t => (intOf t).toNat)
 case atStart => exact ⟨n, Nat.le_refl _, rfl, by unfold Hid; rw [List.take_of_length_le (by rw [HN.out]; exact Nat.le_refl _)]⟩
 case round =>
  obtain ⟨m, hm, rfl, hv⟩ := hrel
  have HR2 : Hid (Row .u8 256 (w.alloc (.cells #[] 5)) ao m cap (l.take m)) := (HR.out.take hm cap (by omega) (Nat.le_refl _)).below (Ba _ _)
  by_cases hz : m = 0
  ·subst hz
   go_wp2_with (at_builtin; refine appRow rfl _ _ 59 rfl w.heap.size 5 .u8 1 (by decide) Tryz.underlying59 info_u8 _ 0 [] rfl (own0 w .u8 5) 256 ao 0 cap (l.take 0) rfl HR2.out (by omega) (by simp) ?_; intro v' w1 hown hbel)
   simp only [Nat.zero_add, List.nil_append] at hown
   have hb := Bb (Ba w (.cells #[] 5)) hbel (Nat.le_refl _)
   have HO := hid hown
   have HB := hid hb
   clear hown hbel hb
   go_wp2
   go_ret
   obtain ⟨ao', cap', rfl, hO⟩ := own_of HO.out (HD.out.take 0)
   exact ⟨0, Nat.zero_le _, ao', cap', rfl, hO, .inl (by simp), hv.out, HB.out⟩
  ·obtain ⟨b, o, rfl, hl, hc⟩ := hrd.some (by rw [HN.out]; omega)
   have hc1 := hc (m - 1) (by rw [HN.out]; omega)
   obtain ⟨d, hd⟩ : ∃ d, d = l.getD (m - 1) 0 := ⟨_, rfl⟩
   rw [<- hd] at hc1
   have H1 : Hid (d = l.getD (m - 1) 0) := hd
   clear hd hc hrd
   have hpos : (0 : Int) < m := by omega
   by_cases hd0 : d = 0
   ·subst hd0
    go_wp2
    go_round
    case rel => exact ⟨m - 1, by omega, by go_num, by
     unfold Hid
     rw [<- hv.out]
     have := val_take_zero 256 l (m - 1) (by rw [HN.out]; omega) H1.out.symm
     rw [show m - 1 + 1 = m by omega] at this
     exact this.symm⟩
    case measure => simp [intOf]; omega
   ·have hne : ((d : Int) == 0) = false := by simp; omega
    go_wp2_with (at_builtin; refine appRow rfl _ _ 59 rfl w.heap.size 5 .u8 1 (by decide) Tryz.underlying59 info_u8 _ 0 [] rfl (own0 w .u8 5) 256 _ m cap (l.take m) rfl HR2.out (by omega) (by simp) ?_; intro v' w1 hown hbel)
    simp only [Nat.zero_add, List.nil_append] at hown
    have hb := Bb (Ba w (.cells #[] 5)) hbel (Nat.le_refl _)
    have HO := hid hown
    have HB := hid hb
    clear hown hbel hb
    go_wp2
    go_ret
    obtain ⟨ao', cap', rfl, hO⟩ := own_of HO.out (HD.out.take m)
    exact ⟨m, hm, ao', cap', rfl, hO, Tr.take_of (by rw [HN.out]; exact hm) (.inr (by rw [<- H1.out]; exact hd0)), hv.out, HB.out⟩
theorem cmpN_len8 {B : Nat} (h0 : 0 < B) {a b : List Nat} (ha : Dg B a) (hb : Dg B b) (ta : Tr a) (tb : Tr b) (h : a.length ≠ b.length) : cmpN (val B a) (val B b) = if a.length < b.length then -1 else 1 := by
 rcases Nat.lt_or_ge a.length b.length with h' | h'
 ·have := lt_of_length h0 ha tb h'
  simp [cmpN, h', this]
 ·have := lt_of_length h0 hb ta (by omega : b.length < a.length)
  unfold cmpN
  rw [if_neg (by omega), if_neg (by omega), if_neg (by omega)]
set_option maxHeartbeats 1000000 in
theorem rsize_any (ao ao' : Option Addr) (n cap n' cap' : Nat) (l l' : List Nat) (w : World) (R : Row .u8 256 w ao n cap l) (R' : Row .u8 256 w ao' n' cap' l') (t : Tr l) (t' : Tr l') :
  Calls Tryz.prog 71 #[.slice ao n cap, .slice ao' n' cap'] w fun e w' => e = .returned (.int .i64 (cmpN (val 256 l) (val 256 l'))) /\ ∃ k, w' = w.drewN k := by
 obtain ⟨hn, hcap, hmax, _, hdg, hrd⟩ := R
 obtain ⟨hn', hcap', hmax', _, hdg', hrd'⟩ := R'
 unfold maxLen at hmax hmax'
 by_cases hne : n = n'
 ·subst hne
  have e0 : ((n : Int) != n) = false := by simp
  have HN : Hid (l.length = n) := hn
  have HN' : Hid (l'.length = n) := hn'
  have HD : Hid (Dg 256 l /\ Dg 256 l') := ⟨hdg, hdg'⟩
  clear hn hn' hdg hdg' t t' hmax'
  go_enter Tryz.func71, Tryz.ntmps71
  go_wp2
  go_loopw [5] (fun t wr => ∃ m : Nat, m <= n /\ t = .int .i64 ((m : Int) - 1) /\ Hid (l.drop m = l'.drop m) /\ ∃ k, wr = w.drewN k) (fun t _ => (intOf t + 1).toNat)
  case atStart => exact ⟨n, Nat.le_refl _, rfl, by unfold Hid; rw [List.drop_eq_nil_of_le (by rw [HN.out]; omega), List.drop_eq_nil_of_le (by rw [HN'.out]; omega)], 0, rfl⟩
  case round =>
   obtain ⟨m, hm, rfl, hv, k, rfl⟩ := hrel
   by_cases hz : m = 0
   ·subst hz
    go_wp2
    go_ret
    refine ⟨ret_i64 ?_, k, rfl⟩
    have := hv.out
    simp only [List.drop_zero] at this
    rw [this]; simp [cmpN]
   ·obtain ⟨b, o, rfl, hl, hc⟩ := hrd.some (by rw [HN.out]; omega)
    obtain ⟨b', o', rfl, hl', hc'⟩ := hrd'.some (by rw [HN'.out]; omega)
    have hc1 := hc (m - 1) (by rw [HN.out]; omega)
    have hc1' := hc' (m - 1) (by rw [HN'.out]; omega)
    obtain ⟨d, hd⟩ : ∃ d, d = l.getD (m - 1) 0 := ⟨_, rfl⟩
    obtain ⟨d', hd'⟩ : ∃ d, d = l'.getD (m - 1) 0 := ⟨_, rfl⟩
    rw [<- hd] at hc1
    rw [<- hd'] at hc1'
    have hdb : d < 256 := by rw [hd]; exact HD.out.1.getD _ (by rw [HN.out]; omega)
    have hdb' : d' < 256 := by rw [hd']; exact HD.out.2.getD _ (by rw [HN'.out]; omega)
    have H1 : Hid (d = l.getD (m - 1) 0) := hd
    have H1' : Hid (d' = l'.getD (m - 1) 0) := hd'
    clear hd hd' hc hc' hrd hrd'
    have hpos : (1 : Int) <= m := by omega
    have hmm : m - 1 + 1 = m := by omega
    have HM : Hid (m - 1 + 1 = m) := hmm
    clear hmm
    have HC : Hid (d ≠ d' -> cmpN d d' = cmpN (val 256 l) (val 256 l')) := by
     unfold Hid; intro hne
     rw [H1.out, H1'.out]
     exact cmpN_digit HD.out.1 HD.out.2 (by rw [HN.out]; omega) (by rw [HN'.out]; omega) (by rw [HM.out]; exact hv.out) (by rw [<- H1.out, <- H1'.out]; exact hne)
    rcases Nat.lt_trichotomy d d' with hdd | hdd | hdd
    ·have ed : decide ((d : Int) < d') = true := by simp; omega
     go_wp2
     go_quiet (fail)
     go_wp2
     go_ret
     refine ⟨ret_i64 ?_, k + nq, World.drewN_drewN _ _ _⟩
     rw [<- HC.out (by omega)]; simp [cmpN, hdd]
    ·subst hdd
     have ed : decide ((d : Int) < d) = false := by simp
     go_wp2
     go_quiet (fail)
     go_wp2
     obtain ⟨q, hq⟩ : ∃ q, q = nq := ⟨_, rfl⟩
     subst hq
     go_quiet (fail)
     go_wp2
     go_roundw
     case rel => exact ⟨m - 1, by omega, by go_num, by
      unfold Hid
      rw [drop_cons l (m - 1) (by rw [HN.out]; omega), drop_cons l' (m - 1) (by rw [HN'.out]; omega), HM.out, <- H1.out, <- H1'.out, hv.out], _, rfl⟩
     case measure => simp [intOf]; omega
    ·have ed : decide ((d : Int) < d') = false := by simp; omega
     have ed' : decide ((d' : Int) < d) = true := by simp; omega
     go_wp2
     go_quiet (fail)
     go_wp2
     go_quiet (fail)
     go_wp2
     go_ret
     refine ⟨ret_i64 ?_, _, by rw [World.drewN_drewN, World.drewN_drewN]⟩
     rw [<- HC.out (by omega)]; simp [cmpN, show ¬ d < d' by omega, show ¬ d = d' by omega]
 ·have e0 : ((n : Int) != n') = true := by rw [bne_iff_ne]; omega
  have HC : Hid (cmpN (val 256 l) (val 256 l') = if n < n' then -1 else 1) := by
   have := cmpN_len8 (by decide) hdg hdg' t t' (by omega)
   rw [hn, hn'] at this; exact this
  clear hn hn' t t' hdg hdg' hrd hrd'
  by_cases hlt : n < n'
  ·go_enter Tryz.func71, Tryz.ntmps71
   go_wp2
   go_ret
   exact ⟨ret_i64 (by rw [HC.out, if_pos hlt]), 0, rfl⟩
  ·go_enter Tryz.func71, Tryz.ntmps71
   go_wp2
   go_ret
   exact ⟨ret_i64 (by rw [HC.out, if_neg hlt]), 0, rfl⟩
def b4 (d : Nat) : List Nat := [d % 256, d / 256 % 256, d / 65536 % 256, d / 16777216 % 256]
def bytesOf (l : List Nat) : List Nat := l.flatMap b4
theorem b4_val (d : Nat) (h : d < B32) : val 256 (b4 d) = d := by
 unfold B32 at h
 simp only [b4, val]; omega
theorem b4_dg (d : Nat) : Dg 256 (b4 d) := by
 intro x hx
 simp only [b4, List.mem_cons, List.not_mem_nil, or_false] at hx
 omega
theorem bytesOf_dg (l : List Nat) : Dg 256 (bytesOf l) := by
 intro x hx
 obtain ⟨d, _, hd⟩ := List.mem_flatMap.1 hx
 exact b4_dg d x hd
theorem bytesOf_val (l : List Nat) (h : Dg B32 l) : val 256 (bytesOf l) = val B32 l := by
 induction l with
 | nil => rfl
 | cons d l ih =>
  have h1 := ih (fun x hx => h x (by simp [hx]))
  have h2 : d < B32 := h d (by simp)
  show val 256 (b4 d ++ bytesOf l) = _
  have e : 256 ^ (b4 d).length = B32 := by simp [b4, B32]
  rw [val_append, h1, b4_val d h2, val_cons, e]
theorem bytesOf_snoc (l : List Nat) (k : Nat) (h : k < l.length) : bytesOf (l.take (k + 1)) = bytesOf (l.take k) ++ b4 (l.getD k 0) := by
 rw [take_snoc l k h]; simp [bytesOf]
set_option maxHeartbeats 1000000 in
theorem bytes_any (neg : Bool) (ao : Option Addr) (n cap : Nat) (l : List Nat) (w : World) (R : Row .u32 B32 w ao n cap l) (hs : n <= 100) :
  Calls Tryz.prog 72 #[.agg #[.bool neg, .slice ao n cap]] w fun e w' => ∃ m ao' cap' l', e = .returned (.slice ao' m cap') /\ m <= 4 * n /\ Own .u8 5 256 w.heap.size w' ao' m cap' l' /\ Tr l' /\ val 256 l' = val B32 l /\ Below w.heap.size w w' := by
 have HR := hid R
 obtain ⟨hn, hcap, hmax, _, hdg, hrd⟩ := R
 unfold maxLen at hmax
 have HN := hid hn
 have HD := hid hdg
 have HRd := hid hrd
 clear hn hdg hrd
 go_enter Tryz.func72, Tryz.ntmps72
 go_wp2
 go_loopw [3, 4, 5] (fun v i _j wr => ∃ m : Nat, m <= n /\ i = .int .i64 m /\ Hid (wr.ownsRow (w.heap.size + 1) 5 1 v (4 * m) (cs .u8 (bytesOf (l.take m))) /\ Below (w.heap.size + 1) (w.alloc (.cells #[.bool neg, .slice ao n cap] 24)) wr)) (fun _ i _ _ => n - (intOf i).toNat)
 case atStart => exact ⟨0, Nat.zero_le _, rfl, by simpa [bytesOf, cs] using World.ownsRow_nil _ _ _ _, Below.refl _ _⟩
 case round =>
  obtain ⟨m, hm, rfl, hH⟩ := hrel
  have hbox : wr.cell? ⟨w.heap.size, 1, none⟩ = some (.slice ao n cap) := (hH.out.2.cell (p := ⟨w.heap.size, 1, none⟩) (by simp)).trans (by simp)
  by_cases hlt : m < n
  ·obtain ⟨wo, rfl⟩ : ∃ wo : World, wo = wr := ⟨_, rfl⟩
   obtain ⟨b, o, rfl, hl, hc⟩ := HRd.out.some (by rw [HN.out]; omega)
   obtain ⟨d, hd⟩ : ∃ d, d = l.getD m 0 := ⟨_, rfl⟩
   have hdb : d < 4294967296 := by rw [hd]; exact HD.out.getD _ (by rw [HN.out]; omega)
   have HC : Hid (w.cell? ⟨b, o + m, none⟩ = some (.int .u32 d)) := by rw [hd]; exact hc m (by rw [HN.out]; omega)
   have HDm := hid hd
   clear hc hd
   go_wp2
   go_loopw [3, 5] (fun v j wr => ∃ k : Nat, k <= 4 /\ j = .int .i64 k /\ Hid (wr.ownsRow (w.heap.size + 1) 5 1 v (4 * m + k) (cs .u8 (bytesOf (l.take m) ++ (b4 d).take k)) /\ Below (w.heap.size + 1) (w.alloc (.cells #[.bool neg, .slice (some ⟨b, o, none⟩) n cap] 24)) wr)) (fun _ j _ => 4 - (intOf j).toNat)
   case atStart => exact ⟨0, by omega, rfl, by simpa using hH.out.1, hH.out.2⟩
   case round =>
    obtain ⟨k, hk, rfl, hI⟩ := hrel
    have hbox' : wr.cell? ⟨w.heap.size, 1, none⟩ = some (.slice (some ⟨b, o, none⟩) n cap) := (hI.out.2.cell (p := ⟨w.heap.size, 1, none⟩) (by simp)).trans (by simp)
    have hcell' : wr.cell? ⟨b, o + m, none⟩ = some (.int .u32 d) := (hI.out.2.cell (p := ⟨b, o + m, none⟩) (by simp; omega)).trans (by rw [World.cell?_alloc_past _ _ _ hl]; exact HC.out)
    have hsz : Hid (w.heap.size + 1 <= wr.heap.size) := by have := hI.out.2.size; unfold Hid; simpa using this
    clear hbox
    by_cases hk4 : k < 4
    ·obtain ⟨hI1, hI2⟩ := hI.out
     have HI1 := hid hI1
     have HI2 := hid hI2
     clear hI hI1 hI2
     have : k = 0 \/ k = 1 \/ k = 2 \/ k = 3 := by omega
     rcases this with rfl | rfl | rfl | rfl
     ·go_wp2_with (at_builtin; refine app1 rfl _ _ 59 rfl (w.heap.size + 1) 5 .u8 1 (by decide) Tryz.underlying59 info_u8 _ _ _ rfl (HI1.out.alloc _) ⟨wr.heap.size, 0, none⟩ 1 ((b4 d).getD 0 0) rfl ?c0 (by omega) (by have := hsz.out; simp; omega) ?_; rotate_right; intro g cap' w1 hown hbel)
      case c0 => rw [cell_new]; simp [b4]
      case roundEnd => exact ⟨⟨1, by omega, rfl, own_step hown (by omega) (by simp [b4]), (HI2.out.alloc hsz.out _).trans hbel⟩, by simp [intOf]⟩
     ·go_wp2_with (at_builtin; refine app1 rfl _ _ 59 rfl (w.heap.size + 1) 5 .u8 1 (by decide) Tryz.underlying59 info_u8 _ _ _ rfl (HI1.out.alloc _) ⟨wr.heap.size, 0, none⟩ 1 ((b4 d).getD 1 0) rfl ?c1 (by omega) (by have := hsz.out; simp; omega) ?_; rotate_right; intro g cap' w1 hown hbel)
      case c1 => rw [cell_new]; simp [b4]
      case roundEnd => exact ⟨⟨2, by omega, rfl, own_step hown (by omega) (by simp [b4]), (HI2.out.alloc hsz.out _).trans hbel⟩, by simp [intOf]⟩
     ·go_wp2_with (at_builtin; refine app1 rfl _ _ 59 rfl (w.heap.size + 1) 5 .u8 1 (by decide) Tryz.underlying59 info_u8 _ _ _ rfl (HI1.out.alloc _) ⟨wr.heap.size, 0, none⟩ 1 ((b4 d).getD 2 0) rfl ?c2 (by omega) (by have := hsz.out; simp; omega) ?_; rotate_right; intro g cap' w1 hown hbel)
      case c2 => rw [cell_new]; simp [b4]
      case roundEnd => exact ⟨⟨3, by omega, rfl, own_step hown (by omega) (by simp [b4]), (HI2.out.alloc hsz.out _).trans hbel⟩, by simp [intOf]⟩
     ·go_wp2_with (at_builtin; refine app1 rfl _ _ 59 rfl (w.heap.size + 1) 5 .u8 1 (by decide) Tryz.underlying59 info_u8 _ _ _ rfl (HI1.out.alloc _) ⟨wr.heap.size, 0, none⟩ 1 ((b4 d).getD 3 0) rfl ?c3 (by omega) (by have := hsz.out; simp; omega) ?_; rotate_right; intro g cap' w1 hown hbel)
      case c3 => rw [cell_new]; simp [b4]; omega
      case roundEnd => exact ⟨⟨4, by omega, rfl, own_step hown (by omega) (by simp [b4]), (HI2.out.alloc hsz.out _).trans hbel⟩, by simp [intOf]⟩
    ·obtain rfl : k = 4 := by omega
     go_wp2
     case roundEnd =>
      refine ⟨⟨m + 1, by omega, by go_num, ?_, hI.out.2⟩, by simp [intOf]; omega⟩
      have := hI.out.1
      rw [bytesOf_snoc l m (by rw [HN.out]; omega), <- HDm.out]
      exact this
  ·obtain rfl : m = n := by omega
   obtain ⟨ao', cap', hu, hO⟩ := own_of hH.out.1 (bytesOf_dg _)
   subst hu
   have HO := hid hO
   clear hO
   have hb0 : Hid (Below w.heap.size w wr) := (Ba w _).trans (hH.out.2.mono (Nat.le_succ _))
   go_wp2_with fail
   refine (rtrim_any ao' (4 * m) cap' _ wr HO.out.row (by omega)).mono ?_
   rintro e w1 ⟨m', ao2, cap2, hm', rfl, hO2, ht, hv, hb⟩
   have H2 := hid hO2
   have H3 := hid ht
   have H4 := hid hv
   have H5 := hid hb
   clear hO2 ht hv hb
   go_wp2
   go_ret
   refine ⟨m', ao2, cap2, _, rfl, hm', H2.out.base hb0.out.size, H3.out, ?_, Bt hb0.out H5.out⟩
   rw [H4.out, bytesOf_val _ (HD.out.take m), List.take_of_length_le (by rw [HN.out]; omega)]
def cmpR (neg neg' : Bool) (x y : Nat) : Int := if neg = neg' then (if neg then - cmpN x y else cmpN x y) else (if neg then -1 else 1)
theorem cmpR_ne {neg neg' : Bool} (x y : Nat) (h : neg ≠ neg') : cmpR neg neg' x y = if neg then -1 else 1 := by simp [cmpR, h]
theorem cmpR_eq (neg : Bool) (x y : Nat) : cmpR neg neg x y = if neg then - cmpN x y else cmpN x y := by simp [cmpR]
theorem cmpN_bd (x y : Nat) : -1 <= cmpN x y /\ cmpN x y <= 1 := by unfold cmpN; split <;>(try split) <;> omega
theorem cell_lt {w : World} {b i : Nat} {v : Value} (h : w.cell? ⟨b, i, none⟩ = some v) : b < w.heap.size := World.block_lt_of_cell? w ⟨b, i, none⟩ h
theorem two_on {W wx wy : World} {p q : Nat} {neg neg' : Bool} {ao ao' : Option Addr} {n cap n' cap' : Nat}
  (h : wx.cell? ⟨p, 0, none⟩ = some (.bool neg) /\ wx.cell? ⟨p, 1, none⟩ = some (.slice ao n cap) /\ wx.cell? ⟨q, 0, none⟩ = some (.bool neg') /\ wx.cell? ⟨q, 1, none⟩ = some (.slice ao' n' cap') /\ Below W.heap.size W wx) (hb : Below wx.heap.size wx wy) :
  wy.cell? ⟨p, 0, none⟩ = some (.bool neg) /\ wy.cell? ⟨p, 1, none⟩ = some (.slice ao n cap) /\ wy.cell? ⟨q, 0, none⟩ = some (.bool neg') /\ wy.cell? ⟨q, 1, none⟩ = some (.slice ao' n' cap') /\ Below W.heap.size W wy := by
 obtain ⟨h1, h2, h3, h4, h5⟩ := h
 exact ⟨(hb.cell (p := ⟨p, 0, none⟩) (cell_lt h1)).trans h1, (hb.cell (p := ⟨p, 1, none⟩) (cell_lt h1)).trans h2, (hb.cell (p := ⟨q, 0, none⟩) (cell_lt h3)).trans h3, (hb.cell (p := ⟨q, 1, none⟩) (cell_lt h3)).trans h4, Bt h5 hb⟩
theorem two_start (w : World) (neg neg' : Bool) (ao ao' : Option Addr) (n cap n' cap' : Nat) (t : TypeId) :
  ∀ W, W = ((w.alloc (.cells #[.bool neg, .slice ao n cap] t)).alloc (.cells #[.bool neg', .slice ao' n' cap'] t)) ->
  W.cell? ⟨w.heap.size, 0, none⟩ = some (.bool neg) /\ W.cell? ⟨w.heap.size, 1, none⟩ = some (.slice ao n cap) /\ W.cell? ⟨w.heap.size + 1, 0, none⟩ = some (.bool neg') /\ W.cell? ⟨w.heap.size + 1, 1, none⟩ = some (.slice ao' n' cap') /\ Below W.heap.size W W := by
 intro W hW
 subst hW
 refine ⟨?_, ?_, ?_, ?_, Below.refl _ _⟩ <;> simp
theorem two_bel {W wx : World} {p q : Nat} {neg neg' : Bool} {ao ao' : Option Addr} {n cap n' cap' : Nat}
  (h : wx.cell? ⟨p, 0, none⟩ = some (.bool neg) /\ wx.cell? ⟨p, 1, none⟩ = some (.slice ao n cap) /\ wx.cell? ⟨q, 0, none⟩ = some (.bool neg') /\ wx.cell? ⟨q, 1, none⟩ = some (.slice ao' n' cap') /\ Below W.heap.size W wx) : Below W.heap.size W wx := h.2.2.2.2
theorem two_drew {W wx : World} {p q : Nat} {neg neg' : Bool} {ao ao' : Option Addr} {n cap n' cap' : Nat}
  (h : wx.cell? ⟨p, 0, none⟩ = some (.bool neg) /\ wx.cell? ⟨p, 1, none⟩ = some (.slice ao n cap) /\ wx.cell? ⟨q, 0, none⟩ = some (.bool neg') /\ wx.cell? ⟨q, 1, none⟩ = some (.slice ao' n' cap') /\ Below W.heap.size W wx) :
  wx.drew.cell? ⟨p, 0, none⟩ = some (.bool neg) /\ wx.drew.cell? ⟨p, 1, none⟩ = some (.slice ao n cap) /\ wx.drew.cell? ⟨q, 0, none⟩ = some (.bool neg') /\ wx.drew.cell? ⟨q, 1, none⟩ = some (.slice ao' n' cap') /\ Below W.heap.size W wx.drew :=
 two_on h (Bd wx 1)
theorem rsize_bel (ao ao' : Option Addr) (n cap n' cap' : Nat) (l l' : List Nat) (w : World) (R : Row .u8 256 w ao n cap l) (R' : Row .u8 256 w ao' n' cap' l') (t : Tr l) (t' : Tr l') :
  Calls Tryz.prog 71 #[.slice ao n cap, .slice ao' n' cap'] w fun e w' => e = .returned (.int .i64 (cmpN (val 256 l) (val 256 l'))) /\ Below w.heap.size w w' :=
 (rsize_any ao ao' n cap n' cap' l l' w R R' t t').mono fun e w' ⟨h1, k, h2⟩ => ⟨h1, h2 ▸ Bd w k⟩
set_option maxHeartbeats 2000000 in
theorem rcmp_any (neg neg' : Bool) (ao ao' : Option Addr) (n cap n' cap' : Nat) (l l' : List Nat) (w : World) (R : Row .u32 B32 w ao n cap l) (R' : Row .u32 B32 w ao' n' cap' l') (hs : n <= 100) (hs' : n' <= 100) :
  Calls Tryz.prog 42 #[.agg #[.bool neg, .slice ao n cap], .agg #[.bool neg', .slice ao' n' cap']] w fun e w' => e = .returned (.int .i64 (cmpR neg neg' (val B32 l) (val B32 l'))) /\ Below w.heap.size w w' := by
 by_cases hne : neg = neg'
 ·subst hne
  have e0 : (neg != neg) = false := by simp
  have HR := hid R
  have HR' := hid R'
  clear R R'
  go_enter Tryz.func42, Tryz.ntmps42
  go_wp2
  have hS := two_start w neg neg ao ao' n cap n' cap' 24 _ rfl
  have hbW := Baa w (.cells #[.bool neg, .slice ao n cap] 24) (.cells #[.bool neg, .slice ao' n' cap'] 24)
  generalize hW : ((w.alloc (.cells #[.bool neg, .slice ao n cap] 24)).alloc (.cells #[.bool neg, .slice ao' n' cap'] 24)) = W at *
  have RW := hid (HR.out.below hbW)
  have RW' := hid (HR'.out.below hbW)
  have HbW := hid hbW
  clear hW hbW
  go_region_held3 (fun wx => wx.cell? ⟨w.heap.size, 0, none⟩ = some (.bool neg) /\ wx.cell? ⟨w.heap.size, 1, none⟩ = some (.slice ao n cap) /\ wx.cell? ⟨w.heap.size + 1, 0, none⟩ = some (.bool neg) /\ wx.cell? ⟨w.heap.size + 1, 1, none⟩ = some (.slice ao' n' cap') /\ Below W.heap.size W wx)
   (first | exact two_drew hS | exact two_on (by assumption) (by assumption))
   (first
    | (go_at_call_of 72 (Value.slice ao n cap); refine (bytes_any neg ao n cap l _ ?_ hs).mono ?_; (exact RW.out.below (two_bel (p := w.heap.size) (q := w.heap.size + 1) (neg := neg) (neg' := neg) (ao := ao) (ao' := ao') (n := n) (cap := cap) (n' := n') (cap' := cap') (by assumption))); rintro e w1 ⟨m1, ao1, cap1, l1, rfl, hm1, hO1, ht1, hv1, hb1⟩)
    | (go_at_call_of 72 (Value.slice ao' n' cap'); refine (bytes_any neg ao' n' cap' l' _ ?_ hs').mono ?_; (exact RW'.out.below (two_bel (p := w.heap.size) (q := w.heap.size + 1) (neg := neg) (neg' := neg) (ao := ao) (ao' := ao') (n := n) (cap := cap) (n' := n') (cap' := cap') (by assumption))); rintro e w1 ⟨m2, ao2, cap2, l2, rfl, hm2, hO2, ht2, hv2, hb2⟩)
    | (go_at_call 71; refine (rsize_bel ao1 ao2 m1 cap1 m2 cap2 l1 l2 _ (hO1.row.below hb2) hO2.row ht1 ht2).mono ?_; rintro e w3 ⟨rfl, hb3⟩))
  have hbel : Hid (Below w.heap.size w w3) := Bt HbW.out (two_bel (p := w.heap.size) (q := w.heap.size + 1) (neg := neg) (neg' := neg) (ao := ao) (ao' := ao') (n := n) (cap := cap) (n' := n') (cap' := cap') (by assumption))
  have hc : w3.cell? ⟨w.heap.size, 0, none⟩ = some (.bool neg) := by rename_i hh; exact hh.1
  rename_i hh
  have hbd := cmpN_bd (val B32 l) (val B32 l')
  generalize hN : cmpN (val B32 l) (val B32 l') = N at *
  have HN : Hid (cmpR neg neg (val B32 l) (val B32 l') = if neg then - N else N) := by unfold Hid; rw [cmpR_eq, hN]
  clear hh hS hb3 hb2 hb1 hO1 hO2 hv1 hv2 ht1 ht2 hN
  cases neg
  ·go_wp2
   go_ret
   exact ⟨ret_i64 (by rw [HN.out]; simp), hbel.out⟩
  ·go_wp2
   go_ret
   exact ⟨ret_i64 (by rw [HN.out]; simp), hbel.out⟩
 ·have e0 : (neg != neg') = true := by rw [bne_iff_ne]; exact hne
  have HC := hid (cmpR_ne (val B32 l) (val B32 l') hne)
  clear R R'
  cases neg <;> cases neg'
  ·exact absurd rfl hne
  ·go_enter Tryz.func42, Tryz.ntmps42
   go_wp2
   go_ret
   exact ⟨ret_i64 (by rw [HC.out]; simp), Baa _ _ _⟩
  ·go_enter Tryz.func42, Tryz.ntmps42
   go_wp2
   go_ret
   exact ⟨ret_i64 (by rw [HC.out]; simp), Baa _ _ _⟩
  ·exact absurd rfl hne
set_option maxHeartbeats 1000000 in
theorem rsame_any (neg neg' : Bool) (ao ao' : Option Addr) (n cap n' cap' : Nat) (l l' : List Nat) (w : World) (R : Row .u32 B32 w ao n cap l) (R' : Row .u32 B32 w ao' n' cap' l') (hs : n <= 100) (hs' : n' <= 100) :
  Calls Tryz.prog 23 #[.agg #[.bool neg, .slice ao n cap], .agg #[.bool neg', .slice ao' n' cap']] w fun e w' => e = .returned (.bool (cmpR neg neg' (val B32 l) (val B32 l') == 0)) /\ Below w.heap.size w w' := by
 have HR := hid R
 have HR' := hid R'
 clear R R'
 go_enter Tryz.func23, Tryz.ntmps23
 go_wp2_with fail
 refine (rcmp_any neg neg' ao ao' n cap n' cap' l l' _ (HR.out.below (Baa _ _ _)) (HR'.out.below (Baa _ _ _)) hs hs').mono ?_
 rintro e w1 ⟨rfl, hb⟩
 have hb' := hid (Bt (Baa w _ _) hb)
 clear hb
 go_wp2
 go_ret
 exact ⟨rfl, hb'.out⟩
end Go.Proofs.YtdekkieajffblaaGreatDoor
