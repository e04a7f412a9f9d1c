import Derived.Test.YtbkfinjajkjhaaaGreatDoorW2
import Derived.Test.YtbkfinjajkjhaaaGreatDoorApp
import Derived.Lib.SliceRun
import Derived.Deep.RegionHeld3
set_option linter.unusedVariables false
set_option linter.unusedSimpArgs false
namespace Go.Proofs.YtbkfinjajkjhaaaGreatDoor
open Go.RowKit
theorem k7 : (Tryz.prog.info? 97).map (fun i => (i.zero, i.size, i.bytes)) = some (some (.int .u32 0), 1, 4) := by kernel_rfl
theorem yr : (Tryz.prog.info? 5).map (fun i => (i.zero, i.size, i.bytes)) = some (some (.int .u8 0), 1, 1) := by kernel_rfl
set_option maxHeartbeats 400000 in
theorem zdw (ao : Option Addr) (n cap : Nat) (l : List Nat) (w : World) (R : Row .u32 B32 w ao n cap l) (hs : n <= 1000) :
  Calls Tryz.prog 109 #[.slice ao n cap] w fun e w' => ∃ ao' cap', e = .returned (.slice ao' n cap') /\ Own .u32 97 B32 w.heap.size w' ao' n cap' l /\ Below w.heap.size w w' := by
 have heq := fun wx => Lib.run_eql_slice_nil (P := Tryz.prog) wx 53 97 ao n cap 0 0 Tryz.underlying53
 have HD : Hid (Dg B32 l) := R.dg
 cases ao with
 | none =>
  have hc := R.nil_ rfl
  subst hc
  have hm : n = 0 := by have := R.fits; omega
  subst hm
  have hl : l = [] := List.length_eq_zero_iff.1 R.len
  subst hl
  simp only [Option.isNone_none] at heq
  clear R HD
  go_enter Tryz.func109, Tryz.ntmps109
  go_wp2
  go_ret
  exact ⟨none, 0, rfl, Own.nil _ _ _ _ _ _, Below.refl _ _⟩
 | some a =>
  simp only [Option.isNone_some] at heq
  have HR : Hid (Row .u32 B32 w (some a) n cap l) := R
  clear R
  go_enter Tryz.func109, Tryz.ntmps109
  go_wp2_with (at_builtin; refine zbr rfl _ _ 53 rfl w.heap.size 97 .u32 4 (by decide) Tryz.underlying53 k7 _ 0 [] rfl (own0 w .u32 97) B32 (some a) n cap l rfl (HR.out.below (Ba _ _)) (by omega) (by simp) ?_; intro v' w1 hown hbel)
  simp only [Nat.zero_add, List.nil_append] at hown
  have hb := Bb (Ba w (.cells #[] 97)) hbel (Nat.le_refl _)
  have HO := hid hown
  have HB := hid hb
  clear hown hbel hb
  go_wp2
  go_ret
  obtain ⟨ao', cap', rfl, hO⟩ := jb HO.out HD.out
  exact ⟨ao', cap', rfl, hO, HB.out⟩
set_option maxHeartbeats 400000 in
theorem vf (ao : Option Addr) (n cap : Nat) (l : List Nat) (w : World) (R : Row .u8 256 w ao n cap l) (hs : n <= 1000) :
  Calls Tryz.prog 55 #[.slice ao n cap] w fun e w' => ∃ m ao' cap', m <= n /\ e = .returned (.slice ao' m cap') /\ Own .u8 5 256 w.heap.size w' ao' m cap' (l.take m) /\ Tr (l.take m) /\ val 256 (l.take m) = val 256 l /\ Below w.heap.size w w' := by
 have HR : Hid (Row .u8 256 w ao n cap l) := R
 obtain ⟨hn, hcap, hmax, _, hdg, hrd⟩ := R
 unfold maxLen at hmax
 have HN : Hid (l.length = n) := hn
 have HD : Hid (Dg 256 l) := hdg
 clear hn hdg
 go_enter Tryz.func55, Tryz.ntmps55
 go_wp2
 go_loop [3] (fun t => ∃ m : Nat, m <= n /\ t = .int .i64 m /\ Hid (val 256 (l.take m) = val 256 l)) (fun t => (intOf t).toNat)
 case atStart => exact ⟨n, Nat.le_refl _, rfl, by unfold Hid; rw [List.take_of_length_le (by rw [HN.out]; exact Nat.le_refl _)]⟩
 case round =>
  obtain ⟨m, hm, rfl, hv⟩ := hrel
  have HR2 : Hid (Row .u8 256 (w.alloc (.cells #[] 5)) ao m cap (l.take m)) := (HR.out.take hm cap (by omega) (Nat.le_refl _)).below (Ba _ _)
  by_cases hz : m = 0
  ·subst hz
   go_wp2_with (at_builtin; refine zbr rfl _ _ 22 rfl w.heap.size 5 .u8 1 (by decide) Tryz.underlying22 yr _ 0 [] rfl (own0 w .u8 5) 256 ao 0 cap (l.take 0) rfl HR2.out (by omega) (by simp) ?_; intro v' w1 hown hbel)
   simp only [Nat.zero_add, List.nil_append] at hown
   have hb := Bb (Ba w (.cells #[] 5)) hbel (Nat.le_refl _)
   have HO := hid hown
   have HB := hid hb
   clear hown hbel hb
   go_wp2
   go_ret
   obtain ⟨ao', cap', rfl, hO⟩ := jb HO.out (HD.out.take 0)
   exact ⟨0, Nat.zero_le _, ao', cap', rfl, hO, .inl (by simp), hv.out, HB.out⟩
  ·obtain ⟨b, o, rfl, hl, hc⟩ := hrd.some (by rw [HN.out]; omega)
   have hc1 := hc (m - 1) (by rw [HN.out]; omega)
   obtain ⟨d, hd⟩ : ∃ d, d = l.getD (m - 1) 0 := ⟨_, rfl⟩
   rw [<- hd] at hc1
   have H1 : Hid (d = l.getD (m - 1) 0) := hd
   clear hd hc hrd
   have hpos : (0 : Int) < m := by omega
   by_cases hd0 : d = 0
   ·subst hd0
    go_wp2
    go_round
    case rel => exact ⟨m - 1, by omega, by go_num, by
     unfold Hid
     rw [<- hv.out]
     have := jm 256 l (m - 1) (by rw [HN.out]; omega) H1.out.symm
     rw [show m - 1 + 1 = m by omega] at this
     exact this.symm⟩
    case measure => simp [intOf]; omega
   ·have hne : ((d : Int) == 0) = false := by simp; omega
    go_wp2_with (at_builtin; refine zbr rfl _ _ 22 rfl w.heap.size 5 .u8 1 (by decide) Tryz.underlying22 yr _ 0 [] rfl (own0 w .u8 5) 256 _ m cap (l.take m) rfl HR2.out (by omega) (by simp) ?_; intro v' w1 hown hbel)
    simp only [Nat.zero_add, List.nil_append] at hown
    have hb := Bb (Ba w (.cells #[] 5)) hbel (Nat.le_refl _)
    have HO := hid hown
    have HB := hid hb
    clear hown hbel hb
    go_wp2
    go_ret
    obtain ⟨ao', cap', rfl, hO⟩ := jb HO.out (HD.out.take m)
    exact ⟨m, hm, ao', cap', rfl, hO, Tr.take_of (by rw [HN.out]; exact hm) (.inr (by rw [<- H1.out]; exact hd0)), hv.out, HB.out⟩
def b4 (d : Nat) : List Nat := [d % 256, d / 256 % 256, d / 65536 % 256, d / 16777216 % 256]
def bytesOf (l : List Nat) : List Nat := l.flatMap b4
theorem zld (d : Nat) (h : d < B32) : val 256 (b4 d) = d := by
 unfold B32 at h
 simp only [b4, val]; omega
theorem zly (d : Nat) : Dg 256 (b4 d) := by
 intro x hx
 simp only [b4, List.mem_cons, List.not_mem_nil, or_false] at hx
 omega
theorem zcq (l : List Nat) : Dg 256 (bytesOf l) := by
 intro x hx
 obtain ⟨d, _, hd⟩ := List.mem_flatMap.1 hx
 exact zly d x hd
theorem zaj (l : List Nat) (h : Dg B32 l) : val 256 (bytesOf l) = val B32 l := by
 induction l with
 | nil => rfl
 | cons d l ih =>
  have h1 := ih (fun x hx => h x (by simp [hx]))
  have h2 : d < B32 := h d (by simp)
  show val 256 (b4 d ++ bytesOf l) = _
  have e : 256 ^ (b4 d).length = B32 := by simp [b4, B32]
  rw [j4, h1, zld d h2, ys, e]
theorem fd (l : List Nat) (k : Nat) (h : k < l.length) : bytesOf (l.take (k + 1)) = bytesOf (l.take k) ++ b4 (l.getD k 0) := by
 rw [jr l k h]; simp [bytesOf]
set_option maxHeartbeats 1000000 in
theorem zdx (neg : Bool) (ao : Option Addr) (n cap : Nat) (l : List Nat) (w : World) (R : Row .u32 B32 w ao n cap l) (hs : n <= 100) :
  Calls Tryz.prog 54 #[.agg #[.bool neg, .slice ao n cap]] w fun e w' => ∃ m ao' cap' l', e = .returned (.slice ao' m cap') /\ m <= 4 * n /\ Own .u8 5 256 w.heap.size w' ao' m cap' l' /\ Tr l' /\ val 256 l' = val B32 l /\ Below w.heap.size w w' := by
 have HR := hid R
 obtain ⟨hn, hcap, hmax, _, hdg, hrd⟩ := R
 unfold maxLen at hmax
 have HN := hid hn
 have HD := hid hdg
 have HRd := hid hrd
 clear hn hdg hrd
 go_enter Tryz.func54, Tryz.ntmps54
 go_wp2
 go_loopw [3, 4, 5] (fun v i _j wr => ∃ m : Nat, m <= n /\ i = .int .i64 m /\ Hid (wr.ownsRow (w.heap.size + 1) 5 1 v (4 * m) (cs .u8 (bytesOf (l.take m))) /\ Below (w.heap.size + 1) (w.alloc (.cells #[.bool neg, .slice ao n cap] 55)) wr)) (fun _ i _ _ => n - (intOf i).toNat)
 case atStart => exact ⟨0, Nat.zero_le _, rfl, by simpa [bytesOf, cs] using World.ownsRow_nil _ _ _ _, Below.refl _ _⟩
 case round =>
  obtain ⟨m, hm, rfl, hH⟩ := hrel
  have hbox : wr.cell? ⟨w.heap.size, 1, none⟩ = some (.slice ao n cap) := (hH.out.2.cell (p := ⟨w.heap.size, 1, none⟩) (by simp)).trans (by simp)
  by_cases hlt : m < n
  ·obtain ⟨wo, rfl⟩ : ∃ wo : World, wo = wr := ⟨_, rfl⟩
   obtain ⟨b, o, rfl, hl, hc⟩ := HRd.out.some (by rw [HN.out]; omega)
   obtain ⟨d, hd⟩ : ∃ d, d = l.getD m 0 := ⟨_, rfl⟩
   have hdb : d < 4294967296 := by rw [hd]; exact HD.out.getD _ (by rw [HN.out]; omega)
   have HC : Hid (w.cell? ⟨b, o + m, none⟩ = some (.int .u32 d)) := by rw [hd]; exact hc m (by rw [HN.out]; omega)
   have HDm := hid hd
   clear hc hd
   go_wp2
   go_loopw [3, 5] (fun v j wr => ∃ k : Nat, k <= 4 /\ j = .int .i64 k /\ Hid (wr.ownsRow (w.heap.size + 1) 5 1 v (4 * m + k) (cs .u8 (bytesOf (l.take m) ++ (b4 d).take k)) /\ Below (w.heap.size + 1) (w.alloc (.cells #[.bool neg, .slice (some ⟨b, o, none⟩) n cap] 55)) wr)) (fun _ j _ => 4 - (intOf j).toNat)
   case atStart => exact ⟨0, by omega, rfl, by simpa using hH.out.1, hH.out.2⟩
   case round =>
    obtain ⟨k, hk, rfl, hI⟩ := hrel
    have hbox' : wr.cell? ⟨w.heap.size, 1, none⟩ = some (.slice (some ⟨b, o, none⟩) n cap) := (hI.out.2.cell (p := ⟨w.heap.size, 1, none⟩) (by simp)).trans (by simp)
    have hcell' : wr.cell? ⟨b, o + m, none⟩ = some (.int .u32 d) := (hI.out.2.cell (p := ⟨b, o + m, none⟩) (by simp; omega)).trans (by rw [World.cell?_alloc_past _ _ _ hl]; exact HC.out)
    have hsz : Hid (w.heap.size + 1 <= wr.heap.size) := by have := hI.out.2.size; unfold Hid; simpa using this
    clear hbox
    by_cases hk4 : k < 4
    ·obtain ⟨hI1, hI2⟩ := hI.out
     have HI1 := hid hI1
     have HI2 := hid hI2
     clear hI hI1 hI2
     have : k = 0 \/ k = 1 \/ k = 2 \/ k = 3 := by omega
     rcases this with rfl | rfl | rfl | rfl
     ·go_wp2_with (at_builtin; refine app1 rfl _ _ 22 rfl (w.heap.size + 1) 5 .u8 1 (by decide) Tryz.underlying22 yr _ _ _ rfl (HI1.out.alloc _) ⟨wr.heap.size, 0, none⟩ 1 ((b4 d).getD 0 0) rfl ?c0 (by omega) (by have := hsz.out; simp; omega) ?_; rotate_right; intro g cap' w1 hown hbel)
      case c0 => rw [zz]; simp [b4]
      case roundEnd => exact ⟨⟨1, by omega, rfl, k6 hown (by omega) (by simp [b4]), (HI2.out.alloc hsz.out _).trans hbel⟩, by simp [intOf]⟩
     ·go_wp2_with (at_builtin; refine app1 rfl _ _ 22 rfl (w.heap.size + 1) 5 .u8 1 (by decide) Tryz.underlying22 yr _ _ _ rfl (HI1.out.alloc _) ⟨wr.heap.size, 0, none⟩ 1 ((b4 d).getD 1 0) rfl ?c1 (by omega) (by have := hsz.out; simp; omega) ?_; rotate_right; intro g cap' w1 hown hbel)
      case c1 => rw [zz]; simp [b4]
      case roundEnd => exact ⟨⟨2, by omega, rfl, k6 hown (by omega) (by simp [b4]), (HI2.out.alloc hsz.out _).trans hbel⟩, by simp [intOf]⟩
     ·go_wp2_with (at_builtin; refine app1 rfl _ _ 22 rfl (w.heap.size + 1) 5 .u8 1 (by decide) Tryz.underlying22 yr _ _ _ rfl (HI1.out.alloc _) ⟨wr.heap.size, 0, none⟩ 1 ((b4 d).getD 2 0) rfl ?c2 (by omega) (by have := hsz.out; simp; omega) ?_; rotate_right; intro g cap' w1 hown hbel)
      case c2 => rw [zz]; simp [b4]
      case roundEnd => exact ⟨⟨3, by omega, rfl, k6 hown (by omega) (by simp [b4]), (HI2.out.alloc hsz.out _).trans hbel⟩, by simp [intOf]⟩
     ·go_wp2_with (at_builtin; refine app1 rfl _ _ 22 rfl (w.heap.size + 1) 5 .u8 1 (by decide) Tryz.underlying22 yr _ _ _ rfl (HI1.out.alloc _) ⟨wr.heap.size, 0, none⟩ 1 ((b4 d).getD 3 0) rfl ?c3 (by omega) (by have := hsz.out; simp; omega) ?_; rotate_right; intro g cap' w1 hown hbel)
      case c3 => rw [zz]; simp [b4]; omega
      case roundEnd => exact ⟨⟨4, by omega, rfl, k6 hown (by omega) (by simp [b4]), (HI2.out.alloc hsz.out _).trans hbel⟩, by simp [intOf]⟩
    ·obtain rfl : k = 4 := by omega
     go_wp2
     case roundEnd =>
      refine ⟨⟨m + 1, by omega, by go_num, ?_, hI.out.2⟩, by simp [intOf]; omega⟩
      have := hI.out.1
      rw [fd l m (by rw [HN.out]; omega), <- HDm.out]
      exact this
  ·obtain rfl : m = n := by omega
   obtain ⟨ao', cap', hu, hO⟩ := jb hH.out.1 (zcq _)
   subst hu
   have HO := hid hO
   clear hO
   have hb0 : Hid (Below w.heap.size w wr) := (Ba w _).trans (hH.out.2.mono (Nat.le_succ _))
   go_wp2_with fail
   refine (vf ao' (4 * m) cap' _ wr HO.out.row (by omega)).mono ?_
   rintro e w1 ⟨m', ao2, cap2, hm', rfl, hO2, ht, hv, hb⟩
   have H2 := hid hO2
   have H3 := hid ht
   have H4 := hid hv
   have H5 := hid hb
   clear hO2 ht hv hb
   go_wp2
   go_ret
   refine ⟨m', ao2, cap2, _, rfl, hm', H2.out.base hb0.out.size, H3.out, ?_, Bt hb0.out H5.out⟩
   rw [H4.out, zaj _ (HD.out.take m), List.take_of_length_le (by rw [HN.out]; omega)]
def lw (b : List Nat) (j : Nat) : Nat := val 256 ((b.drop (4 * j)).take 4)
def lws (b : List Nat) (j : Nat) : List Nat := (List.range j).map (lw b)
theorem yv (b : List Nat) (j : Nat) : (lws b j).length = j := by simp [lws]
theorem gh (b : List Nat) (j : Nat) : lws b (j + 1) = lws b j ++ [lw b j] := by simp [lws, List.range_succ]
theorem zdy (j : Nat) : 256 ^ (4 * j) = B32 ^ j := by
 rw [Nat.pow_mul]; rfl
theorem zjm : (256 : Nat) ^ 4 = B32 := rfl
theorem zle {b : List Nat} (h : Dg 256 b) (j : Nat) : lw b j < B32 := by
 have h1 := kq ((h.drop (4 * j)).take 4)
 have h2 : (256 : Nat) ^ ((b.drop (4 * j)).take 4).length <= 256 ^ 4 := Nat.pow_le_pow_right (by decide) (by rw [List.length_take]; omega)
 rw [zjm] at h2
 unfold lw; omega
theorem zdz {b : List Nat} (h : Dg 256 b) (j : Nat) : Dg B32 (lws b j) := by
 intro x hx
 obtain ⟨i, _, rfl⟩ := List.mem_map.1 hx
 exact zle h i
theorem zea (b : List Nat) : ∀ j, 4 * j <= b.length + 3 -> val B32 (lws b j) = val 256 (b.take (4 * j))
 | 0, _ => by simp [lws, val]
 | j + 1, h => by
  have ih := zea b j (by omega)
  have e1 : b.take (4 * (j + 1)) = b.take (4 * j) ++ (b.drop (4 * j)).take 4 := by
   rw [show 4 * (j + 1) = 4 * j + 4 by omega, List.take_add]
  rw [gh, ja, ih, e1, j4, yv, List.length_take, Nat.min_eq_left (by omega), zdy]
  rfl
theorem zlf {b : List Nat} (ht : Tr b) (j : Nat) (h1 : b.length <= 4 * j) (h2 : 4 * j <= b.length + 3) : Tr (lws b j) := by
 by_cases hj : j = 0
 ·subst hj; exact .inl rfl
 ·refine .inr ?_
  have hl : 0 < b.length := by omega
  have hd : b.getD (b.length - 1) 0 ≠ 0 := ht.resolve_left (by intro e; simp [e] at hl)
  have e1 : (b.drop (4 * (j - 1))).take 4 = b.drop (4 * (j - 1)) := List.take_of_length_le (by rw [List.length_drop]; omega)
  have e2 : (lws b j).getD ((lws b j).length - 1) 0 = lw b (j - 1) := by
   rw [yv]
   obtain ⟨i, rfl⟩ : ∃ i, j = i + 1 := ⟨j - 1, by omega⟩
   rw [gh, qj (by rw [yv]; omega)]; rfl
  rw [e2]
  unfold lw
  rw [e1]
  have ht2 : Tr (b.drop (4 * (j - 1))) := by
   refine .inr ?_
   rw [List.getD_eq_getElem?_getD, List.getElem?_drop, <- List.getD_eq_getElem?_getD, List.length_drop, show 4 * (j - 1) + (b.length - 4 * (j - 1) - 1) = b.length - 1 by omega]
   exact hd
  refine ht2.ne_zero (by decide) ?_
  intro e
  have := congrArg List.length e
  rw [List.length_drop] at this
  simp at this; omega
theorem zgv (b : List Nat) (j k : Nat) (h : 4 * j + k < b.length) : val 256 ((b.drop (4 * j)).take (k + 1)) = val 256 ((b.drop (4 * j)).take k) + 256 ^ k * b.getD (4 * j + k) 0 := by
 rw [yb 256 _ k (by rw [List.length_drop]; omega), List.getD_eq_getElem?_getD, List.getElem?_drop, <- List.getD_eq_getElem?_getD]
theorem zlg {b : List Nat} (h : Dg 256 b) (j k : Nat) : val 256 ((b.drop (4 * j)).take k) < 256 ^ k := by
 have h1 := kq ((h.drop (4 * j)).take k)
 have h2 : (256 : Nat) ^ ((b.drop (4 * j)).take k).length <= 256 ^ k := Nat.pow_le_pow_right (by decide) (by rw [List.length_take]; omega)
 omega
def Big (v : Nat) : Prop := B32 ^ 40 <= v
def Ans (w : World) (x : Value) (en : Int) (neg : Bool) (v : Nat) : Prop :=
 (¬ Big v /\ en = 0 /\ ∃ l, gf w x (neg && decide (l ≠ [])) l /\ Tr l /\ val B32 l = v) \/ (Big v /\ en = 10 /\ x = .agg #[.bool false, .slice none 0 0])
theorem qt {l : List Nat} (hl : Dg B32 l) (ht : Tr l) : l.length <= 40 ↔ ¬ Big (val B32 l) := by
 rw [zcp (by decide) hl ht]; unfold Big; omega
theorem zgw (a d : Nat) (h1 : a < 256) (h2 : d < 256) : bits .or .u32 (a : Int) ((d : Int) * 256) = ((a + 256 * d : Nat) : Int) := by
 rw [show ((d : Int) * 256) = ((d * 256 : Nat) : Int) by omega, u32_or_nat _ _ (by omega) (by omega), Nat.or_comm, nat_join 8 _ _ (by omega) (by omega)]; omega
theorem zeb (a d : Nat) (h1 : a < 65536) (h2 : d < 256) : bits .or .u32 (a : Int) ((d : Int) * 65536) = ((a + 65536 * d : Nat) : Int) := by
 rw [show ((d : Int) * 65536) = ((d * 65536 : Nat) : Int) by omega, u32_or_nat _ _ (by omega) (by omega), Nat.or_comm, nat_join 16 _ _ (by omega) (by omega)]; omega
theorem zec (a d : Nat) (h1 : a < 16777216) (h2 : d < 256) : bits .or .u32 (a : Int) ((d : Int) * 16777216) = ((a + 16777216 * d : Nat) : Int) := by
 rw [show ((d : Int) * 16777216) = ((d * 16777216 : Nat) : Int) by omega, u32_or_nat _ _ (by omega) (by omega), Nat.or_comm, nat_join 24 _ _ (by omega) (by omega)]; omega
theorem zgx (d : Nat) (h2 : d < 256) : bits .or .u32 0 (d : Int) = ((d : Nat) : Int) := by
 have := u32_or_nat 0 d (by omega) (by omega)
 rw [Nat.zero_or] at this; exact this
theorem gi {w : World} {g i : Nat} {c : Array Value} {t : TypeId} (h : w.heap[g]? = some (.cells c t (0, 0))) (v : Value) : (w.setCell ⟨g, i, none⟩ v).heap[g]? = some (.cells (c.setIfInBounds i v) t (0, 0)) := by
 simp [World.setCell, Array.getElem?_modify, h]
theorem zm {w : World} {g : Nat} {c : Array Value} {t : TypeId} (h : w.heap[g]? = some (.cells c t (0, 0))) (i : Nat) : w.cell? ⟨g, i, none⟩ = c[i]? := by simp [World.cell?, h]
theorem yd {w : World} {g : Nat} {c : Array Value} {t : TypeId} (h : w.heap[g]? = some (.cells c t (0, 0))) (i : Nat) : w.frozen? ⟨g, i, none⟩ = false := by simp [World.frozen?, h]
theorem je (w : World) (c : Array Value) (t : TypeId) : (w.alloc (.cells c t)).heap[w.heap.size]? = some (.cells c t (0, 0)) := heap_alloc_new w _
theorem zlh {k : IntKind} {w : World} {l : List Nat} {p b o : Nat} {x : Bool} {a : Option Addr} {m c : Nat} {t : TypeId} (hl : 0 < l.length)
  (hc : ∀ i, i < l.length -> w.cell? ⟨b, o + i, none⟩ = some (.int k (l.getD i 0 : Nat))) (hp : w.heap[p]? = some (.cells #[.bool x, .slice a m c] t (0, 0))) : b ≠ p := by
 intro e
 subst e
 have h1 := hc 0 hl
 rw [zm hp] at h1
 simp only [Nat.add_zero] at h1
 match o, h1 with
 | 0, h1 => simp at h1
 | 1, h1 => simp at h1
 | o + 2, h1 => simp at h1
theorem Row.setBox {k : IntKind} {B : Nat} {w : World} {ao : Option Addr} {n cap : Nat} {l : List Nat} {p : Nat} {x : Bool} {a : Option Addr} {m c : Nat} {t : TypeId} (R : Row k B w ao n cap l)
  (hp : w.heap[p]? = some (.cells #[.bool x, .slice a m c] t (0, 0))) (i : Nat) (v : Value) : Row k B (w.setCell ⟨p, i, none⟩ v) ao n cap l := by
 refine ⟨R.len, R.fits, R.most, R.nil_, R.dg, ?_⟩
 rcases R.rd with h | ⟨b, o, h1, h2, h3⟩
 ·exact .inl h
 ·by_cases hl : 0 < l.length
  ·have hne := zlh hl h3 hp
   exact .inr ⟨b, o, h1, by simpa [World.setCell] using h2, fun j hj => (World.cell?_of_block (w := w) (a := ⟨b, o + j, none⟩) (Below.heap_setCell w ⟨p, i, none⟩ v b hne)).trans (h3 j hj)⟩
  ·exact .inl (List.length_eq_zero_iff.1 (by omega))
theorem Row.setBox2 {k : IntKind} {B : Nat} {w : World} {ao : Option Addr} {n cap : Nat} {l : List Nat} {p : Nat} {x : Bool} {a : Option Addr} {m c : Nat} {t : TypeId} (R : Row k B w ao n cap l)
  (hp : w.heap[p]? = some (.cells #[.bool x, .slice a m c] t (0, 0))) (y : Bool) (v : Value) : Row k B ((w.setCell ⟨p, 0, none⟩ (.bool y)).setCell ⟨p, 1, none⟩ v) ao n cap l :=
 (R.setBox hp 0 (.bool y)).setBox (gi hp (.bool y)) 1 v
theorem zgy {w : World} {p : Nat} {x : Bool} {a : Option Addr} {m c : Nat} {t : TypeId} (hp : w.heap[p]? = some (.cells #[.bool x, .slice a m c] t (0, 0))) (y : Bool) (v : Value) :
  ((w.setCell ⟨p, 0, none⟩ (.bool y)).setCell ⟨p, 1, none⟩ v).heap[p]? = some (.cells #[.bool y, v] t (0, 0)) := gi (gi hp (.bool y)) v
def Box (t : TypeId) (w : World) (p : Nat) (x : Bool) (a : Option Addr) (m c : Nat) : Prop := w.heap[p]? = some (.cells #[.bool x, .slice a m c] t (0, 0))
theorem Box.lt {t : TypeId} {w : World} {p : Nat} {x : Bool} {a : Option Addr} {m c : Nat} (h : Box t w p x a m c) : p < w.heap.size := (Array.getElem?_eq_some_iff.1 h).1
theorem Box.on {t : TypeId} {w w' : World} {p : Nat} {x : Bool} {a : Option Addr} {m c : Nat} (h : Box t w p x a m c) (hb : Below w.heap.size w w') : Box t w' p x a m c := (hb.block p h.lt).trans h
theorem Box.below {t : TypeId} {w w' : World} {p B : Nat} {x : Bool} {a : Option Addr} {m c : Nat} (h : Box t w p x a m c) (hb : Below B w w') (hp : p < B) : Box t w' p x a m c := (hb.block p hp).trans h
theorem Box.c {t : TypeId} {w : World} {p : Nat} {x : Bool} {a : Option Addr} {m c : Nat} (h : Box t w p x a m c) : w.cell? ⟨p, 0, none⟩ = some (.bool x) /\ w.cell? ⟨p, 1, none⟩ = some (.slice a m c) := ⟨zm h 0, zm h 1⟩
theorem Box.f {t : TypeId} {w : World} {p : Nat} {x : Bool} {a : Option Addr} {m c : Nat} (h : Box t w p x a m c) : w.frozen? ⟨p, 0, none⟩ = false /\ w.frozen? ⟨p, 1, none⟩ = false := ⟨yd h 0, yd h 1⟩
theorem Box.new (t : TypeId) (w : World) (x : Bool) (a : Option Addr) (m c : Nat) : Box t (w.alloc (.cells #[.bool x, .slice a m c] t)) w.heap.size x a m c := je _ _ _
theorem Box.alloc {t : TypeId} {w : World} {p : Nat} {x : Bool} {a : Option Addr} {m c : Nat} (h : Box t w p x a m c) (o : Obj) : Box t (w.alloc o) p x a m c := h.on (Ba w o)
theorem Box.set2 {t : TypeId} {w : World} {p : Nat} {x : Bool} {a : Option Addr} {m c : Nat} (h : Box t w p x a m c) (y : Bool) (a' : Option Addr) (m' c' : Nat) : Box t ((w.setCell ⟨p, 0, none⟩ (.bool y)).setCell ⟨p, 1, none⟩ (.slice a' m' c')) p y a' m' c' := zgy h y _
theorem gf.open_ {w : World} {x : Value} {s : Bool} {l : List Nat} (h : gf w x s l) : ∃ ao n cap sg, x = .agg #[.bool sg, .slice ao n cap] /\ Hid (sg = s) /\ Row .u32 B32 w ao n cap l := by
 obtain ⟨ao, n, cap, h1, h2⟩ := h
 exact ⟨ao, n, cap, s, h1, rfl, h2⟩
end Go.Proofs.YtbkfinjajkjhaaaGreatDoor
