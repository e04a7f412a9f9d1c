import Derived.Test.YtadfihnffboelaaGreatDoorApp
import Derived.Lib.SliceRun
import Derived.Deep.RegionHeld3
set_option linter.unusedVariables false
set_option linter.unusedSimpArgs false
namespace Go.Proofs.YtadfihnffboelaaGreatDoor
open Go.RowKit
theorem zdm : (Tryz.prog.info? 182).map (fun i => (i.zero, i.size, i.bytes)) = some (some (.int .u32 0), 1, 4) := by kernel_rfl
theorem vs : (Tryz.prog.info? 5).map (fun i => (i.zero, i.size, i.bytes)) = some (some (.int .u8 0), 1, 1) := by kernel_rfl
set_option maxHeartbeats 400000 in
theorem zqz (ao : Option Addr) (n cap : Nat) (l : List Nat) (w : World) (R : Row .u32 B32 w ao n cap l) (hs : n <= 1000) :
  Calls Tryz.prog 181 #[.slice ao n cap] w fun e w' => ∃ ao' cap', e = .returned (.slice ao' n cap') /\ Own .u32 182 B32 w.heap.size w' ao' n cap' l /\ Below w.heap.size w w' := by
 have heq := fun wx => Lib.run_eql_slice_nil (P := Tryz.prog) wx 132 182 ao n cap 0 0 Tryz.underlying132
 have HD : Hid (Dg B32 l) := R.dg
 cases ao with
 | none =>
  have hc := R.nil_ rfl
  subst hc
  have hm : n = 0 := by have := R.fits; omega
  subst hm
  have hl : l = [] := List.length_eq_zero_iff.1 R.len
  subst hl
  simp only [Option.isNone_none] at heq
  clear R HD
  go_enter Tryz.func181, Tryz.ntmps181
  go_wp2
  go_ret
  exact ⟨none, 0, rfl, Own.nil _ _ _ _ _ _, Below.refl _ _⟩
 | some a =>
  simp only [Option.isNone_some] at heq
  have HR : Hid (Row .u32 B32 w (some a) n cap l) := R
  clear R
  go_enter Tryz.func181, Tryz.ntmps181
  go_wp2_with (at_builtin; refine zqy rfl _ _ 132 rfl w.heap.size 182 .u32 4 (by decide) Tryz.underlying132 zdm _ 0 [] rfl (own0 w .u32 182) B32 (some a) n cap l rfl (HR.out.below (Ba _ _)) (by omega) (by simp) ?_; intro v' w1 hown hbel)
  simp only [Nat.zero_add, List.nil_append] at hown
  have hb := Bb (Ba w (.cells #[] 182)) hbel (Nat.le_refl _)
  have HO := hid hown
  have HB := hid hb
  clear hown hbel hb
  go_wp2
  go_ret
  obtain ⟨ao', cap', rfl, hO⟩ := xt HO.out HD.out
  exact ⟨ao', cap', rfl, hO, HB.out⟩
set_option maxHeartbeats 400000 in
theorem zdv (ao : Option Addr) (n cap : Nat) (l : List Nat) (w : World) (R : Row .u8 256 w ao n cap l) (hs : n <= 1000) :
  Calls Tryz.prog 147 #[.slice ao n cap] w fun e w' => ∃ m ao' cap', m <= n /\ e = .returned (.slice ao' m cap') /\ Own .u8 5 256 w.heap.size w' ao' m cap' (l.take m) /\ Tr (l.take m) /\ val 256 (l.take m) = val 256 l /\ Below w.heap.size w w' := by
 have HR : Hid (Row .u8 256 w ao n cap l) := R
 obtain ⟨hn, hcap, hmax, _, hdg, hrd⟩ := R
 unfold maxLen at hmax
 have HN : Hid (l.length = n) := hn
 have HD : Hid (Dg 256 l) := hdg
 clear hn hdg
 go_enter Tryz.func147, Tryz.ntmps147
 go_wp2
 go_loop [3] (fun t => ∃ m : Nat, m <= n /\ t = .int .i64 m /\ Hid (val 256 (l.take m) = val 256 l)) (fun t => (intOf t).toNat)
 case atStart => exact ⟨n, Nat.le_refl _, rfl, by unfold Hid; rw [List.take_of_length_le (by rw [HN.out]; exact Nat.le_refl _)]⟩
 case round =>
  obtain ⟨m, hm, rfl, hv⟩ := hrel
  have HR2 : Hid (Row .u8 256 (w.alloc (.cells #[] 5)) ao m cap (l.take m)) := (HR.out.take hm cap (by omega) (Nat.le_refl _)).below (Ba _ _)
  by_cases hz : m = 0
  ·subst hz
   go_wp2_with (at_builtin; refine zqy rfl _ _ 177 rfl w.heap.size 5 .u8 1 (by decide) Tryz.underlying177 vs _ 0 [] rfl (own0 w .u8 5) 256 ao 0 cap (l.take 0) rfl HR2.out (by omega) (by simp) ?_; intro v' w1 hown hbel)
   simp only [Nat.zero_add, List.nil_append] at hown
   have hb := Bb (Ba w (.cells #[] 5)) hbel (Nat.le_refl _)
   have HO := hid hown
   have HB := hid hb
   clear hown hbel hb
   go_wp2
   go_ret
   obtain ⟨ao', cap', rfl, hO⟩ := xt HO.out (HD.out.take 0)
   exact ⟨0, Nat.zero_le _, ao', cap', rfl, hO, .inl (by simp), hv.out, HB.out⟩
  ·obtain ⟨b, o, rfl, hl, hc⟩ := hrd.some (by rw [HN.out]; omega)
   have hc1 := hc (m - 1) (by rw [HN.out]; omega)
   obtain ⟨d, hd⟩ : ∃ d, d = l.getD (m - 1) 0 := ⟨_, rfl⟩
   rw [<- hd] at hc1
   have H1 : Hid (d = l.getD (m - 1) 0) := hd
   clear hd hc hrd
   have hpos : (0 : Int) < m := by omega
   by_cases hd0 : d = 0
   ·subst hd0
    go_wp2
    go_round
    case rel => exact ⟨m - 1, by omega, by go_num, by
     unfold Hid
     rw [<- hv.out]
     have := x4 256 l (m - 1) (by rw [HN.out]; omega) H1.out.symm
     rw [show m - 1 + 1 = m by omega] at this
     exact this.symm⟩
    case measure => simp [intOf]; omega
   ·have hne : ((d : Int) == 0) = false := by simp; omega
    go_wp2_with (at_builtin; refine zqy rfl _ _ 177 rfl w.heap.size 5 .u8 1 (by decide) Tryz.underlying177 vs _ 0 [] rfl (own0 w .u8 5) 256 _ m cap (l.take m) rfl HR2.out (by omega) (by simp) ?_; intro v' w1 hown hbel)
    simp only [Nat.zero_add, List.nil_append] at hown
    have hb := Bb (Ba w (.cells #[] 5)) hbel (Nat.le_refl _)
    have HO := hid hown
    have HB := hid hb
    clear hown hbel hb
    go_wp2
    go_ret
    obtain ⟨ao', cap', rfl, hO⟩ := xt HO.out (HD.out.take m)
    exact ⟨m, hm, ao', cap', rfl, hO, Tr.take_of (by rw [HN.out]; exact hm) (.inr (by rw [<- H1.out]; exact hd0)), hv.out, HB.out⟩
def b4 (d : Nat) : List Nat := [d % 256, d / 256 % 256, d / 65536 % 256, d / 16777216 % 256]
def x5 (l : List Nat) : List Nat := l.flatMap b4
theorem zby1 (d : Nat) (h : d < B32) : val 256 (b4 d) = d := by
 unfold B32 at h
 simp only [b4, val]; omega
theorem zeb1 (d : Nat) : Dg 256 (b4 d) := by
 intro x hx
 simp only [b4, List.mem_cons, List.not_mem_nil, or_false] at hx
 omega
theorem zol (l : List Nat) : Dg 256 (x5 l) := by
 intro x hx
 obtain ⟨d, _, hd⟩ := List.mem_flatMap.1 hx
 exact zeb1 d x hd
theorem zlk (l : List Nat) (h : Dg B32 l) : val 256 (x5 l) = val B32 l := by
 induction l with
 | nil => rfl
 | cons d l ih =>
  have h1 := ih (fun x hx => h x (by simp [hx]))
  have h2 : d < B32 := h d (by simp)
  show val 256 (b4 d ++ x5 l) = _
  have e : 256 ^ (b4 d).length = B32 := by simp [b4, B32]
  rw [zaf, h1, zby1 d h2, qw, e]
theorem ziz (l : List Nat) (k : Nat) (h : k < l.length) : x5 (l.take (k + 1)) = x5 (l.take k) ++ b4 (l.getD k 0) := by
 rw [fh l k h]; simp [x5]
set_option maxHeartbeats 1000000 in
theorem zra (neg : Bool) (ao : Option Addr) (n cap : Nat) (l : List Nat) (w : World) (R : Row .u32 B32 w ao n cap l) (hs : n <= 100) :
  Calls Tryz.prog 146 #[.agg #[.bool neg, .slice ao n cap]] w fun e w' => ∃ m ao' cap' l', e = .returned (.slice ao' m cap') /\ m <= 4 * n /\ Own .u8 5 256 w.heap.size w' ao' m cap' l' /\ Tr l' /\ val 256 l' = val B32 l /\ Below w.heap.size w w' := by
 have HR := hid R
 obtain ⟨hn, hcap, hmax, _, hdg, hrd⟩ := R
 unfold maxLen at hmax
 have HN := hid hn
 have HD := hid hdg
 have HRd := hid hrd
 clear hn hdg hrd
 go_enter Tryz.func146, Tryz.ntmps146
 go_wp2
 go_loopw [3, 4, 5] (fun v i _j wr => ∃ m : Nat, m <= n /\ i = .int .i64 m /\ Hid (wr.ownsRow (w.heap.size + 1) 5 1 v (4 * m) (cs .u8 (x5 (l.take m))) /\ Below (w.heap.size + 1) (w.alloc (.cells #[.bool neg, .slice ao n cap] 134)) wr)) (fun _ i _ _ => n - (intOf i).toNat)
 case atStart => exact ⟨0, Nat.zero_le _, rfl, by simpa [x5, cs] using World.ownsRow_nil _ _ _ _, Below.refl _ _⟩
 case round =>
  obtain ⟨m, hm, rfl, hH⟩ := hrel
  have hbox : wr.cell? ⟨w.heap.size, 1, none⟩ = some (.slice ao n cap) := (hH.out.2.cell (p := ⟨w.heap.size, 1, none⟩) (by simp)).trans (by simp)
  by_cases hlt : m < n
  ·obtain ⟨wo, rfl⟩ : ∃ wo : World, wo = wr := ⟨_, rfl⟩
   obtain ⟨b, o, rfl, hl, hc⟩ := HRd.out.some (by rw [HN.out]; omega)
   obtain ⟨d, hd⟩ : ∃ d, d = l.getD m 0 := ⟨_, rfl⟩
   have hdb : d < 4294967296 := by rw [hd]; exact HD.out.getD _ (by rw [HN.out]; omega)
   have HC : Hid (w.cell? ⟨b, o + m, none⟩ = some (.int .u32 d)) := by rw [hd]; exact hc m (by rw [HN.out]; omega)
   have HDm := hid hd
   clear hc hd
   go_wp2
   go_loopw [3, 5] (fun v j wr => ∃ k : Nat, k <= 4 /\ j = .int .i64 k /\ Hid (wr.ownsRow (w.heap.size + 1) 5 1 v (4 * m + k) (cs .u8 (x5 (l.take m) ++ (b4 d).take k)) /\ Below (w.heap.size + 1) (w.alloc (.cells #[.bool neg, .slice (some ⟨b, o, none⟩) n cap] 134)) wr)) (fun _ j _ => 4 - (intOf j).toNat)
   case atStart => exact ⟨0, by omega, rfl, by simpa using hH.out.1, hH.out.2⟩
   case round =>
    obtain ⟨k, hk, rfl, hI⟩ := hrel
    have hbox' : wr.cell? ⟨w.heap.size, 1, none⟩ = some (.slice (some ⟨b, o, none⟩) n cap) := (hI.out.2.cell (p := ⟨w.heap.size, 1, none⟩) (by simp)).trans (by simp)
    have hcell' : wr.cell? ⟨b, o + m, none⟩ = some (.int .u32 d) := (hI.out.2.cell (p := ⟨b, o + m, none⟩) (by simp; omega)).trans (by rw [World.cell?_alloc_past _ _ _ hl]; exact HC.out)
    have hsz : Hid (w.heap.size + 1 <= wr.heap.size) := by have := hI.out.2.size; unfold Hid; simpa using this
    clear hbox
    by_cases hk4 : k < 4
    ·obtain ⟨hI1, hI2⟩ := hI.out
     have HI1 := hid hI1
     have HI2 := hid hI2
     clear hI hI1 hI2
     have : k = 0 \/ k = 1 \/ k = 2 \/ k = 3 := by omega
     rcases this with rfl | rfl | rfl | rfl
     ·go_wp2_with (at_builtin; refine app1 rfl _ _ 177 rfl (w.heap.size + 1) 5 .u8 1 (by decide) Tryz.underlying177 vs _ _ _ rfl (HI1.out.alloc _) ⟨wr.heap.size, 0, none⟩ 1 ((b4 d).getD 0 0) rfl ?c0 (by omega) (by have := hsz.out; simp; omega) ?_; rotate_right; intro g cap' w1 hown hbel)
      case c0 => rw [yy]; simp [b4]
      case roundEnd => exact ⟨⟨1, by omega, rfl, zdl hown (by omega) (by simp [b4]), (HI2.out.alloc hsz.out _).trans hbel⟩, by simp [intOf]⟩
     ·go_wp2_with (at_builtin; refine app1 rfl _ _ 177 rfl (w.heap.size + 1) 5 .u8 1 (by decide) Tryz.underlying177 vs _ _ _ rfl (HI1.out.alloc _) ⟨wr.heap.size, 0, none⟩ 1 ((b4 d).getD 1 0) rfl ?c1 (by omega) (by have := hsz.out; simp; omega) ?_; rotate_right; intro g cap' w1 hown hbel)
      case c1 => rw [yy]; simp [b4]
      case roundEnd => exact ⟨⟨2, by omega, rfl, zdl hown (by omega) (by simp [b4]), (HI2.out.alloc hsz.out _).trans hbel⟩, by simp [intOf]⟩
     ·go_wp2_with (at_builtin; refine app1 rfl _ _ 177 rfl (w.heap.size + 1) 5 .u8 1 (by decide) Tryz.underlying177 vs _ _ _ rfl (HI1.out.alloc _) ⟨wr.heap.size, 0, none⟩ 1 ((b4 d).getD 2 0) rfl ?c2 (by omega) (by have := hsz.out; simp; omega) ?_; rotate_right; intro g cap' w1 hown hbel)
      case c2 => rw [yy]; simp [b4]
      case roundEnd => exact ⟨⟨3, by omega, rfl, zdl hown (by omega) (by simp [b4]), (HI2.out.alloc hsz.out _).trans hbel⟩, by simp [intOf]⟩
     ·go_wp2_with (at_builtin; refine app1 rfl _ _ 177 rfl (w.heap.size + 1) 5 .u8 1 (by decide) Tryz.underlying177 vs _ _ _ rfl (HI1.out.alloc _) ⟨wr.heap.size, 0, none⟩ 1 ((b4 d).getD 3 0) rfl ?c3 (by omega) (by have := hsz.out; simp; omega) ?_; rotate_right; intro g cap' w1 hown hbel)
      case c3 => rw [yy]; simp [b4]; omega
      case roundEnd => exact ⟨⟨4, by omega, rfl, zdl hown (by omega) (by simp [b4]), (HI2.out.alloc hsz.out _).trans hbel⟩, by simp [intOf]⟩
    ·obtain rfl : k = 4 := by omega
     go_wp2
     case roundEnd =>
      refine ⟨⟨m + 1, by omega, by go_num, ?_, hI.out.2⟩, by simp [intOf]; omega⟩
      have := hI.out.1
      rw [ziz l m (by rw [HN.out]; omega), <- HDm.out]
      exact this
  ·obtain rfl : m = n := by omega
   obtain ⟨ao', cap', hu, hO⟩ := xt hH.out.1 (zol _)
   subst hu
   have HO := hid hO
   clear hO
   have hb0 : Hid (Below w.heap.size w wr) := (Ba w _).trans (hH.out.2.mono (Nat.le_succ _))
   go_wp2_with fail
   refine (zdv ao' (4 * m) cap' _ wr HO.out.row (by omega)).mono ?_
   rintro e w1 ⟨m', ao2, cap2, hm', rfl, hO2, ht, hv, hb⟩
   have H2 := hid hO2
   have H3 := hid ht
   have H4 := hid hv
   have H5 := hid hb
   clear hO2 ht hv hb
   go_wp2
   go_ret
   refine ⟨m', ao2, cap2, _, rfl, hm', H2.out.base hb0.out.size, H3.out, ?_, Bt hb0.out H5.out⟩
   rw [H4.out, zlk _ (HD.out.take m), List.take_of_length_le (by rw [HN.out]; omega)]
theorem jq {w : World} {b i : Nat} {v : Value} (h : w.cell? ⟨b, i, none⟩ = some v) : b < w.heap.size := World.block_lt_of_cell? w ⟨b, i, none⟩ h
def lw (b : List Nat) (j : Nat) : Nat := val 256 ((b.drop (4 * j)).take 4)
def lws (b : List Nat) (j : Nat) : List Nat := (List.range j).map (lw b)
theorem vk (b : List Nat) (j : Nat) : (lws b j).length = j := by simp [lws]
theorem zhb (b : List Nat) (j : Nat) : lws b (j + 1) = lws b j ++ [lw b j] := by simp [lws, List.range_succ]
theorem zrb (j : Nat) : 256 ^ (4 * j) = B32 ^ j := by
 rw [Nat.pow_mul]; rfl
theorem zzk : (256 : Nat) ^ 4 = B32 := rfl
theorem zbz1 {b : List Nat} (h : Dg 256 b) (j : Nat) : lw b j < B32 := by
 have h1 := zau ((h.drop (4 * j)).take 4)
 have h2 : (256 : Nat) ^ ((b.drop (4 * j)).take 4).length <= 256 ^ 4 := Nat.pow_le_pow_right (by decide) (by rw [List.length_take]; omega)
 rw [zzk] at h2
 unfold lw; omega
theorem zrc {b : List Nat} (h : Dg 256 b) (j : Nat) : Dg B32 (lws b j) := by
 intro x hx
 obtain ⟨i, _, rfl⟩ := List.mem_map.1 hx
 exact zbz1 h i
theorem zrd (b : List Nat) : ∀ j, 4 * j <= b.length + 3 -> val B32 (lws b j) = val 256 (b.take (4 * j))
 | 0, _ => by simp [lws, val]
 | j + 1, h => by
  have ih := zrd b j (by omega)
  have e1 : b.take (4 * (j + 1)) = b.take (4 * j) ++ (b.drop (4 * j)).take 4 := by
   rw [show 4 * (j + 1) = 4 * j + 4 by omega, List.take_add]
  rw [zhb, xg, ih, e1, zaf, vk, List.length_take, Nat.min_eq_left (by omega), zrb]
  rfl
theorem zca1 {b : List Nat} (ht : Tr b) (j : Nat) (h1 : b.length <= 4 * j) (h2 : 4 * j <= b.length + 3) : Tr (lws b j) := by
 by_cases hj : j = 0
 ·subst hj; exact .inl rfl
 ·refine .inr ?_
  have hl : 0 < b.length := by omega
  have hd : b.getD (b.length - 1) 0 ≠ 0 := ht.resolve_left (by intro e; simp [e] at hl)
  have e1 : (b.drop (4 * (j - 1))).take 4 = b.drop (4 * (j - 1)) := List.take_of_length_le (by rw [List.length_drop]; omega)
  have e2 : (lws b j).getD ((lws b j).length - 1) 0 = lw b (j - 1) := by
   rw [vk]
   obtain ⟨i, rfl⟩ : ∃ i, j = i + 1 := ⟨j - 1, by omega⟩
   rw [zhb, zav (by rw [vk]; omega)]; rfl
  rw [e2]
  unfold lw
  rw [e1]
  have ht2 : Tr (b.drop (4 * (j - 1))) := by
   refine .inr ?_
   rw [List.getD_eq_getElem?_getD, List.getElem?_drop, <- List.getD_eq_getElem?_getD, List.length_drop, show 4 * (j - 1) + (b.length - 4 * (j - 1) - 1) = b.length - 1 by omega]
   exact hd
  refine ht2.ne_zero (by decide) ?_
  intro e
  have := congrArg List.length e
  rw [List.length_drop] at this
  simp at this; omega
theorem zvu (b : List Nat) (j k : Nat) (h : 4 * j + k < b.length) : val 256 ((b.drop (4 * j)).take (k + 1)) = val 256 ((b.drop (4 * j)).take k) + 256 ^ k * b.getD (4 * j + k) 0 := by
 rw [j9 256 _ k (by rw [List.length_drop]; omega), List.getD_eq_getElem?_getD, List.getElem?_drop, <- List.getD_eq_getElem?_getD]
theorem zcb1 {b : List Nat} (h : Dg 256 b) (j k : Nat) : val 256 ((b.drop (4 * j)).take k) < 256 ^ k := by
 have h1 := zau ((h.drop (4 * j)).take k)
 have h2 : (256 : Nat) ^ ((b.drop (4 * j)).take k).length <= 256 ^ k := Nat.pow_le_pow_right (by decide) (by rw [List.length_take]; omega)
 omega
def Big (v : Nat) : Prop := B32 ^ 40 <= v
def Ans (w : World) (x : Value) (en : Int) (neg : Bool) (v : Nat) : Prop :=
 (¬ Big v /\ en = 0 /\ ∃ l, zvr w x (neg && decide (l ≠ [])) l /\ Tr l /\ val B32 l = v) \/ (Big v /\ en = 10 /\ x = .agg #[.bool false, .slice none 0 0])
theorem fm {l : List Nat} (hl : Dg B32 l) (ht : Tr l) : l.length <= 40 ↔ ¬ Big (val B32 l) := by
 rw [zok (by decide) hl ht]; unfold Big; omega
theorem zvv (a d : Nat) (h1 : a < 256) (h2 : d < 256) : bits .or .u32 (a : Int) ((d : Int) * 256) = ((a + 256 * d : Nat) : Int) := by
 rw [show ((d : Int) * 256) = ((d * 256 : Nat) : Int) by omega, u32_or_nat _ _ (by omega) (by omega), Nat.or_comm, nat_join 8 _ _ (by omega) (by omega)]; omega
theorem zre (a d : Nat) (h1 : a < 65536) (h2 : d < 256) : bits .or .u32 (a : Int) ((d : Int) * 65536) = ((a + 65536 * d : Nat) : Int) := by
 rw [show ((d : Int) * 65536) = ((d * 65536 : Nat) : Int) by omega, u32_or_nat _ _ (by omega) (by omega), Nat.or_comm, nat_join 16 _ _ (by omega) (by omega)]; omega
theorem zrf (a d : Nat) (h1 : a < 16777216) (h2 : d < 256) : bits .or .u32 (a : Int) ((d : Int) * 16777216) = ((a + 16777216 * d : Nat) : Int) := by
 rw [show ((d : Int) * 16777216) = ((d * 16777216 : Nat) : Int) by omega, u32_or_nat _ _ (by omega) (by omega), Nat.or_comm, nat_join 24 _ _ (by omega) (by omega)]; omega
theorem zvw (d : Nat) (h2 : d < 256) : bits .or .u32 0 (d : Int) = ((d : Nat) : Int) := by
 have := u32_or_nat 0 d (by omega) (by omega)
 rw [Nat.zero_or] at this; exact this
theorem zy {w : World} {g i : Nat} {c : Array Value} {t : TypeId} (h : w.heap[g]? = some (.cells c t (0, 0))) (v : Value) : (w.setCell ⟨g, i, none⟩ v).heap[g]? = some (.cells (c.setIfInBounds i v) t (0, 0)) := by
 simp [World.setCell, Array.getElem?_modify, h]
theorem za {w : World} {g : Nat} {c : Array Value} {t : TypeId} (h : w.heap[g]? = some (.cells c t (0, 0))) (i : Nat) : w.cell? ⟨g, i, none⟩ = c[i]? := by simp [World.cell?, h]
theorem zf {w : World} {g : Nat} {c : Array Value} {t : TypeId} (h : w.heap[g]? = some (.cells c t (0, 0))) (i : Nat) : w.frozen? ⟨g, i, none⟩ = false := by simp [World.frozen?, h]
theorem zd (w : World) (c : Array Value) (t : TypeId) : (w.alloc (.cells c t)).heap[w.heap.size]? = some (.cells c t (0, 0)) := heap_alloc_new w _
theorem zcc1 {k : IntKind} {w : World} {l : List Nat} {p b o : Nat} {x : Bool} {a : Option Addr} {m c : Nat} {t : TypeId} (hl : 0 < l.length)
  (hc : ∀ i, i < l.length -> w.cell? ⟨b, o + i, none⟩ = some (.int k (l.getD i 0 : Nat))) (hp : w.heap[p]? = some (.cells #[.bool x, .slice a m c] t (0, 0))) : b ≠ p := by
 intro e
 subst e
 have h1 := hc 0 hl
 rw [za hp] at h1
 simp only [Nat.add_zero] at h1
 match o, h1 with
 | 0, h1 => simp at h1
 | 1, h1 => simp at h1
 | o + 2, h1 => simp at h1
theorem Row.setBox {k : IntKind} {B : Nat} {w : World} {ao : Option Addr} {n cap : Nat} {l : List Nat} {p : Nat} {x : Bool} {a : Option Addr} {m c : Nat} {t : TypeId} (R : Row k B w ao n cap l)
  (hp : w.heap[p]? = some (.cells #[.bool x, .slice a m c] t (0, 0))) (i : Nat) (v : Value) : Row k B (w.setCell ⟨p, i, none⟩ v) ao n cap l := by
 refine ⟨R.len, R.fits, R.most, R.nil_, R.dg, ?_⟩
 rcases R.rd with h | ⟨b, o, h1, h2, h3⟩
 ·exact .inl h
 ·by_cases hl : 0 < l.length
  ·have hne := zcc1 hl h3 hp
   exact .inr ⟨b, o, h1, by simpa [World.setCell] using h2, fun j hj => (World.cell?_of_block (w := w) (a := ⟨b, o + j, none⟩) (Below.heap_setCell w ⟨p, i, none⟩ v b hne)).trans (h3 j hj)⟩
  ·exact .inl (List.length_eq_zero_iff.1 (by omega))
theorem Row.setBox2 {k : IntKind} {B : Nat} {w : World} {ao : Option Addr} {n cap : Nat} {l : List Nat} {p : Nat} {x : Bool} {a : Option Addr} {m c : Nat} {t : TypeId} (R : Row k B w ao n cap l)
  (hp : w.heap[p]? = some (.cells #[.bool x, .slice a m c] t (0, 0))) (y : Bool) (v : Value) : Row k B ((w.setCell ⟨p, 0, none⟩ (.bool y)).setCell ⟨p, 1, none⟩ v) ao n cap l :=
 (R.setBox hp 0 (.bool y)).setBox (zy hp (.bool y)) 1 v
theorem zvx {w : World} {p : Nat} {x : Bool} {a : Option Addr} {m c : Nat} {t : TypeId} (hp : w.heap[p]? = some (.cells #[.bool x, .slice a m c] t (0, 0))) (y : Bool) (v : Value) :
  ((w.setCell ⟨p, 0, none⟩ (.bool y)).setCell ⟨p, 1, none⟩ v).heap[p]? = some (.cells #[.bool y, v] t (0, 0)) := zy (zy hp (.bool y)) v
def Box (t : TypeId) (w : World) (p : Nat) (x : Bool) (a : Option Addr) (m c : Nat) : Prop := w.heap[p]? = some (.cells #[.bool x, .slice a m c] t (0, 0))
theorem Box.lt {t : TypeId} {w : World} {p : Nat} {x : Bool} {a : Option Addr} {m c : Nat} (h : Box t w p x a m c) : p < w.heap.size := (Array.getElem?_eq_some_iff.1 h).1
theorem Box.on {t : TypeId} {w w' : World} {p : Nat} {x : Bool} {a : Option Addr} {m c : Nat} (h : Box t w p x a m c) (hb : Below w.heap.size w w') : Box t w' p x a m c := (hb.block p h.lt).trans h
theorem Box.below {t : TypeId} {w w' : World} {p B : Nat} {x : Bool} {a : Option Addr} {m c : Nat} (h : Box t w p x a m c) (hb : Below B w w') (hp : p < B) : Box t w' p x a m c := (hb.block p hp).trans h
theorem Box.c {t : TypeId} {w : World} {p : Nat} {x : Bool} {a : Option Addr} {m c : Nat} (h : Box t w p x a m c) : w.cell? ⟨p, 0, none⟩ = some (.bool x) /\ w.cell? ⟨p, 1, none⟩ = some (.slice a m c) := ⟨za h 0, za h 1⟩
theorem Box.f {t : TypeId} {w : World} {p : Nat} {x : Bool} {a : Option Addr} {m c : Nat} (h : Box t w p x a m c) : w.frozen? ⟨p, 0, none⟩ = false /\ w.frozen? ⟨p, 1, none⟩ = false := ⟨zf h 0, zf h 1⟩
theorem Box.new (t : TypeId) (w : World) (x : Bool) (a : Option Addr) (m c : Nat) : Box t (w.alloc (.cells #[.bool x, .slice a m c] t)) w.heap.size x a m c := zd _ _ _
theorem Box.alloc {t : TypeId} {w : World} {p : Nat} {x : Bool} {a : Option Addr} {m c : Nat} (h : Box t w p x a m c) (o : Obj) : Box t (w.alloc o) p x a m c := h.on (Ba w o)
theorem Box.set2 {t : TypeId} {w : World} {p : Nat} {x : Bool} {a : Option Addr} {m c : Nat} (h : Box t w p x a m c) (y : Bool) (a' : Option Addr) (m' c' : Nat) : Box t ((w.setCell ⟨p, 0, none⟩ (.bool y)).setCell ⟨p, 1, none⟩ (.slice a' m' c')) p y a' m' c' := zvx h y _
theorem zvr.open_ {w : World} {x : Value} {s : Bool} {l : List Nat} (h : zvr w x s l) : ∃ ao n cap sg, x = .agg #[.bool sg, .slice ao n cap] /\ Hid (sg = s) /\ Row .u32 B32 w ao n cap l := by
 obtain ⟨ao, n, cap, h1, h2⟩ := h
 exact ⟨ao, n, cap, s, h1, rfl, h2⟩
theorem zcd1 {w w2 : World} {o : Obj} {p : Nat} {c : Array Value} {t : TypeId} (h : w.heap[p]? = some (.cells c t (0, 0))) (hb : Below (p + 1) (w.alloc o) w2) : w2.heap[p]? = some (.cells c t (0, 0)) :=
 (hb.block p (by omega)).trans ((Below.heap_alloc w o p (Array.getElem?_eq_some_iff.1 h).1).trans h)
set_option maxHeartbeats 2000000 in
theorem zcp (neg : Bool) (ao : Option Addr) (n cap : Nat) (b : List Nat) (w : World) (R : Row .u8 256 w ao n cap b) (hs : n <= 1000) :
  Calls Tryz.prog 125 #[.bool neg, .slice ao n cap] w fun e w' => ∃ x en, e = .returned (.tuple #[x, .int .i64 en]) /\ Ans w' x en neg (val 256 b) /\ Below w.heap.size w w' := by
 have HR := hid R
 clear R
 go_enter Tryz.func125, Tryz.ntmps125
 go_wp2_with fail
 refine (zdv ao n cap b _ (HR.out.below (Ba _ _)) hs).mono ?_
 rintro e w1 ⟨m, ao1, cap1, hm, rfl, hO, ht, hv, hb1⟩
 have hd0 : w1.heap[w.heap.size]? = some (.cells #[.bool false, .slice none 0 0] 134 (0, 0)) := (hb1.block w.heap.size (by simp)).trans (zd _ _ _)
 have hlen := hO.row.len
 generalize b.take m = r at *
 have hcap1 := hO.row.fits
 have hmax1 := hO.row.most
 unfold maxLen at hmax1
 have HO := hid hO
 have HT := hid ht
 have HV := hid hv
 have HB := hid (Bt (Ba w (.cells #[.bool false, .slice none 0 0] 134)) hb1)
 have HL := hid hlen
 have HD0 := hid hd0
 have hsz : w.heap.size < w1.heap.size := (Array.getElem?_eq_some_iff.1 hd0).1
 clear hO ht hv hb1 hlen hd0 HR
 obtain ⟨sg, hsg⟩ : ∃ sg, sg = (neg && decide (0 < m)) := ⟨_, rfl⟩
 have HSG := hid hsg
 clear hsg
 cases neg
 all_goals
  go_wp2
  go_loopw [7, 8, 9] (fun i _ _ wr => ∃ j : Nat, ∃ v, i = .int .i64 ((4 * j : Nat) : Int) /\ 4 * j <= m + 3 /\ Hid (wr.heap[w1.heap.size]? = some (.cells #[.bool sg, v] 134 (0, 0)) /\ wr.ownsRow (w1.heap.size + 1) 182 1 v j (cs .u32 (lws r j)) /\ Below w1.heap.size w1 wr)) (fun i _ _ _ => m + 3 - (intOf i).toNat)
  case atStart =>
   refine ⟨0, .slice none 0 0, rfl, by omega, ?_, ?_, Ba _ _⟩
   ·rw [HSG.out]; exact zd _ _ _
   ·simpa [lws, cs] using World.ownsRow_nil _ _ _ _
  case round =>
   obtain ⟨j, v, rfl, hj, hH⟩ := hrel
   obtain ⟨h1, h2, h3⟩ := hH.out
   have hc0 := za h1 0
   have hc1 := za h1 1
   have hf1 := zf h1 1
   simp at hc0 hc1
   have hz1 : w1.heap.size < wr.heap.size := (Array.getElem?_eq_some_iff.1 h1).1
   have HZ1 := hid hz1
   have H2 := hid h2
   have H3 := hid h3
   have H1 := hid h1
   clear h1 h2 h3 hH hz1
   by_cases hlt : 4 * j < m
   ·obtain ⟨bb, o, rfl, hl, hcl⟩ := HO.out.row.rd.some (by rw [HL.out]; omega)
    have HCL : Hid (∀ i, i < m -> wr.cell? ⟨bb, o + i, none⟩ = some (.int .u8 (r.getD i 0 : Nat))) := fun i hi => (H3.out.cell (p := ⟨bb, o + i, none⟩) hl).trans (hcl i (by rw [HL.out]; exact hi))
    clear hcl
    go_wp2
    go_loop [8, 9] (fun a k => ∃ q acc : Nat, q <= 4 /\ 4 * j + q <= m /\ k = .int .i64 q /\ a = .int .u32 acc /\ Hid (acc = val 256 ((r.drop (4 * j)).take q))) (fun _ k => 4 - (intOf k).toNat)
    case atStart => exact ⟨0, 0, by omega, by omega, rfl, rfl, rfl⟩
    case round =>
     obtain ⟨q, acc, hq, hqm, rfl, rfl, hacc⟩ := hrel
     have hlim : acc < 256 ^ q := by rw [hacc.out]; exact zcb1 HO.out.row.dg j q
     by_cases hgo : q < 4 /\ 4 * j + q < m
     ·obtain ⟨hq4, hqlt⟩ := hgo
      have hcd := HCL.out (4 * j + q) hqlt
      obtain ⟨d, hd⟩ : ∃ d, d = r.getD (4 * j + q) 0 := ⟨_, rfl⟩
      have hdb : d < 256 := by rw [hd]; exact HO.out.row.dg.getD _ (by rw [HL.out]; exact hqlt)
      rw [<- hd] at hcd
      have HS : Hid (val 256 ((r.drop (4 * j)).take (q + 1)) = acc + 256 ^ q * d) := by
       unfold Hid; rw [zvu r j q (by rw [HL.out]; exact hqlt), <- hacc.out, <- hd]
      clear hd hacc
      have hq' : q = 0 \/ q = 1 \/ q = 2 \/ q = 3 := by omega
      rcases hq' with rfl | rfl | rfl | rfl
      ·obtain rfl : acc = 0 := by simp at hlim; exact hlim
       have hor := zvw d hdb
       simp only [Nat.add_zero] at hcd
       clear hlim
       go_wp2
       exact ⟨⟨1, d, by omega, by omega, rfl, rfl, by unfold Hid; rw [HS.out]; omega⟩, by simp [intOf]⟩
      ·have hor := zvv acc d (by omega) hdb
       obtain ⟨A, hA⟩ : ∃ A, A = acc + 256 * d := ⟨_, rfl⟩
       rw [<- hA] at hor
       have HA := hid hA
       clear hlim hA
       go_wp2
       exact ⟨⟨2, A, by omega, by omega, rfl, rfl, by unfold Hid; rw [HS.out, HA.out]⟩, by simp [intOf]⟩
      ·have hor := zre acc d (by omega) hdb
       obtain ⟨A, hA⟩ : ∃ A, A = acc + 65536 * d := ⟨_, rfl⟩
       rw [<- hA] at hor
       have HA := hid hA
       clear hlim hA
       go_wp2
       exact ⟨⟨3, A, by omega, by omega, rfl, rfl, by unfold Hid; rw [HS.out, HA.out]⟩, by simp [intOf]⟩
      ·have hor := zrf acc d (by omega) hdb
       obtain ⟨A, hA⟩ : ∃ A, A = acc + 16777216 * d := ⟨_, rfl⟩
       rw [<- hA] at hor
       have HA := hid hA
       clear hlim hA
       go_wp2
       exact ⟨⟨4, A, by omega, by omega, rfl, rfl, by unfold Hid; rw [HS.out, HA.out]⟩, by simp [intOf]⟩
     ·have HLW : Hid (acc = lw r j) := by
       unfold Hid lw; rw [hacc.out]
       by_cases h4 : q = 4
       ·rw [h4]
       ·have hqe : 4 * j + q = m := by omega
        rw [List.take_of_length_le (l := r.drop (4 * j)) (i := q) (by rw [List.length_drop, HL.out]; omega), List.take_of_length_le (l := r.drop (4 * j)) (i := 4) (by rw [List.length_drop, HL.out]; omega)]
      have hgo' : q = 4 \/ q < 4 /\ 4 * j + q = m := by omega
      have hacb : acc < 4294967296 := by rw [HLW.out]; exact zbz1 HO.out.row.dg j
      clear hacc hlim hgo
      rcases hgo' with rfl | ⟨hq4, hqe⟩
      all_goals
       go_wp2_with (at_builtin; refine app1 rfl _ _ 132 rfl (w1.heap.size + 1) 182 .u32 4 (by decide) Tryz.underlying132 zdm _ _ _ rfl (H2.out.alloc _) ⟨wr.heap.size, 0, none⟩ 1 acc rfl (yy _ _ _) (by omega) (by have := HZ1.out; simp; omega) ?_; intro g cap' w2 hown hbel; have hk := zcd1 H1.out hbel; have hk1 : w2.cell? ⟨w1.heap.size, 1, none⟩ = some v := za hk 1; have hkf := zf hk 1; have HK := hid hk; have HW := hid hown; have HE := hid hbel; clear hk hown hbel)
       refine ⟨⟨j + 1, .slice (some ⟨g, 0, none⟩) (j + 1) cap', by go_num, by omega, zy HK.out _, ?_, ?_⟩, by simp [intOf]; omega⟩
       ·rw [zhb, <- HLW.out]; exact ownsRow_setCell_below HW.out (by simp) _
       ·exact ((H3.out.alloc (by have := HZ1.out; omega) _).trans (HE.out.mono (by omega))).setCell (Nat.le_refl _) _
   ·have hjm : m <= 4 * j := by omega
    obtain ⟨ao2, cap2, hu, hO2⟩ := xt H2.out (zrc HO.out.row.dg j)
    subst hu
    have HV2 : Hid (val B32 (lws r j) = val 256 b) := by
     unfold Hid; rw [zrd r j (by rw [HL.out]; exact hj), List.take_of_length_le (by rw [HL.out]; exact hjm), HV.out]
    have HT2 := hid (zca1 HT.out j (by rw [HL.out]; exact hjm) (by rw [HL.out]; exact hj))
    have HO2 := hid hO2
    have HSG2 : Hid (decide (0 < m) = decide (lws r j ≠ [])) := by
     unfold Hid
     rw [decide_eq_decide, <- List.length_pos_iff, vk]
     omega
    have hbnd := hO2.row.most
    have hft2 := hO2.row.fits
    unfold maxLen at hbnd
    have hd0 : wr.heap[w.heap.size]? = some (.cells #[.bool false, .slice none 0 0] 134 (0, 0)) := (H3.out.block _ hsz).trans HD0.out
    have hq0 := za hd0 0
    have hq1 := za hd0 1
    have hqf0 := zf hd0 0
    have hqf1 := zf hd0 1
    simp at hq0 hq1
    have HQ := hid hd0
    clear hd0 hO2
    have HB3 := hid (HB.out.trans (H3.out.mono (Nat.le_of_lt hsz)))
    by_cases h40 : j <= 40
    ·have e40 : decide ((40 : Int) < j) = false := by simp; omega
     go_wp2
     refine bodyPost_ret (v := .tuple #[.agg #[.bool sg, .slice ao2 j cap2], .int .i64 0]) (by simp [results, Tryz.results125, go_sem, hq0, hq1]) rfl ⟨_, _, rfl, .inl ⟨?_, rfl, lws r j, ⟨ao2, j, cap2, ?_, ((HO2.out.setFar (p := ⟨w.heap.size, 0, none⟩) (by simp; omega) _).setFar (p := ⟨w.heap.size, 1, none⟩) (by simp; omega) _).row⟩, HT2.out, HV2.out⟩, (HB3.out.setCell (Nat.le_refl _) _).setCell (Nat.le_refl _) _⟩
     ·rw [<- HV2.out, <- fm (zrc HO.out.row.dg j) HT2.out, vk]; exact h40
     ·rw [HSG.out, HSG2.out]
    ·have e40 : decide ((40 : Int) < j) = true := by simp; omega
     go_wp2
     refine bodyPost_ret (v := .tuple #[.agg #[.bool false, .slice none 0 0], .int .i64 10]) (by simp [results, Tryz.results125, go_sem, hq0, hq1]) rfl ⟨_, _, rfl, .inr ⟨?_, rfl, rfl⟩, (HB3.out.setCell (Nat.le_refl _) _).setCell (Nat.le_refl _) _⟩
     have := (fm (zrc HO.out.row.dg j) HT2.out)
     rw [vk, HV2.out] at this
     exact Classical.byContradiction fun h => h40 (this.2 h)
end Go.Proofs.YtadfihnffboelaaGreatDoor
