import Derived.Test.YtdekkieajffblaaGreatDoorProg
import Derived.Test.YtdekkieajffblaaGreatDoorOnto
import Derived.BigQuiet
import Derived.Deep.QuietTactic
import Derived.Deep.AppendLies
import Derived.Laws.AppendOwnNone
set_option linter.unusedVariables false
set_option linter.unusedSimpArgs false
namespace Go.Proofs.YtdekkieajffblaaGreatDoor
open Go.RowKit
theorem ret_bool {a b : Bool} (h : a = b) : Ending.returned (.bool a) = .returned (.bool b) := by rw [h]
set_option maxHeartbeats 400000 in
theorem good_any (neg : Bool) (ao : Option Addr) (n cap : Nat) (l : List Nat) (w : World) (R : Row .u32 B32 w ao n cap l) :
  Calls Tryz.prog 32 #[.agg #[.bool neg, .slice ao n cap]] w fun e w' => e = .returned (.bool (goodB neg l)) /\ Below w.heap.size w w' := by
 obtain ⟨hn, hcap, hmax, _, hdg, hrd⟩ := R
 unfold maxLen at hmax
 by_cases h0 : n = 0
 ·subst h0
  go_enter Tryz.func32, Tryz.ntmps32
  go_wp2
  go_ret
  exact ⟨by simp [goodB, hn], by exact (Below.refl _ _).alloc (Nat.le_refl _) _⟩
 ·obtain ⟨b, o, rfl, hl, hc⟩ := hrd.some (by omega)
  have hc1 := hc (n - 1) (by omega)
  have e0 : ((n : Int) == 0) = false := by simp; omega
  obtain ⟨d, hd⟩ : ∃ d, d = l.getD (n - 1) 0 := ⟨_, rfl⟩
  rw [<- hd] at hc1
  have HG : Hid (goodB neg l = (decide (n <= 40) && decide (d ≠ 0))) := by
   unfold Hid goodB; rw [hn, <- hd]
   simp [show ¬ n = 0 from h0, show 0 < n by omega]
  clear hd hc hn hrd hdg
  by_cases h40 : n <= 40
  ·go_enter Tryz.func32, Tryz.ntmps32
   go_wp2
   go_ret
   exact ⟨by rw [HG.out]; apply ret_bool; simp [h40, bne_nat], by exact (Below.refl _ _).alloc (Nat.le_refl _) _⟩
  ·go_enter Tryz.func32, Tryz.ntmps32
   go_wp2
   go_ret
   exact ⟨by rw [HG.out]; apply ret_bool; simp [h40, bne_nat], by exact (Below.refl _ _).alloc (Nat.le_refl _) _⟩
set_option maxHeartbeats 400000 in
theorem rgood_any (neg : Bool) (ao : Option Addr) (n cap : Nat) (l : List Nat) (w : World) (R : Row .u32 B32 w ao n cap l) :
  Calls Tryz.prog 13 #[.agg #[.bool neg, .slice ao n cap]] w fun e w' => e = .returned (.bool (goodB neg l)) /\ Below w.heap.size w w' := by
 obtain ⟨hn, hcap, hmax, _, hdg, hrd⟩ := R
 unfold maxLen at hmax
 by_cases h0 : n = 0
 ·subst h0
  cases neg
  all_goals
   go_enter Tryz.func13, Tryz.ntmps13
   go_wp2
   go_ret
   exact ⟨by simp [goodB, hn], by exact (Below.refl _ _).alloc (Nat.le_refl _) _⟩
 ·obtain ⟨b, o, rfl, hl, hc⟩ := hrd.some (by omega)
  have hc1 := hc (n - 1) (by omega)
  have e0 : ((n : Int) == 0) = false := by simp; omega
  obtain ⟨d, hd⟩ : ∃ d, d = l.getD (n - 1) 0 := ⟨_, rfl⟩
  rw [<- hd] at hc1
  have HG : Hid (goodB neg l = (decide (n <= 40) && decide (d ≠ 0))) := by
   unfold Hid goodB; rw [hn, <- hd]
   simp [show ¬ n = 0 from h0, show 0 < n by omega]
  clear hd hc hn hrd hdg
  by_cases h40 : n <= 40
  ·go_enter Tryz.func13, Tryz.ntmps13
   go_wp2
   go_ret
   exact ⟨by rw [HG.out]; apply ret_bool; simp [h40, bne_nat], by exact (Below.refl _ _).alloc (Nat.le_refl _) _⟩
  ·go_enter Tryz.func13, Tryz.ntmps13
   go_wp2
   go_ret
   exact ⟨by rw [HG.out]; apply ret_bool; simp [h40, bne_nat], by exact (Below.refl _ _).alloc (Nat.le_refl _) _⟩
set_option maxHeartbeats 400000 in
theorem trim_any (ao : Option Addr) (n cap : Nat) (l : List Nat) (w : World) (R : Row .u32 B32 w ao n cap l) :
  Calls Tryz.prog 78 #[.slice ao n cap] w fun e w' => ∃ m, m <= n /\ e = .returned (.slice ao m m) /\ w' = w /\ Tr (l.take m) /\ val B32 (l.take m) = val B32 l := by
 obtain ⟨hn, hcap, hmax, _, hdg, hrd⟩ := R
 unfold maxLen at hmax
 have HN : Hid (l.length = n) := hn
 clear hn hdg
 go_enter Tryz.func78, Tryz.ntmps78
 go_wp2
 go_loop [3] (fun t => ∃ m : Nat, m <= n /\ t = .int .i64 m /\ Hid (val B32 (l.take m) = val B32 l)) (fun t => (intOf t).toNat)
 case atStart => exact ⟨n, Nat.le_refl _, rfl, by unfold Hid; rw [List.take_of_length_le (by rw [HN.out]; exact Nat.le_refl _)]⟩
 case round =>
  obtain ⟨m, hm, rfl, hv⟩ := hrel
  by_cases hz : m = 0
  ·subst hz
   go_wp2
   go_ret
   exact ⟨0, Nat.zero_le _, rfl, rfl, .inl (by simp), hv.out⟩
  ·obtain ⟨b, o, rfl, hl, hc⟩ := hrd.some (by rw [HN.out]; omega)
   have hc1 := hc (m - 1) (by rw [HN.out]; omega)
   obtain ⟨d, hd⟩ : ∃ d, d = l.getD (m - 1) 0 := ⟨_, rfl⟩
   rw [<- hd] at hc1
   have HD : Hid (d = l.getD (m - 1) 0) := hd
   clear hd hc hrd
   have hpos : (0 : Int) < m := by omega
   by_cases hd0 : d = 0
   ·subst hd0
    go_wp2
    go_round
    case rel => exact ⟨m - 1, by omega, by go_num, by
     unfold Hid
     rw [<- hv.out]
     have := val_take_zero B32 l (m - 1) (by rw [HN.out]; omega) HD.out.symm
     rw [show m - 1 + 1 = m by omega] at this
     exact this.symm⟩
    case measure => simp [intOf]; omega
   ·have hne : ((d : Int) == 0) = false := by simp; omega
    go_wp2
    go_ret
    exact ⟨m, hm, rfl, rfl, Tr.take_of (by rw [HN.out]; exact hm) (.inr (by rw [<- HD.out]; exact hd0)), hv.out⟩
set_option maxHeartbeats 400000 in
theorem whole_any (neg : Bool) (ao : Option Addr) (n cap : Nat) (l : List Nat) (w : World) (R : Row .u32 B32 w ao n cap l) :
  Calls Tryz.prog 52 #[.bool neg, .slice ao n cap] w fun e w' => ∃ x l', e = .returned x /\ IntIs w' x (neg && decide (l' ≠ [])) l' /\ Tr l' /\ val B32 l' = val B32 l /\ l'.length <= n /\ Below w.heap.size w w' := by
 go_enter Tryz.func52, Tryz.ntmps52
 go_wp2_with fail
 refine (trim_any ao n cap l _ (R.below (Ba _ _))).mono ?_
 rintro e w1 ⟨m, hm, rfl, rfl, ht, hv⟩
 have R2 := R.take hm m (Nat.le_refl _) (Nat.le_trans hm R.fits)
 have hmn := R.most
 have hmc := R.fits
 unfold maxLen at hmn
 have hl := R.len
 have HR := hid R2
 have HT := hid ht
 have HV := hid hv
 have HL := hid hl
 clear R R2 ht hv hl
 by_cases h0 : m = 0
 ·subst h0
  go_wp2
  refine bodyPost_ret (v := .agg #[.bool false, .slice none 0 0]) (by simp [results, Tryz.results52, go_sem]) rfl ⟨_, [], rfl, ⟨none, 0, 0, by simp, Row.nil _ _ _ _⟩, Tr.nil, ?_, by simp, Ba _ _⟩
  rw [<- HV.out]; simp
 ·have e0 : ((m : Int) == 0) = false := by simp; omega
  go_wp2
  refine bodyPost_ret (v := .agg #[.bool neg, .slice ao m m]) (by simp [results, Tryz.results52, go_sem]) rfl ⟨_, l.take m, rfl, ⟨ao, m, m, ?_, HR.out.below (Ba _ _)⟩, HT.out, HV.out, by rw [List.length_take]; omega, Ba _ _⟩
  have hne : l.take m ≠ [] := by
   intro e
   have := congrArg List.length e
   rw [List.length_take, HL.out] at this
   simp at this; omega
  simp [hne]
set_option maxHeartbeats 400000 in
theorem cmpU_any (a b : Nat) (ha : a < B32) (hb : b < B32) (w : World) :
  Calls Tryz.prog 64 #[.int .u32 a, .int .u32 b] w fun e w' => e = .returned (.int .i64 (cmpN a b)) /\ w' = w := by
 unfold B32 at ha hb
 rcases Nat.lt_trichotomy a b with h | h | h
 ·go_enter Tryz.func64, Tryz.ntmps64
  go_wp2
  go_ret
  exact ⟨by simp [cmpN, h], rfl⟩
 ·subst h
  go_enter Tryz.func64, Tryz.ntmps64
  go_wp2
  go_ret
  exact ⟨by simp [cmpN], rfl⟩
 ·go_enter Tryz.func64, Tryz.ntmps64
  go_wp2
  go_ret
  exact ⟨by simp [cmpN, show ¬ a < b by omega, show ¬ a = b by omega], rfl⟩
set_option maxHeartbeats 400000 in
theorem cmpI_any (a b : Nat) (ha : a <= maxLen) (hb : b <= maxLen) (w : World) :
  Calls Tryz.prog 63 #[.int .i64 a, .int .i64 b] w fun e w' => e = .returned (.int .i64 (cmpN a b)) /\ w' = w := by
 unfold maxLen at ha hb
 rcases Nat.lt_trichotomy a b with h | h | h
 ·go_enter Tryz.func63, Tryz.ntmps63
  go_wp2
  go_ret
  exact ⟨by simp [cmpN, h], rfl⟩
 ·subst h
  go_enter Tryz.func63, Tryz.ntmps63
  go_wp2
  go_ret
  exact ⟨by simp [cmpN], rfl⟩
 ·go_enter Tryz.func63, Tryz.ntmps63
  go_wp2
  go_ret
  exact ⟨by simp [cmpN, show ¬ a < b by omega, show ¬ a = b by omega], rfl⟩
theorem cmpN_len {a b : List Nat} (ha : Dg B32 a) (hb : Dg B32 b) (ta : Tr a) (tb : Tr b) (h : a.length ≠ b.length) : cmpN a.length b.length = cmpN (val B32 a) (val B32 b) := by
 have h0 : 0 < B32 := by decide
 rcases Nat.lt_or_ge a.length b.length with h' | h'
 ·have := lt_of_length h0 ha tb h'
  simp [cmpN, h', this]
 ·have := lt_of_length h0 hb ta (by omega : b.length < a.length)
  unfold cmpN
  rw [if_neg (by omega), if_neg (by omega), if_neg (by omega), if_neg (by omega)]
theorem cmpN_digit {B : Nat} {a b : List Nat} {k : Nat} (ha : Dg B a) (hb : Dg B b) (hka : k < a.length) (hkb : k < b.length) (ht : a.drop (k + 1) = b.drop (k + 1)) (h : a.getD k 0 ≠ b.getD k 0) : cmpN (a.getD k 0) (b.getD k 0) = cmpN (val B a) (val B b) := by
 rcases Nat.lt_or_ge (a.getD k 0) (b.getD k 0) with h' | h'
 ·have := lt_of_digit ha hka hkb ht h'
  unfold cmpN
  rw [if_pos h', if_pos this]
 ·have := lt_of_digit hb hkb hka ht.symm (by omega)
  unfold cmpN
  rw [if_neg (by omega), if_neg (by omega), if_neg (by omega), if_neg (by omega)]
theorem ret_i64 {a b : Int} (h : a = b) : Ending.returned (.int .i64 a) = .returned (.int .i64 b) := by rw [h]
set_option maxHeartbeats 1000000 in
theorem compareRows_any (ao ao' : Option Addr) (n cap n' cap' : Nat) (l l' : List Nat) (w : World) (R : Row .u32 B32 w ao n cap l) (R' : Row .u32 B32 w ao' n' cap' l') (t : Tr l) (t' : Tr l') :
  Calls Tryz.prog 38 #[.slice ao n cap, .slice ao' n' cap'] w fun e w' => e = .returned (.int .i64 (cmpN (val B32 l) (val B32 l'))) /\ ∃ k, w' = w.drewN k := by
 obtain ⟨hn, hcap, hmax, _, hdg, hrd⟩ := R
 obtain ⟨hn', hcap', hmax', _, hdg', hrd'⟩ := R'
 by_cases hne : n = n'
 ·subst hne
  have e0 : ((n : Int) != n) = false := by simp
  have HN : Hid (l.length = n) := hn
  have HN' : Hid (l'.length = n) := hn'
  have HD : Hid (Dg B32 l /\ Dg B32 l') := ⟨hdg, hdg'⟩
  unfold maxLen at hmax
  clear hn hn' hdg hdg' t t' hmax'
  go_enter Tryz.func38, Tryz.ntmps38
  go_wp2
  go_loopw [5] (fun t wr => ∃ m : Nat, m <= n /\ t = .int .i64 ((m : Int) - 1) /\ Hid (l.drop m = l'.drop m) /\ ∃ k, wr = w.drewN k) (fun t _ => (intOf t + 1).toNat)
  case atStart => exact ⟨n, Nat.le_refl _, rfl, by unfold Hid; rw [List.drop_eq_nil_of_le (by rw [HN.out]; omega), List.drop_eq_nil_of_le (by rw [HN'.out]; omega)], 0, rfl⟩
  case round =>
   obtain ⟨m, hm, rfl, hv, k, rfl⟩ := hrel
   by_cases hz : m = 0
   ·subst hz
    go_wp2
    go_ret
    refine ⟨ret_i64 ?_, k, rfl⟩
    have := hv.out
    simp only [List.drop_zero] at this
    rw [this]; simp [cmpN]
   ·obtain ⟨b, o, rfl, hl, hc⟩ := hrd.some (by rw [HN.out]; omega)
    obtain ⟨b', o', rfl, hl', hc'⟩ := hrd'.some (by rw [HN'.out]; omega)
    have hc1 := hc (m - 1) (by rw [HN.out]; omega)
    have hc1' := hc' (m - 1) (by rw [HN'.out]; omega)
    obtain ⟨d, hd⟩ : ∃ d, d = l.getD (m - 1) 0 := ⟨_, rfl⟩
    obtain ⟨d', hd'⟩ : ∃ d, d = l'.getD (m - 1) 0 := ⟨_, rfl⟩
    rw [<- hd] at hc1
    rw [<- hd'] at hc1'
    have hdb : d < B32 := by rw [hd]; exact HD.out.1.getD _ (by rw [HN.out]; omega)
    have hdb' : d' < B32 := by rw [hd']; exact HD.out.2.getD _ (by rw [HN'.out]; omega)
    have H1 : Hid (d = l.getD (m - 1) 0) := hd
    have H1' : Hid (d' = l'.getD (m - 1) 0) := hd'
    clear hd hd' hc hc' hrd hrd'
    have hpos : (1 : Int) <= m := by omega
    have hmm : m - 1 + 1 = m := by omega
    have HM : Hid (m - 1 + 1 = m) := hmm
    clear hmm
    by_cases hdd : d = d'
    ·subst hdd
     have ed : ((d : Int) != d) = false := by simp
     go_wp2
     go_quiet (fail)
     go_wp2
     go_roundw
     case rel => exact ⟨m - 1, by omega, by go_num, by
      unfold Hid
      rw [drop_cons l (m - 1) (by rw [HN.out]; omega), drop_cons l' (m - 1) (by rw [HN'.out]; omega), HM.out, <- H1.out, <- H1'.out, hv.out], k + nq, rfl⟩
     case measure => simp [intOf]; omega
    ·have ed : ((d : Int) != d') = true := by rw [bne_iff_ne]; omega
     go_wp2
     go_quiet (fail)
     go_wp2
     have c1 : ((w.drewN k).drewN nq).cell? ⟨b, o + (m - 1), none⟩ = some (.int .u32 d) := hc1
     have c1' : ((w.drewN k).drewN nq).cell? ⟨b', o' + (m - 1), none⟩ = some (.int .u32 d') := hc1'
     obtain ⟨q, hq⟩ : ∃ q, (w.drewN k).drewN nq = w.drewN q := ⟨k + nq, World.drewN_drewN _ _ _⟩
     generalize hW : (w.drewN k).drewN nq = W at *
     have HW : Hid (W = w.drewN q) := hq
     clear hq
     clear hW hc1 hc1'
     go_quiet ((go_at_call 64; exact Calls.quiet_of_same (cmpU_any d d' hdb hdb' _)))
     go_wp2
     go_ret
     refine ⟨ret_i64 ?_, q + nq, by rw [HW.out]; exact World.drewN_drewN _ _ _⟩
     rw [H1.out, H1'.out]
     exact cmpN_digit HD.out.1 HD.out.2 (by rw [HN.out]; omega) (by rw [HN'.out]; omega) (by rw [HM.out]; exact hv.out) (by rw [<- H1.out, <- H1'.out]; exact hdd)
 ·have e0 : ((n : Int) != n') = true := by rw [bne_iff_ne]; omega
  have HC : Hid (cmpN n n' = cmpN (val B32 l) (val B32 l')) := by
   have := cmpN_len hdg hdg' t t' (by omega)
   rw [hn, hn'] at this; exact this
  clear hn hn' t t' hdg hdg' hrd hrd'
  go_enter Tryz.func38, Tryz.ntmps38
  go_wp2_with (go_at_call 63; refine (cmpI_any n n' (by omega) (by omega) _).mono ?_; rintro e w' ⟨rfl, rfl⟩)
  go_ret
  exact ⟨ret_i64 HC.out, 0, rfl⟩
def cs (k : IntKind) (l : List Nat) : List Value := l.map fun (x : Nat) => Value.int k (x : Int)
theorem cs_length (k : IntKind) (l : List Nat) : (cs k l).length = l.length := by simp [cs]
theorem cs_append (k : IntKind) (l r : List Nat) : cs k (l ++ r) = cs k l ++ cs k r := by simp [cs]
theorem cs_get {k : IntKind} {l : List Nat} {j : Nat} {u : Value} (h : (cs k l)[j]? = some u) : j < l.length /\ u = .int k (l.getD j 0 : Nat) := by
 unfold cs at h
 rw [List.getElem?_map] at h
 by_cases hj : j < l.length
 ·rw [List.getElem?_eq_getElem hj] at h
  refine ⟨hj, ?_⟩
  rw [List.getD_eq_getElem?_getD, List.getElem?_eq_getElem hj]
  simp at h
  exact h.symm
 ·rw [List.getElem?_eq_none (by omega)] at h; simp at h
theorem cs_get_of {k : IntKind} {l : List Nat} {j : Nat} (hj : j < l.length) : (cs k l)[j]? = some (.int k (l.getD j 0 : Nat)) := by
 unfold cs
 rw [List.getElem?_map, List.getD_eq_getElem?_getD, List.getElem?_eq_getElem hj]; rfl
theorem cs_one (k : IntKind) (l : List Nat) : ∀ u ∈ cs k l, u.oneCell' = true := by
 intro u hu
 unfold cs at hu
 obtain ⟨x, _, rfl⟩ := List.mem_map.1 hu
 rfl
theorem own_of {w : World} {base : Nat} {e : TypeId} {v : Value} {n : Nat} {k : IntKind} {l : List Nat} {B : Nat} (h : w.ownsRow base e 1 v n (cs k l)) (hd : Dg B l) :
  ∃ ao cap, v = .slice ao n cap /\ Own k e B base w ao n cap l := by
 have hn : l.length = n := by have := h.1; rw [cs_length] at this; omega
 rcases h.2 with ⟨rfl, h0⟩ | ⟨g, cap, cur, rfl, hb, hg, hle, hm, hsz, htk⟩
 ·subst h0
  have : l = [] := List.length_eq_zero_iff.1 hn
  subst this
  exact ⟨none, 0, rfl, Row.nil _ _ _ _, .inl rfl⟩
 ·have hwin : Win k e w g 0 n cur l := by
   refine ⟨hg, by omega, hn, fun i hi => ?_⟩
   have h1 : (cs k l)[i]? = some (.int k (l.getD i 0 : Nat)) := cs_get_of (by omega)
   rw [<- htk, List.getElem?_take, if_pos (by omega)] at h1
   rw [Nat.zero_add, <- Array.getElem?_toList]; exact h1
  exact ⟨some ⟨g, 0, none⟩, cap, rfl, ⟨hn, hle, hm, fun h => (by cases h), hd, hwin.rd⟩, .inr ⟨g, cur, rfl, hb, hwin⟩⟩
theorem Own.nil (k : IntKind) (e : TypeId) (B base : Nat) (w : World) (ao : Option Addr) : Own k e B base w ao 0 0 [] := ⟨Row.nil _ _ _ _, .inl rfl⟩
theorem Own.base {k : IntKind} {e : TypeId} {B base base' : Nat} {w : World} {ao : Option Addr} {n cap : Nat} {l : List Nat} (h : Own k e B base w ao n cap l) (hb : base' <= base) : Own k e B base' w ao n cap l :=
 ⟨h.row, h.own.imp id fun ⟨g, cur, h1, h2, h3⟩ => ⟨g, cur, h1, Nat.le_trans hb h2, h3⟩⟩
theorem Win.below {k : IntKind} {e : TypeId} {w w' : World} {g o n : Nat} {cur : Array Value} {l : List Nat} (h : Win k e w g o n cur l) (hb : Below w.heap.size w w') : Win k e w' g o n cur l :=
 ⟨(hb.block g h.lt).trans h.blk, h.fits, h.len, h.at_⟩
theorem Win.on {k : IntKind} {e : TypeId} {w w' : World} {g o n B : Nat} {cur : Array Value} {l : List Nat} (h : Win k e w g o n cur l) (hb : Below B w w') (hg : g < B) : Win k e w' g o n cur l :=
 ⟨(hb.block g hg).trans h.blk, h.fits, h.len, h.at_⟩
theorem Win.take {k : IntKind} {e : TypeId} {w : World} {g o n m : Nat} {cur : Array Value} {l : List Nat} (h : Win k e w g o n cur l) (hm : m <= n) : Win k e w g o m cur (l.take m) :=
 ⟨h.blk, by have := h.fits; omega, by rw [List.length_take, h.len, Nat.min_eq_left hm], fun i hi => by rw [getD_take hi]; exact h.at_ i (by omega)⟩
theorem Own.setFar {k : IntKind} {e : TypeId} {B base : Nat} {w : World} {ao : Option Addr} {n cap : Nat} {l : List Nat} (h : Own k e B base w ao n cap l) {p : Addr} (hp : p.block < base) (v : Value) : Own k e B base (w.setCell p v) ao n cap l := by
 rcases h.own with h0 | ⟨g, cur, h1, h2, h3⟩
 ·have hl : l = [] := List.length_eq_zero_iff.1 (by rw [h.row.len, h0])
  exact ⟨⟨h.row.len, h.row.fits, h.row.most, h.row.nil_, h.row.dg, .inl hl⟩, .inl h0⟩
 ·have hw : Win k e (w.setCell p v) g 0 n cur l := ⟨(Below.heap_setCell w p v g (by omega)).trans h3.blk, h3.fits, h3.len, h3.at_⟩
  subst h1
  exact ⟨⟨h.row.len, h.row.fits, h.row.most, h.row.nil_, h.row.dg, hw.rd⟩, .inr ⟨g, cur, rfl, h2, hw⟩⟩
theorem owns_win {w : World} {base : Nat} {e : TypeId} {v : Value} {n : Nat} {k : IntKind} {l : List Nat} (h : w.ownsRow base e 1 v n (cs k l)) (hn : 0 < n) :
  ∃ g cap cur, v = .slice (some ⟨g, 0, none⟩) n cap /\ base <= g /\ n <= cap /\ cap <= maxLen /\ cur.size = cap /\ Win k e w g 0 n cur l := by
 have hl : l.length = n := by have := h.1; rw [cs_length] at this; omega
 rcases h.2 with ⟨_, h0⟩ | ⟨g, cap, cur, rfl, hb, hg, hle, hm, hsz, htk⟩
 ·omega
 ·refine ⟨g, cap, cur, rfl, hb, hle, hm, by omega, hg, by omega, hl, fun i hi => ?_⟩
  have h1 : (cs k l)[i]? = some (.int k (l.getD i 0 : Nat)) := cs_get_of (by omega)
  rw [<- htk, List.getElem?_take, if_pos (by omega)] at h1
  rw [Nat.zero_add, <- Array.getElem?_toList]; exact h1
theorem owns_of_win {w : World} {base : Nat} {e : TypeId} {n g cap : Nat} {k : IntKind} {l : List Nat} {cur : Array Value} (hb : base <= g) (h1 : n <= cap) (h2 : cap <= maxLen) (h3 : cur.size = cap) (hw : Win k e w g 0 n cur l) :
  w.ownsRow base e 1 (.slice (some ⟨g, 0, none⟩) n cap) n (cs k l) := by
 refine ⟨by rw [cs_length, hw.len]; omega, .inr ⟨g, cap, cur, rfl, hb, hw.blk, h1, h2, by omega, ?_⟩⟩
 apply List.ext_getElem?
 intro i
 rw [List.getElem?_take]
 by_cases hi : i < n
 ·rw [if_pos (by omega), Array.getElem?_toList, cs_get_of (by rw [hw.len]; exact hi)]
  have := hw.at_ i hi
  rwa [Nat.zero_add] at this
 ·rw [if_neg (by omega), List.getElem?_eq_none (by rw [cs_length, hw.len]; omega)]
theorem owns_onto {w w' : World} {base : Nat} {e : TypeId} {n g cap : Nat} {k : IntKind} {l : List Nat} {cur : Array Value} (hb : base <= g) (h1 : n <= cap) (h2 : cap <= maxLen) (h3 : cur.size = cap) (hO : Onto k e g 0 n w w' cur l) :
  w'.ownsRow base e 1 (.slice (some ⟨g, 0, none⟩) n cap) n (cs k l) := by
 obtain ⟨c, hw, hc, _⟩ := hO.row
 exact owns_of_win hb h1 h2 (by omega) hw
theorem owns_far {w w' : World} {base : Nat} {e e' : TypeId} {v : Value} {n m g o : Nat} {k : IntKind} {xs : List Value} {l : List Nat} {cur : Array Value} (h : w.ownsRow base e 1 v n xs) (hg : g < base) (hO : Onto k e' g o m w w' cur l) : w'.ownsRow base e 1 v n xs := by
 refine ⟨h.1, ?_⟩
 rcases h.2 with h0 | ⟨g', cap, cur', h1, h2, h3, h4⟩
 ·exact .inl h0
 ·exact .inr ⟨g', cap, cur', h1, h2, (hO.block g' (by omega)).trans h3, h4⟩
theorem own0 (w : World) (k : IntKind) (e : TypeId) : (w.alloc (.cells #[] e)).ownsRow w.heap.size e 1 (.slice (some ⟨w.heap.size, 0, none⟩) 0 0) 0 (cs k []) :=
 World.ownsRow_made (base := w.heap.size) (e := e) (size := 1) w #[] 0 (Nat.le_refl _) (Nat.zero_le _) rfl
theorem bel_of {w w' : World} {base : Nat} {e : TypeId} {v : Value} {n : Nat} {xs : List Value} (hown : w.ownsRow base e 1 v n xs) (hbase : base <= w.heap.size) (hg : w.grownBy w' v.ownBlock) : Below base w w' :=
 (Below.refl base w).grown hg hbase (fun k hk => (hown.lt k hk).1)
theorem Bb {w w1 w2 : World} {B : Nat} (hb : Below w.heap.size w w1) (h2 : Below B w1 w2) (hB : w.heap.size <= B) : Below w.heap.size w w2 := hb.trans (h2.mono hB)
theorem own_step {w : World} {base : Nat} {e : TypeId} {v : Value} {n n' j : Nat} {k : IntKind} {l r : List Nat} (h : w.ownsRow base e 1 v n (cs k (l ++ r.take j ++ [r.getD j 0]))) (hn : n = n') (hj : j < r.length) : w.ownsRow base e 1 v n' (cs k (l ++ r.take (j + 1))) := by
 rw [take_snoc r j hj, <- List.append_assoc, <- hn]; exact h
theorem cell_new (w : World) (v : Value) (e : TypeId) : (w.alloc (.cells #[v] e)).cell? ⟨w.heap.size, 0, none⟩ = some v := by simp
variable {P : Program} {w : World} {ops : Array Oper} {rest : List Oper} {o : Oper} {a : Act} {Q : Exit -> Act -> World -> Prop}
theorem app1 (hgd : o.guard = none) (s x : Operand) (t : TypeId) (ho : o.op = .call { callee := .builtin .append, args := #[s, x], argTypes := #[t, t] })
  (base : Nat) (e : TypeId) (k : IntKind) (bytes : Nat) (hby : bytes <= 8) (ht : P.underlying t = some (.slice e)) (hi : (P.info? e).map (fun i => (i.zero, i.size, i.bytes)) = some (some (.int k 0), 1, bytes))
  (v : Value) (n : Nat) (l : List Nat) (hs : a.eval s = v) (hown : w.ownsRow base e 1 v n (cs k l))
  (ad : Addr) (c : Nat) (d : Nat) (hx : a.eval x = .slice (some ad) 1 c) (hd : w.cell? ad = some (.int k d)) (hsm : n <= 1000000) (hbase : base <= w.heap.size)
  (h : ∀ g cap w', w'.ownsRow base e 1 (.slice (some ⟨g, 0, none⟩) (n + 1) cap) (n + 1) (cs k (l ++ [d])) -> Below base w w' -> wpList P ops Q rest (a.put o.dst (.slice (some ⟨g, 0, none⟩) (n + 1) cap)) w') :
  wpList P ops Q (o :: rest) a w := by
 obtain ⟨i0, hi0, hz0, hz1, hz2⟩ := info_parts hi
 refine wpList_append_lies w hgd s x t ho base e i0 (.int k 0) 1 bytes ht hi0 hz0 hz1 hz2 rfl (by decide) v n (cs k l) hs hown ad 1 c [.int k d] hx rfl ?_ ?_ (by decide) (by unfold maxLen; omega) ?_ hbase w.heap.size rfl ?_
 ·intro j u hj
  match j, hj with
  | 0, hj => simp at hj; subst hj; simpa [Addr.add] using hd
 ·intro u hu; simp at hu; subst hu; rfl
 ·have : (n + 1) * bytes <= 1000001 * 8 := Nat.mul_le_mul (by omega) hby
  omega
 ·intro g cap w' h1 h2 h3 h4
  refine h g cap w' ?_ (bel_of hown hbase h2)
  rw [cs_append]; exact h1
theorem appRow (hgd : o.guard = none) (s x : Operand) (t : TypeId) (ho : o.op = .call { callee := .builtin .append, args := #[s, x], argTypes := #[t, t] })
  (base : Nat) (e : TypeId) (k : IntKind) (bytes : Nat) (hby : bytes <= 8) (ht : P.underlying t = some (.slice e)) (hi : (P.info? e).map (fun i => (i.zero, i.size, i.bytes)) = some (some (.int k 0), 1, bytes))
  (v : Value) (n : Nat) (l : List Nat) (hs : a.eval s = v) (hown : w.ownsRow base e 1 v n (cs k l))
  (B : Nat) (ao : Option Addr) (m c : Nat) (r : List Nat) (hx : a.eval x = .slice ao m c) (hr : Row k B w ao m c r) (hsm : n + m <= 1000000) (hbase : base <= w.heap.size)
  (h : ∀ v' w', w'.ownsRow base e 1 v' (n + m) (cs k (l ++ r)) -> Below base w w' -> wpList P ops Q rest (a.put o.dst v') w') :
  wpList P ops Q (o :: rest) a w := by
 obtain ⟨i0, hi0, hz0, hz1, hz2⟩ := info_parts hi
 cases ao with
 | none =>
  have hc := hr.nil_ rfl
  subst hc
  have hm : m = 0 := by have := hr.fits; omega
  subst hm
  have hl : r = [] := List.length_eq_zero_iff.1 hr.len
  subst hl
  refine wpList_append_own_none hgd s x t ho base e i0 1 ht hi0 v n (cs k l) hs hown hx ?_
  refine h v w (by simpa using hown) (Below.refl _ _)
 | some ad =>
  refine wpList_append_own w hgd s x t ho base e i0 (.int k 0) 1 bytes ht hi0 hz0 hz1 hz2 rfl (by decide) v n (cs k l) hs hown ad m c (cs k r) hx (by rw [cs_length, hr.len]; omega) ?_ (cs_one k r) (by unfold maxLen; omega) ?_ hbase ?_
  ·intro j u hj
   obtain ⟨h1, rfl⟩ := cs_get hj
   obtain ⟨b, o', hao, _, hc⟩ := hr.rd.some (by omega)
   cases hao
   have := hc j h1
   unfold Addr.add
   by_cases hj0 : j = 0
   ·subst hj0; simpa using this
   ·rw [if_neg hj0]; exact this
  ·have : (n + m) * bytes <= 1000000 * 8 := Nat.mul_le_mul hsm hby
   omega
  ·intro v' w' h1 h2 _
   refine h v' w' ?_ (bel_of hown hbase h2)
   rw [cs_append]; exact h1
end Go.Proofs.YtdekkieajffblaaGreatDoor
