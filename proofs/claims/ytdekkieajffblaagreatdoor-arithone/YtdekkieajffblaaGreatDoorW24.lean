import Derived.Test.YtdekkieajffblaaGreatDoorW27
import Derived.Test.YtdekkieajffblaaGreatDoorW10
import Derived.Laws.CopyRow
set_option linter.unusedVariables false
set_option linter.unusedSimpArgs false
namespace Go.Proofs.YtdekkieajffblaaGreatDoor
open Go.RowKit
theorem subStep {B P q c vl vl' x y d b : Nat} (h : vl + P * c = q + vl') (hs : x + B * b = d + y + c) : vl + P * x + P * B * b = q + P * d + (vl' + P * y) := by
 have h2 : P * (x + B * b) = P * (d + y + c) := by rw [hs]
 rw [Nat.mul_add, Nat.mul_add, Nat.mul_add, <- Nat.mul_assoc] at h2
 omega
theorem sub_end {N vl vl' q b : Nat} (h : vl + N * b = q + vl') (hq : q < N) (hb : b <= 1) (hv : vl' <= vl) : q = vl - vl' := by
 have : b = 0 \/ b = 1 := by omega
 rcases this with rfl | rfl
 ·rw [Nat.mul_zero] at h; omega
 ·rw [Nat.mul_one] at h; omega
set_option maxHeartbeats 2000000 in
theorem subRows_any (ao ao' : Option Addr) (n cap n' cap' : Nat) (l l' : List Nat) (w : World) (R : Row .u32 B32 w ao n cap l) (R' : Row .u32 B32 w ao' n' cap' l') (hs : n <= 1000) (hle : n' <= n) (hv : val B32 l' <= val B32 l) :
  Calls Tryz.prog 48 #[.slice ao n cap, .slice ao' n' cap'] w fun e w' => ∃ a2 c2 L, e = .returned (.slice a2 n c2) /\ Row .u32 B32 w' a2 n c2 L /\ val B32 L = val B32 l - val B32 l' /\ Below w.heap.size w w' := by
 have HR := hid R
 have HR' := hid R'
 have HL := hid R.len
 have HL' := hid R'.len
 have HD := hid R.dg
 have HV := hid hv
 clear R R' hv
 go_enter Tryz.func48, Tryz.ntmps48
 go_wp2_with fail
 refine (clone_any ao n cap l w HR.out hs).mono ?_
 rintro e w1 ⟨a1, cap1, rfl, hO, b1⟩
 have HO := hid hO
 have HB1 := hid b1
 have hmx := hO.row.most
 have hft := hO.row.fits
 unfold maxLen at hmx
 have RB := hid (HR'.out.below b1)
 by_cases hn0 : n = 0
 ·subst hn0
  have h' : n' = 0 := by omega
  subst h'
  clear hO b1
  go_wp2
  go_loopw [6, 13] (fun c i wr => i = .int .i64 0 /\ wr = w1) (fun _ i _ => 0)
  case atStart => exact ⟨rfl, rfl⟩
  case round =>
   obtain ⟨rfl, hwr⟩ := hrel
   rw [hwr]
   go_wp2
   go_ret
   have hl0 : l' = [] := List.length_eq_zero_iff.1 HL'.out
   exact ⟨a1, cap1, l, rfl, HO.out.row, by rw [hl0]; simp [val], HB1.out⟩
 ·obtain ⟨g, cur, ha1, hg, hW⟩ := hO.own.resolve_left hn0
  subst ha1
  have HW := hid hW
  have HG := hid hg
  have hne : n' ≠ 0 -> ∀ ad, ao' = some ad -> ad.block ≠ g := fun h0 ad h => by
   subst h
   obtain ⟨b', o', hao, hl', _⟩ := HR'.out.rd.some (by rw [HL'.out]; omega)
   cases hao
   simp; omega
  have HNE := hid hne
  clear hO b1 hW hg hne
  go_wp2
  go_loopw [6, 13] (fun c i wr => ∃ m : Nat, ∃ cc : Nat, ∃ q : List Nat, m <= n /\ i = .int .i64 m /\ c = .int .u32 cc /\ cc <= 1 /\ Hid (q.length = m /\ Dg B32 q /\ val B32 (l.take m) + B32 ^ m * cc = val B32 q + val B32 (l'.take m) /\ Onto .u32 58 g 0 n w1 wr cur (q ++ l.drop m))) (fun _ i _ => n - (intOf i).toNat)
  case atStart => exact ⟨0, 0, [], Nat.zero_le _, rfl, rfl, by omega, rfl, Dg.nil _, by simp [val], by simpa using HW.out.onto⟩
  case round =>
   obtain ⟨m, cc, q, hm, rfl, rfl, hcc, hI⟩ := hrel
   by_cases hlt : m < n
   ·obtain ⟨x, hx⟩ : ∃ x, x = l.getD m 0 := ⟨_, rfl⟩
    obtain ⟨y, hy⟩ : ∃ y, y = l'.getD m 0 := ⟨_, rfl⟩
    have hll : m < l.length := by rw [HL.out]; exact hlt
    have hxb : x < B32 := by rw [hx]; exact HD.out.getD _ hll
    have hyb : y < B32 := by rw [hy]; exact getD_lt HR'.out.dg (by decide) _
    have hc : wr.cell? ⟨g, m, none⟩ = some (.int .u32 x) := by
     have := hI.out.2.2.2.cell (i := m) hlt
     rw [List.getD_eq_getElem?_getD, List.getElem?_append_right (by rw [hI.out.1]; omega), hI.out.1, Nat.sub_self, List.getElem?_drop, Nat.add_zero, <- List.getD_eq_getElem?_getD, <- hx, Nat.zero_add] at this
     exact this
    have hfz : wr.frozen? ⟨g, m, none⟩ = false := hI.out.2.2.2.frozen _
    have HX := hid hx
    have HY := hid hy
    have HLL := hid hll
    obtain ⟨Q, hQ⟩ : ∃ Q, Q = (x + B32 - y - cc) % B32 := ⟨_, rfl⟩
    obtain ⟨D, hD⟩ : ∃ D : Nat, D = if x < y + cc then 1 else 0 := ⟨_, rfl⟩
    have HC : Hid (∀ w, Calls Tryz.prog 75 #[.int .u32 x, .int .u32 y, .int .u32 cc] w fun e w' => e = .returned (.tuple #[.int .u32 Q, .int .u32 D]) /\ w' = w) := fun w => by rw [hQ, hD]; exact sub32_any x y cc hxb hyb hcc w
    have hQb : Q < B32 := by rw [hQ]; exact Nat.mod_lt _ (by decide)
    have hDb : D <= 1 := by rw [hD]; split <;> omega
    have hst : x + B32 * D = Q + y + cc := by
     rw [hQ, hD]; unfold B32 at *; split <;> omega
    have HQB := hid hQb
    have HST := hid hst
    clear hx hll hQ hD hQb hst
    have fin : Hid (∀ wx, wx = wr -> (∃ m_1 cc : Nat, ∃ q : List Nat, m_1 <= n /\ Value.int .i64 ((m : Int) + 1) = .int .i64 m_1 /\ Value.int .u32 D = .int .u32 cc /\ cc <= 1 /\ Hid (q.length = m_1 /\ Dg B32 q /\ val B32 (l.take m_1) + B32 ^ m_1 * cc = val B32 q + val B32 (l'.take m_1) /\ Onto .u32 58 g 0 n w1 (wx.setCell ⟨g, m, none⟩ (.int .u32 Q)) cur (q ++ l.drop m_1)))) := by
     rintro wx rfl
     obtain ⟨h1, h2, h3, h4⟩ := hI.out
     refine ⟨m + 1, D, q ++ [Q], by omega, by go_num, rfl, hDb, ?_, ?_, ?_, ?_⟩
     ·simp [h1]
     ·exact h2.append (Dg.one HQB.out)
     ·rw [val_snoc, h1, val_take_succ B32 l m HLL.out, val_take_next B32 l' m, <- HX.out, <- HY.out, Nat.pow_succ]
      exact subStep h3 HST.out
     ·rw [<- set_append_drop h1 HLL.out]
      have := h4.store hlt Q
      rw [Nat.zero_add] at this
      exact this
    by_cases hlt' : m < n'
    ·have e1 : decide ((m : Int) < n') = true := by simp; omega
     obtain ⟨b', o', hao, hl', hc'⟩ := RB.out.rd.some (by rw [HL'.out]; omega)
     have hbg : b' ≠ g := HNE.out (by omega) _ hao
     subst hao
     have hcy : wr.cell? ⟨b', o' + m, none⟩ = some (.int .u32 y) := by
      rw [hI.out.2.2.2.other hbg, hc' m (by rw [HL'.out]; exact hlt'), hy]
     clear hy hc' hl'
     go_wp2_with (go_at_call 75; refine (HC.out _).mono ?_; rintro e wz ⟨rfl, hwz⟩; rw [hwz])
     exact ⟨fin.out _ rfl, by simp [intOf] <;> omega⟩
    ·have e1 : decide ((m : Int) < n') = false := by simp; omega
     have hy0 : y = 0 := by
      rw [hy, List.getD_eq_getElem?_getD, List.getElem?_eq_none (by rw [HL'.out]; omega)]; rfl
     clear hy
     subst hy0
     go_wp2_with (go_at_call 75; refine (HC.out _).mono ?_; rintro e wz ⟨rfl, hwz⟩; rw [hwz])
     exact ⟨fin.out _ rfl, by simp [intOf] <;> omega⟩
   ·obtain rfl : m = n := by omega
    go_wp2
    go_ret
    obtain ⟨h1, h2, h3, h4⟩ := hI.out
    rw [List.drop_eq_nil_of_le (by rw [HL.out]; omega), List.append_nil] at h4
    rw [List.take_of_length_le (l := l) (by rw [HL.out]; omega), List.take_of_length_le (l := l') (by rw [HL'.out]; omega)] at h3
    refine ⟨_, cap1, q, rfl, h4.row_ h2 hft (by unfold maxLen; omega), ?_, Bb HB1.out (h4.below HG.out) (by exact Nat.le_refl _)⟩
    refine sub_end h3 ?_ hcc HV.out
    have := val_lt h2
    rw [h1] at this
    exact this
theorem copy_row {P : Program} {k : IntKind} {e : TypeId} (t : TypeId) (ht : P.underlying t = some (.slice e)) {bytes : Nat} (hi : (P.info? e).map (fun i => (i.zero, i.size, i.bytes)) = some (some (.int k 0), 1, bytes)) (N : Nat) {w : World} {g : Nat} {cur : Array Value}
  (W : Win k e w g 0 N cur (List.replicate N 0)) {B : Nat} {ao : Option Addr} {n cap : Nat} {l : List Nat} (R : Row k B w ao n cap l) (hn : n <= N) :
  ∃ w', (∀ ty, (Builtin.copy_ #[t, t] ty #[.slice (some ⟨g, 0, none⟩) N N, .slice ao n cap]).run P w = .ok (goInt n) w') /\ Onto k e g 0 N w w' cur (l ++ List.replicate (N - n) 0) := by
 have hs : (P.info? e).map (·.size) = some 1 := by
  cases h : P.info? e with
  | none => rw [h] at hi; cases hi
  | some i => rw [h] at hi; simp at hi; simp [hi.2.1]
 cases ao with
 | none =>
  have hc := R.nil_ rfl
  subst hc
  have hm : n = 0 := by have := R.fits; omega
  subst hm
  have hl : l = [] := List.length_eq_zero_iff.1 R.len
  subst hl
  exact ⟨w, fun ty => run_copy_nil P w t t ty e _ N N ht (by rw [hs]; rfl), W.onto⟩
 | some ad =>
  have hlen : (cs k l).length = n := by rw [cs_length, R.len]
  refine ⟨w.setRow g (cur.toList.take 0 ++ cs k l ++ cur.toList.drop (0 + n)).toArray, fun ty => ?_, ?_⟩
  ·have := run_copy_row P w t t ty e g 0 N N ad n cap cur e (cs k l) ht hs W.blk (by rw [hlen]; exact (Nat.min_eq_left hn).symm) ?_ (by rw [hlen]; have := W.fits; omega) (cs_one k l)
   ·rw [hlen] at this; exact this
   ·intro j u hj
    obtain ⟨h1, rfl⟩ := cs_get hj
    obtain ⟨b, o', hao, _, hc⟩ := R.rd.some (by omega)
    cases hao
    have := hc j h1
    unfold Addr.add
    by_cases hj0 : j = 0
    ·subst hj0; simpa using this
    ·rw [if_neg hj0]; exact this
  ·have hf := W.fits
   have hsz : (cur.toList.take 0 ++ cs k l ++ cur.toList.drop (0 + n)).toArray.size = cur.size := by simp [cs_length, R.len]; omega
   refine ⟨rfl, rfl, rfl, setRow_size _ _ _, fun j hj => setRow_other w g j _ hj, _, ⟨setRow_heap w g cur _ e (0, 0) W.blk, by rw [hsz]; exact hf, by simp [R.len]; omega, fun i hi => ?_⟩, hsz, fun j hj => ?_⟩
   ·by_cases h : i < n
    ·rw [getD_append_left (by rw [R.len]; exact h)]
     have := cs_get_of (k := k) (l := l) (j := i) (by rw [R.len]; exact h)
     simp [List.getElem?_append, cs_length, R.len, h, this]
     simp [cs]
    ·have h1 := W.at_ i hi
     rw [getD_zeros, Nat.zero_add] at h1
     rw [List.getD_eq_getElem?_getD, List.getElem?_append_right (by rw [R.len]; omega), List.getElem?_replicate, if_pos (by rw [R.len]; omega)]
     simp [List.getElem?_append, cs_length, R.len, h, List.getElem?_drop]
     rw [show n + (i - n) = i by omega]
     exact h1
   ·have : N <= j := by omega
    have h : ¬ j < n := by omega
    simp [List.getElem?_append, cs_length, R.len, h, List.getElem?_drop]
    rw [show n + (j - n) = j by omega]
theorem add_end {B K n n' x y z c : Nat} (hB : 2 <= B) (h : z + B ^ K * c = x + y) (hx : x < B ^ n) (hy : y < B ^ n') (hn : n' <= n) (hK : K = n + 1) : z = x + y := by
 have h1 : B ^ n' <= B ^ n := Nat.pow_le_pow_right (by omega) hn
 have h2 : B ^ K = B ^ n * B := by rw [hK, Nat.pow_succ]
 have h3 : B ^ n * 2 <= B ^ n * B := Nat.mul_le_mul_left _ hB
 cases c with
 | zero => simpa using h
 | succ c => rw [Nat.mul_add, Nat.mul_one] at h; omega
set_option maxHeartbeats 2000000 in
theorem addRows_any (ao ao' : Option Addr) (n cap n' cap' : Nat) (l l' : List Nat) (w : World) (R : Row .u32 B32 w ao n cap l) (R' : Row .u32 B32 w ao' n' cap' l') (hs : n <= 40) (hs' : n' <= 40) :
  Calls Tryz.prog 47 #[.slice ao n cap, .slice ao' n' cap'] w fun e w' => ∃ a2 n2 c2 L, e = .returned (.slice a2 n2 c2) /\ Row .u32 B32 w' a2 n2 c2 L /\ n2 <= 41 /\ val B32 L = val B32 l + val B32 l' /\ Below w.heap.size w w' := by
 have HR := hid R
 have HR' := hid R'
 have HL := hid R.len
 have HL' := hid R'.len
 clear R R'
 by_cases hlt : n < n'
 ·have e1 : decide ((n : Int) < n') = true := by simp; omega
  go_enter Tryz.func47, Tryz.ntmps47
  obtain ⟨K, hK⟩ : ∃ K, K = n' + 1 := ⟨_, rfl⟩
  have hmk := fun wx => run_make_row' (P := Tryz.prog) 22 58 (.int .u32 0) 4 Tryz.underlying22 info_u32 rfl .i64 .i64 K (by omega) (by omega) wx
  rw [show ((K : Nat) : Int) = (n' : Int) + 1 by omega] at hmk
  have hW0 := made_win w .u32 58 K
  have hb0 := Ba w (.cells (madeCells #[.int .u32 0] K) 58)
  obtain ⟨w2, hcp, hO⟩ := copy_row (P := Tryz.prog) 22 Tryz.underlying22 info_u32 K hW0 (HR'.out.below hb0) (by omega)
  have HO := hid hO
  have HB0 := hid hb0
  have HK := hid hK
  clear hK hW0 hb0 hO
  go_wp2_with fail
  have b2 := HO.out.below (Nat.le_refl w.heap.size)
  have hb2 : Below w.heap.size w w2 := HB0.out.trans b2
  obtain ⟨cur2, hWin⟩ := HO.out.win
  have hdg : Dg B32 (l' ++ List.replicate (K - n') 0) := HR'.out.dg.append (Dg.zeros (by decide) _)
  refine (addInto_any w.heap.size 0 K K cur2 _ ao n cap l w2 hWin hdg (by have := HK.out; unfold maxLen; omega) (HR.out.below hb2) (fun h0 ad h => ?_)).mono ?_
  ·subst h
   obtain ⟨b', o', hao, hl', _⟩ := HR.out.rd.some (by rw [HL.out]; omega)
   cases hao
   simp; omega
  rintro e w3 ⟨rfl, M, c, hO3, hd3, hc3, hv3⟩
  have HO3 := hid hO3
  have HD3 := hid hd3
  have HV3 := hid hv3
  have HB3 := hid (hb2.trans (hO3.below (Nat.le_refl _)))
  clear hO3 hd3 hv3 b2 hb2 hWin hdg hcp hmk
  go_wp2
  go_ret
  refine ⟨_, K, K, M, rfl, HO3.out.row_ HD3.out (Nat.le_refl _) (by have := HK.out; unfold maxLen; omega), by have := HK.out; omega, ?_, HB3.out⟩
  have hv := HV3.out
  have h1 := val_lt HR'.out.dg
  have h2 := val_lt HR.out.dg
  rw [HL'.out] at h1
  rw [HL.out] at h2
  rw [List.take_of_length_le (l := l) (by rw [HL.out]; have := HK.out; omega), val_append, val_zeros, Nat.mul_zero, Nat.add_zero] at hv
  rw [Nat.add_comm (val B32 l)]; exact add_end (by decide) hv h1 h2 (by omega) HK.out
 ·have e1 : decide ((n : Int) < n') = false := by simp; omega
  go_enter Tryz.func47, Tryz.ntmps47
  obtain ⟨K, hK⟩ : ∃ K, K = n + 1 := ⟨_, rfl⟩
  have hmk := fun wx => run_make_row' (P := Tryz.prog) 22 58 (.int .u32 0) 4 Tryz.underlying22 info_u32 rfl .i64 .i64 K (by omega) (by omega) wx
  rw [show ((K : Nat) : Int) = (n : Int) + 1 by omega] at hmk
  have hW0 := made_win w .u32 58 K
  have hb0 := Ba w (.cells (madeCells #[.int .u32 0] K) 58)
  obtain ⟨w2, hcp, hO⟩ := copy_row (P := Tryz.prog) 22 Tryz.underlying22 info_u32 K hW0 (HR.out.below hb0) (by omega)
  have HO := hid hO
  have HB0 := hid hb0
  have HK := hid hK
  clear hK hW0 hb0 hO
  go_wp2_with fail
  have b2 := HO.out.below (Nat.le_refl w.heap.size)
  have hb2 : Below w.heap.size w w2 := HB0.out.trans b2
  obtain ⟨cur2, hWin⟩ := HO.out.win
  have hdg : Dg B32 (l ++ List.replicate (K - n) 0) := HR.out.dg.append (Dg.zeros (by decide) _)
  refine (addInto_any w.heap.size 0 K K cur2 _ ao' n' cap' l' w2 hWin hdg (by have := HK.out; unfold maxLen; omega) (HR'.out.below hb2) (fun h0 ad h => ?_)).mono ?_
  ·subst h
   obtain ⟨b', o', hao, hl', _⟩ := HR'.out.rd.some (by rw [HL'.out]; omega)
   cases hao
   simp; omega
  rintro e w3 ⟨rfl, M, c, hO3, hd3, hc3, hv3⟩
  have HO3 := hid hO3
  have HD3 := hid hd3
  have HV3 := hid hv3
  have HB3 := hid (hb2.trans (hO3.below (Nat.le_refl _)))
  clear hO3 hd3 hv3 b2 hb2 hWin hdg hcp hmk
  go_wp2
  go_ret
  refine ⟨_, K, K, M, rfl, HO3.out.row_ HD3.out (Nat.le_refl _) (by have := HK.out; unfold maxLen; omega), by have := HK.out; omega, ?_, HB3.out⟩
  have hv := HV3.out
  have h1 := val_lt HR.out.dg
  have h2 := val_lt HR'.out.dg
  rw [HL.out] at h1
  rw [HL'.out] at h2
  rw [List.take_of_length_le (l := l') (by rw [HL'.out]; have := HK.out; omega), val_append, val_zeros, Nat.mul_zero, Nat.add_zero] at hv
  exact add_end (by decide) hv h1 h2 (by omega) HK.out
theorem keep4 {wx wy : World} {p q : Nat} {a0 a1 b0 b1 : Value} (h : wx.cell? ⟨p, 0, none⟩ = some a0 /\ wx.cell? ⟨p, 1, none⟩ = some a1 /\ wx.cell? ⟨q, 0, none⟩ = some b0 /\ wx.cell? ⟨q, 1, none⟩ = some b1) (hb : Below wx.heap.size wx wy) :
  wy.cell? ⟨p, 0, none⟩ = some a0 /\ wy.cell? ⟨p, 1, none⟩ = some a1 /\ wy.cell? ⟨q, 0, none⟩ = some b0 /\ wy.cell? ⟨q, 1, none⟩ = some b1 :=
 ⟨(hb.cell (p := ⟨p, 0, none⟩) (cell_lt h.1)).trans h.1, (hb.cell (p := ⟨p, 1, none⟩) (cell_lt h.1)).trans h.2.1, (hb.cell (p := ⟨q, 0, none⟩) (cell_lt h.2.2.1)).trans h.2.2.1, (hb.cell (p := ⟨q, 1, none⟩) (cell_lt h.2.2.1)).trans h.2.2.2⟩
theorem far2 {wx : World} {p i s : Nat} {a u v : Value} (h : wx.cell? ⟨p, i, none⟩ = some a) (hp : p ≠ s) : ((wx.setCell ⟨s, 0, none⟩ u).setCell ⟨s, 1, none⟩ v).cell? ⟨p, i, none⟩ = some a :=
 (World.cell?_of_block (w := wx) (a := ⟨p, i, none⟩) ((Below.heap_setCell _ _ _ _ hp).trans (Below.heap_setCell _ _ _ _ hp))).trans h
theorem keep4s {wx : World} {p q s : Nat} {a0 a1 b0 b1 u v : Value} (h : wx.cell? ⟨p, 0, none⟩ = some a0 /\ wx.cell? ⟨p, 1, none⟩ = some a1 /\ wx.cell? ⟨q, 0, none⟩ = some b0 /\ wx.cell? ⟨q, 1, none⟩ = some b1) (hp : p ≠ s) (hq : q ≠ s) :
  ((wx.setCell ⟨s, 0, none⟩ u).setCell ⟨s, 1, none⟩ v).cell? ⟨p, 0, none⟩ = some a0 /\ ((wx.setCell ⟨s, 0, none⟩ u).setCell ⟨s, 1, none⟩ v).cell? ⟨p, 1, none⟩ = some a1 /\ ((wx.setCell ⟨s, 0, none⟩ u).setCell ⟨s, 1, none⟩ v).cell? ⟨q, 0, none⟩ = some b0 /\ ((wx.setCell ⟨s, 0, none⟩ u).setCell ⟨s, 1, none⟩ v).cell? ⟨q, 1, none⟩ = some b1 :=
 ⟨far2 h.1 hp, far2 h.2.1 hp, far2 h.2.2.1 hq, far2 h.2.2.2 hq⟩
theorem Ans.form {w : World} {x : Value} {en : Int} {neg : Bool} {v : Nat} (h : Ans w x en neg v) : ∃ s ao n cap l, x = .agg #[.bool s, .slice ao n cap] /\ Row .u32 B32 w ao n cap l /\ (∀ w', Row .u32 B32 w' ao n cap l -> Ans w' x en neg v) := by
 rcases h with ⟨h1, h2, l, ⟨ao, n, cap, rfl, R⟩, h4, h5⟩ | ⟨h1, h2, rfl⟩
 ·exact ⟨_, ao, n, cap, l, rfl, R, fun w' R' => .inl ⟨h1, h2, l, ⟨ao, n, cap, rfl, R'⟩, h4, h5⟩⟩
 ·exact ⟨false, none, 0, 0, [], rfl, Row.nil _ _ _ _, fun w' _ => .inr ⟨h1, h2, rfl⟩⟩
set_option maxHeartbeats 2000000 in
theorem mul_any (neg neg' : Bool) (ao ao' : Option Addr) (n cap n' cap' : Nat) (l l' : List Nat) (w : World) (R : Row .u32 B32 w ao n cap l) (R' : Row .u32 B32 w ao' n' cap' l') (g1 : goodB neg l = true) (g2 : goodB neg' l' = true) :
  Calls Tryz.prog 29 #[.agg #[.bool neg, .slice ao n cap], .agg #[.bool neg', .slice ao' n' cap']] w (FitPost w (neg != neg') (val B32 l * val B32 l')) := by
 have HR := hid R
 have HR' := hid R'
 have G1 := hid g1
 have G2 := hid g2
 have hn40 : n <= 40 := by rw [<- R.len]; exact goodB_len g1
 have hn40' : n' <= 40 := by rw [<- R'.len]; exact goodB_len g2
 clear R R' g1 g2
 go_enter Tryz.func29, Tryz.ntmps29
 go_wp2_with fail
 obtain ⟨x1, x2, x3, hb0⟩ := three_boxes 24 w neg neg' false ao ao' none n cap n' cap' 0 0 _ rfl
 generalize hW0 : (((w.alloc (.cells #[.bool neg, .slice ao n cap] 24)).alloc (.cells #[.bool neg', .slice ao' n' cap'] 24)).alloc (.cells #[.bool false, .slice none 0 0] 24)) = W0 at *
 clear hW0
 refine (good_any neg ao n cap l W0 (HR.out.below hb0)).mono ?_
 rintro e w1 ⟨rfl, hb1⟩
 rw [G1.out]
 obtain ⟨c20, c21⟩ := (x2.on hb1).c
 have X1 := hid (x1.on hb1)
 have X2 := hid (x2.on hb1)
 have X3 := hid (x3.on hb1)
 have HB1 := hid (Bt hb0 hb1)
 clear x1 x2 x3 hb0 hb1
 go_wp2_with fail
 refine (good_any neg' ao' n' cap' l' w1 (HR'.out.below HB1.out)).mono ?_
 rintro e w2 ⟨rfl, hb2⟩
 rw [G2.out]
 clear c20 c21
 have Y3 := hid (X3.out.on hb2)
 have HB2 := hid (Bt HB1.out hb2)
 have hS : w2.cell? ⟨w.heap.size, 0, none⟩ = some (.bool neg) /\ w2.cell? ⟨w.heap.size, 1, none⟩ = some (.slice ao n cap) /\ w2.cell? ⟨w.heap.size + 1, 0, none⟩ = some (.bool neg') /\ w2.cell? ⟨w.heap.size + 1, 1, none⟩ = some (.slice ao' n' cap') := ⟨(X1.out.on hb2).c.1, (X1.out.on hb2).c.2, (X2.out.on hb2).c.1, (X2.out.on hb2).c.2⟩
 have RW := hid (HR.out.below HB2.out)
 have RW' := hid (HR'.out.below HB2.out)
 have HS := hid hS
 clear hb2 X1 X2 X3 HB1 HR HR' hS
 go_wp2
 go_region_held3 (fun wx => wx.cell? ⟨w.heap.size, 0, none⟩ = some (.bool neg) /\ wx.cell? ⟨w.heap.size, 1, none⟩ = some (.slice ao n cap) /\ wx.cell? ⟨w.heap.size + 1, 0, none⟩ = some (.bool neg') /\ wx.cell? ⟨w.heap.size + 1, 1, none⟩ = some (.slice ao' n' cap'))
  (first | exact keep4 HS.out (Bd w2 1) | exact keep4 (by assumption) (by assumption) | exact keep4s (by assumption) (by omega) (by omega))
  (first
   | (go_at_call 50; refine (mulRows_any ao ao' n cap n' cap' l l' _ ?_ ?_ hn40 hn40').mono ?_; (exact RW.out.below (Bd w2 1)); (exact RW'.out.below (Bd w2 1)); rintro e wa ⟨a2, c2, L, rfl, hRL, hvL, ba⟩; have RL := hid hRL; have HVL := hid hvL; clear hRL hvL)
   | (go_at_call 46; refine (fitting_any (neg != neg') a2 (n + n') c2 L _ ?_).mono ?_; (exact RL.out); rintro e wb ⟨x, en, rfl, hA, bb⟩; obtain ⟨sx, ax, nx, cx, lx, rfl, Rx, hAx⟩ := hA.form; have Z3 := ((Y3.out.on (Bd w2 1)).on ba).on bb; obtain ⟨z30, z31⟩ := Z3.c; obtain ⟨f30, f31⟩ := Z3.f; have HZ := hid Z3; have HRx := hid Rx; have HAx := hid hAx; clear hA Rx hAx Z3))
 have hbW : Below w.heap.size w wb := Bt (Bt (Bt HB2.out (Bd w2 1)) ba) bb
 have z := HZ.out.set2 sx ax nx cx
 obtain ⟨y0, y1⟩ := z.c
 have rx := HAx.out _ (HRx.out.setBox2 HZ.out sx (.slice ax nx cx))
 rw [HVL.out] at rx
 have bF := (hbW.setCell (p := ⟨w.heap.size + 1 + 1, 0, none⟩) (by simp; omega) (.bool sx)).setCell (p := ⟨w.heap.size + 1 + 1, 1, none⟩) (by simp; omega) (.slice ax nx cx)
 rename_i hHeld
 clear hHeld
 go_wp2
 exact bodyPost_ret (v := .tuple #[.agg #[.bool sx, .slice ax nx cx], .int .i64 en]) (by simp [results, Tryz.results29, go_sem, y0, y1]) rfl ⟨_, _, rfl, rx, bF⟩
end Go.Proofs.YtdekkieajffblaaGreatDoor
