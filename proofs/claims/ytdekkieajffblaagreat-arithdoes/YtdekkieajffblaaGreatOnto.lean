/-
  A window of a row that is written in place: what is said of it, and small laws, of whatever program.
-/
import Derived.Test.YtdekkieajffblaaGreatW1
import Derived.BigQuiet
import Derived.Deep.QuietTactic
import Derived.Laws.BitsAllLaws
set_option linter.unusedVariables false
set_option linter.unusedSimpArgs false
namespace Go.Proofs.YtdekkieajffblaaGreat
open Go.RowKit

set_option maxHeartbeats 400000 in
theorem whole_any (neg : Bool) (ao : Option Addr) (n cap : Nat) (l : List Nat) (w : World) (R : Row .u32 B32 w ao n cap l) :
    Calls Tryz.prog 65 #[.bool neg, .slice ao n cap] w fun e w' => ∃ x l', e = .returned x ∧ IntIs w' x (neg && decide (l' ≠ [])) l' ∧ Tr l' ∧ val B32 l' = val B32 l ∧ l'.length ≤ n ∧ Below w.heap.size w w' := by
  go_enter Tryz.func65, Tryz.ntmps65
  go_wp2_with fail
  refine (trim_any ao n cap l _ (R.below (Ba _ _))).mono ?_
  rintro e w1 ⟨m, hm, rfl, rfl, ht, hv⟩
  have R2 := R.take hm m (Nat.le_refl _) (Nat.le_trans hm R.fits)
  have hmn := R.most
  have hmc := R.fits
  unfold maxLen at hmn
  have hl := R.len
  have HR := hid R2
  have HT := hid ht
  have HV := hid hv
  have HL := hid hl
  clear R R2 ht hv hl
  by_cases h0 : m = 0
  · subst h0
    go_wp2
    refine bodyPost_ret (v := .agg #[.bool false, .slice none 0 0]) (by simp [results, Tryz.results65, go_sem]) rfl ⟨_, [], rfl, ⟨none, 0, 0, by simp, Row.nil _ _ _ _⟩, Tr.nil, ?_, by simp, Ba _ _⟩
    rw [← HV.out]; simp
  · have e0 : ((m : Int) == 0) = false := by simp; omega
    go_wp2
    refine bodyPost_ret (v := .agg #[.bool neg, .slice ao m m]) (by simp [results, Tryz.results65, go_sem]) rfl ⟨_, l.take m, rfl, ⟨ao, m, m, ?_, HR.out.below (Ba _ _)⟩, HT.out, HV.out, by rw [List.length_take]; omega, Ba _ _⟩
    have hne : l.take m ≠ [] := by
      intro e
      have := congrArg List.length e
      rw [List.length_take, HL.out] at this
      simp at this; omega
    simp [hne]

set_option maxHeartbeats 400000 in
theorem cmpU_any (a b : Nat) (ha : a < B32) (hb : b < B32) (w : World) :
    Calls Tryz.prog 97 #[.int .u32 a, .int .u32 b] w fun e w' => e = .returned (.int .i64 (cmpN a b)) ∧ w' = w := by
  unfold B32 at ha hb
  rcases Nat.lt_trichotomy a b with h | h | h
  · go_enter Tryz.func97, Tryz.ntmps97
    go_wp2
    go_ret
    exact ⟨by simp [cmpN, h], rfl⟩
  · subst h
    go_enter Tryz.func97, Tryz.ntmps97
    go_wp2
    go_ret
    exact ⟨by simp [cmpN], rfl⟩
  · go_enter Tryz.func97, Tryz.ntmps97
    go_wp2
    go_ret
    exact ⟨by simp [cmpN, show ¬ a < b by omega, show ¬ a = b by omega], rfl⟩

set_option maxHeartbeats 400000 in
theorem cmpI_any (a b : Nat) (ha : a ≤ maxLen) (hb : b ≤ maxLen) (w : World) :
    Calls Tryz.prog 96 #[.int .i64 a, .int .i64 b] w fun e w' => e = .returned (.int .i64 (cmpN a b)) ∧ w' = w := by
  unfold maxLen at ha hb
  rcases Nat.lt_trichotomy a b with h | h | h
  · go_enter Tryz.func96, Tryz.ntmps96
    go_wp2
    go_ret
    exact ⟨by simp [cmpN, h], rfl⟩
  · subst h
    go_enter Tryz.func96, Tryz.ntmps96
    go_wp2
    go_ret
    exact ⟨by simp [cmpN], rfl⟩
  · go_enter Tryz.func96, Tryz.ntmps96
    go_wp2
    go_ret
    exact ⟨by simp [cmpN, show ¬ a < b by omega, show ¬ a = b by omega], rfl⟩

theorem cmpN_len {a b : List Nat} (ha : Dg B32 a) (hb : Dg B32 b) (ta : Tr a) (tb : Tr b) (h : a.length ≠ b.length) : cmpN a.length b.length = cmpN (val B32 a) (val B32 b) := by
  have h0 : 0 < B32 := by decide
  rcases Nat.lt_or_ge a.length b.length with h' | h'
  · have := lt_of_length h0 ha tb h'
    simp [cmpN, h', this]
  · have := lt_of_length h0 hb ta (by omega : b.length < a.length)
    unfold cmpN
    rw [if_neg (by omega), if_neg (by omega), if_neg (by omega), if_neg (by omega)]
theorem cmpN_digit {B : Nat} {a b : List Nat} {k : Nat} (ha : Dg B a) (hb : Dg B b) (hka : k < a.length) (hkb : k < b.length) (ht : a.drop (k + 1) = b.drop (k + 1)) (h : a.getD k 0 ≠ b.getD k 0) : cmpN (a.getD k 0) (b.getD k 0) = cmpN (val B a) (val B b) := by
  rcases Nat.lt_or_ge (a.getD k 0) (b.getD k 0) with h' | h'
  · have := lt_of_digit ha hka hkb ht h'
    unfold cmpN
    rw [if_pos h', if_pos this]
  · have := lt_of_digit hb hkb hka ht.symm (by omega)
    unfold cmpN
    rw [if_neg (by omega), if_neg (by omega), if_neg (by omega), if_neg (by omega)]
theorem ret_i64 {a b : Int} (h : a = b) : Ending.returned (.int .i64 a) = .returned (.int .i64 b) := by rw [h]

set_option maxHeartbeats 1000000 in
theorem compareRows_any (ao ao' : Option Addr) (n cap n' cap' : Nat) (l l' : List Nat) (w : World) (R : Row .u32 B32 w ao n cap l) (R' : Row .u32 B32 w ao' n' cap' l') (t : Tr l) (t' : Tr l') :
    Calls Tryz.prog 71 #[.slice ao n cap, .slice ao' n' cap'] w fun e w' => e = .returned (.int .i64 (cmpN (val B32 l) (val B32 l'))) ∧ ∃ k, w' = w.drewN k := by
  obtain ⟨hn, hcap, hmax, _, hdg, hrd⟩ := R
  obtain ⟨hn', hcap', hmax', _, hdg', hrd'⟩ := R'
  by_cases hne : n = n'
  · subst hne
    have e0 : ((n : Int) != n) = false := by simp
    have HN : Hid (l.length = n) := hn
    have HN' : Hid (l'.length = n) := hn'
    have HD : Hid (Dg B32 l ∧ Dg B32 l') := ⟨hdg, hdg'⟩
    unfold maxLen at hmax
    clear hn hn' hdg hdg' t t' hmax'
    go_enter Tryz.func71, Tryz.ntmps71
    go_wp2
    go_loopw [5] (fun t wr => ∃ m : Nat, m ≤ n ∧ t = .int .i64 ((m : Int) - 1) ∧ Hid (l.drop m = l'.drop m) ∧ ∃ k, wr = w.drewN k) (fun t _ => (intOf t + 1).toNat)
    case atStart => exact ⟨n, Nat.le_refl _, rfl, by unfold Hid; rw [List.drop_eq_nil_of_le (by rw [HN.out]; omega), List.drop_eq_nil_of_le (by rw [HN'.out]; omega)], 0, rfl⟩
    case round =>
      obtain ⟨m, hm, rfl, hv, k, rfl⟩ := hrel
      by_cases hz : m = 0
      · subst hz
        go_wp2
        go_ret
        refine ⟨ret_i64 ?_, k, rfl⟩
        have := hv.out
        simp only [List.drop_zero] at this
        rw [this]; simp [cmpN]
      · obtain ⟨b, o, rfl, hl, hc⟩ := hrd.some (by rw [HN.out]; omega)
        obtain ⟨b', o', rfl, hl', hc'⟩ := hrd'.some (by rw [HN'.out]; omega)
        have hc1 := hc (m - 1) (by rw [HN.out]; omega)
        have hc1' := hc' (m - 1) (by rw [HN'.out]; omega)
        obtain ⟨d, hd⟩ : ∃ d, d = l.getD (m - 1) 0 := ⟨_, rfl⟩
        obtain ⟨d', hd'⟩ : ∃ d, d = l'.getD (m - 1) 0 := ⟨_, rfl⟩
        rw [← hd] at hc1
        rw [← hd'] at hc1'
        have hdb : d < B32 := by rw [hd]; exact HD.out.1.getD _ (by rw [HN.out]; omega)
        have hdb' : d' < B32 := by rw [hd']; exact HD.out.2.getD _ (by rw [HN'.out]; omega)
        have H1 : Hid (d = l.getD (m - 1) 0) := hd
        have H1' : Hid (d' = l'.getD (m - 1) 0) := hd'
        clear hd hd' hc hc' hrd hrd'
        have hpos : (1 : Int) ≤ m := by omega
        have hmm : m - 1 + 1 = m := by omega
        have HM : Hid (m - 1 + 1 = m) := hmm
        clear hmm
        by_cases hdd : d = d'
        · subst hdd
          have ed : ((d : Int) != d) = false := by simp
          go_wp2
          go_quiet (fail)
          go_wp2
          go_roundw
          case rel => exact ⟨m - 1, by omega, by go_num, by
            unfold Hid
            rw [drop_cons l (m - 1) (by rw [HN.out]; omega), drop_cons l' (m - 1) (by rw [HN'.out]; omega), HM.out, ← H1.out, ← H1'.out, hv.out], k + nq, rfl⟩
          case measure => simp [intOf]; omega
        · have ed : ((d : Int) != d') = true := by rw [bne_iff_ne]; omega
          go_wp2
          go_quiet (fail)
          go_wp2
          have c1 : ((w.drewN k).drewN nq).cell? ⟨b, o + (m - 1), none⟩ = some (.int .u32 d) := hc1
          have c1' : ((w.drewN k).drewN nq).cell? ⟨b', o' + (m - 1), none⟩ = some (.int .u32 d') := hc1'
          obtain ⟨q, hq⟩ : ∃ q, (w.drewN k).drewN nq = w.drewN q := ⟨k + nq, World.drewN_drewN _ _ _⟩
          generalize hW : (w.drewN k).drewN nq = W at *
          have HW : Hid (W = w.drewN q) := hq
          clear hq
          clear hW hc1 hc1'
          go_quiet ((go_at_call 97; exact Calls.quiet_of_same (cmpU_any d d' hdb hdb' _)))
          go_wp2
          go_ret
          refine ⟨ret_i64 ?_, q + nq, by rw [HW.out]; exact World.drewN_drewN _ _ _⟩
          rw [H1.out, H1'.out]
          exact cmpN_digit HD.out.1 HD.out.2 (by rw [HN.out]; omega) (by rw [HN'.out]; omega) (by rw [HM.out]; exact hv.out) (by rw [← H1.out, ← H1'.out]; exact hdd)
  · have e0 : ((n : Int) != n') = true := by rw [bne_iff_ne]; omega
    have HC : Hid (cmpN n n' = cmpN (val B32 l) (val B32 l')) := by
      have := cmpN_len hdg hdg' t t' (by omega)
      rw [hn, hn'] at this; exact this
    clear hn hn' t t' hdg hdg' hrd hrd'
    go_enter Tryz.func71, Tryz.ntmps71
    go_wp2_with (go_at_call 96; refine (cmpI_any n n' (by omega) (by omega) _).mono ?_; rintro e w' ⟨rfl, rfl⟩)
    go_ret
    exact ⟨ret_i64 HC.out, 0, rfl⟩

end Go.Proofs.YtdekkieajffblaaGreat

set_option linter.unusedVariables false
set_option linter.unusedSimpArgs false
namespace Go.Proofs.YtdekkieajffblaaGreat
open Go.RowKit

/-- The window of n cells from o on of block g (a row of type e, nothing frozen) holds l. -/
structure Win (k : IntKind) (e : TypeId) (w : World) (g o n : Nat) (cur : Array Value) (l : List Nat) : Prop where
  blk : w.heap[g]? = some (.cells cur e (0, 0))
  fits : o + n ≤ cur.size
  len : l.length = n
  at_ : ∀ i, i < n → cur[o + i]? = some (.int k (l.getD i 0 : Nat))

/-- w' is w but for block g, where the window's n cells now hold l. -/
structure Onto (k : IntKind) (e : TypeId) (g o n : Nat) (w w' : World) (cur : Array Value) (l : List Nat) : Prop where
  os : w'.os = w.os
  tape : w'.tape = w.tape
  output : w'.output = w.output
  size : w'.heap.size = w.heap.size
  block : ∀ j, j ≠ g → w'.heap[j]? = w.heap[j]?
  row : ∃ cur', Win k e w' g o n cur' l ∧ cur'.size = cur.size ∧ ∀ j, (j < o ∨ o + n ≤ j) → cur'[j]? = cur[j]?

variable {k : IntKind} {e : TypeId} {g o n : Nat} {w w' w'' : World} {cur : Array Value} {l : List Nat}

theorem Win.cell (h : Win k e w g o n cur l) {i : Nat} (hi : i < n) : w.cell? ⟨g, o + i, none⟩ = some (.int k (l.getD i 0 : Nat)) := by
  simp [World.cell?, h.blk, h.at_ i hi]
theorem Win.frozen (h : Win k e w g o n cur l) (i : Nat) : w.frozen? ⟨g, i, none⟩ = false := by simp [World.frozen?, h.blk]
theorem Win.lt (h : Win k e w g o n cur l) : g < w.heap.size := (Array.getElem?_eq_some_iff.1 h.blk).1
theorem Win.onto (h : Win k e w g o n cur l) : Onto k e g o n w w cur l := ⟨rfl, rfl, rfl, rfl, fun _ _ => rfl, cur, h, rfl, fun _ _ => rfl⟩
theorem Win.rd (h : Win k e w g o n cur l) : Rd k w (some ⟨g, o, none⟩) l := .inr ⟨g, o, rfl, h.lt, fun i hi => h.cell (by rw [← h.len]; exact hi)⟩

theorem Onto.win (h : Onto k e g o n w w' cur l) : ∃ cur', Win k e w' g o n cur' l := ⟨h.row.choose, h.row.choose_spec.1⟩
theorem Onto.cell (h : Onto k e g o n w w' cur l) {i : Nat} (hi : i < n) : w'.cell? ⟨g, o + i, none⟩ = some (.int k (l.getD i 0 : Nat)) := by
  obtain ⟨c, hw, _⟩ := h.row; exact hw.cell hi
theorem Onto.frozen (h : Onto k e g o n w w' cur l) (i : Nat) : w'.frozen? ⟨g, i, none⟩ = false := by
  obtain ⟨c, hw, _⟩ := h.row; exact hw.frozen i
theorem Onto.len (h : Onto k e g o n w w' cur l) : l.length = n := by
  obtain ⟨c, hw, _⟩ := h.row; exact hw.len
theorem Onto.lt (h : Onto k e g o n w w' cur l) : g < w'.heap.size := by
  obtain ⟨c, hw, _⟩ := h.row; exact hw.lt
theorem Onto.drewN (h : Onto k e g o n w w' cur l) (q : Nat) : Onto k e g o n w (w'.drewN q) cur l := by
  obtain ⟨c, hw, h1, h2⟩ := h.row
  exact ⟨h.os, h.tape, h.output, h.size, h.block, c, ⟨hw.blk, hw.fits, hw.len, hw.at_⟩, h1, h2⟩
/-- A cell of another block. -/
theorem Onto.other (h : Onto k e g o n w w' cur l) {b i : Nat} (hb : b ≠ g) : w'.cell? ⟨b, i, none⟩ = w.cell? ⟨b, i, none⟩ := World.cell?_of_block (w := w) (h.block b hb)
theorem getD_set {l : List Nat} {i j x : Nat} (hi : i < l.length) : (l.set i x).getD j 0 = if j = i then x else l.getD j 0 := by
  rw [List.getD_eq_getElem?_getD, List.getElem?_set]
  by_cases h : i = j
  · subst h; simp [hi]
  · rw [if_neg h, if_neg (fun e => h e.symm), ← List.getD_eq_getElem?_getD]
theorem Onto.store (h : Onto k e g o n w w' cur l) {i : Nat} (hi : i < n) (x : Nat) : Onto k e g o n w (w'.setCell ⟨g, o + i, none⟩ (.int k x)) cur (l.set i x) := by
  obtain ⟨c, hw, h1, h2⟩ := h.row
  have hb : (w'.setCell ⟨g, o + i, none⟩ (.int k x)).heap[g]? = some (.cells (c.setIfInBounds (o + i) (.int k x)) e (0, 0)) := by
    simp [World.setCell, Array.getElem?_modify, hw.blk]
  refine ⟨h.os, h.tape, h.output, by rw [← h.size]; simp [World.setCell], fun j hj => ?_, c.setIfInBounds (o + i) (.int k x), ⟨hb, by simpa using hw.fits, by simpa using hw.len, fun j hj => ?_⟩, by simpa using h1, fun j hj => ?_⟩
  · rw [← h.block j hj]; exact Below.heap_setCell _ _ _ _ hj
  · have := hw.fits
    rw [Array.getElem?_setIfInBounds, getD_set (by rw [hw.len]; exact hi)]
    by_cases e1 : j = i
    · subst e1; simp; omega
    · rw [if_neg (by omega), if_neg e1]; exact hw.at_ j hj
  · rw [Array.getElem?_setIfInBounds, if_neg (by omega)]; exact h2 j hj
theorem Onto.below (h : Onto k e g o n w w' cur l) {B : Nat} (hB : B ≤ g) : Below B w w' := ⟨h.os, h.tape, h.output, Nat.le_of_eq h.size.symm, fun j hj => h.block j (by omega)⟩
theorem Onto.congr (h : Onto k e g o n w w' cur l) {l2 : List Nat} (e2 : l = l2) : Onto k e g o n w w' cur l2 := e2 ▸ h

/-- A slice of numbers that is the call's own: it may be written. -/
structure Own (k : IntKind) (e : TypeId) (B base : Nat) (w : World) (ao : Option Addr) (n cap : Nat) (l : List Nat) : Prop where
  row : Row k B w ao n cap l
  own : n = 0 ∨ ∃ g cur, ao = some ⟨g, 0, none⟩ ∧ base ≤ g ∧ Win k e w g 0 n cur l

end Go.Proofs.YtdekkieajffblaaGreat
