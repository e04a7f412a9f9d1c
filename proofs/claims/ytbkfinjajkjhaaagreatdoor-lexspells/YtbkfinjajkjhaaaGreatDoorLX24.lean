import Derived.Test.YtbkfinjajkjhaaaGreatDoorLV6
import Derived.Test.YtbkfinjajkjhaaaGreatDoorLV5
import Derived.Test.YtbkfinjajkjhaaaGreatDoorTK1
import Derived.Test.YtbkfinjajkjhaaaGreatDoorLM4
import Derived.Test.YtbkfinjajkjhaaaGreatDoorW5
import Derived.Test.YtbkfinjajkjhaaaGreatDoorLM1
import Derived.Test.YtbkfinjajkjhaaaGreatDoorOnto
import Derived.Laws.BitsAllLaws
import Derived.Laws.Bits64b
set_option linter.unusedVariables false
set_option linter.unusedSimpArgs false
set_option maxRecDepth 100000
namespace Go.Proofs.YtbkfinjajkjhaaaGreatDoor
def symB (l : List Nat) : Bool := decide ((chkM l).1 = 0) && (match stepM l 0 with
 | some x => decide (x.kind = 14) && decide (bs x.text = l)
 | none => false)
def symR (l : List Nat) : Bool := decide ((ansM l).2.1 = 0) && (decide ((ansM l).1.length = 2) && (decide (((ansM l).1.getD 0 default).kind = 14) && decide (bs ((ansM l).1.getD 0 default).text = l)))
theorem hash_kind {r : List Nat} {x : Tkn} (h : hashM r = some x) : x.1 ≠ 14 := by
 unfold hashM at h
 split at h
 ·cases h; decide
 ·split at h
  ·cases h; decide
  ·split at h
   ·cases h; decide
   ·split at h
    ·obtain ⟨y, _, rfl⟩ := Option.map_eq_some_iff.1 h
     show (12 : Int) ≠ 14; decide
    ·split at h
     ·rename_i y hy
      cases h
      have := (labM_end hy).2
      show ((y.1 : Nat) : Int) ≠ 14
      omega
     ·obtain ⟨y, _, rfl⟩ := Option.map_eq_some_iff.1 h
      show (10 : Int) ≠ 14; decide
theorem tk_sym {r : List Nat} {x : Tkn} (h : tkM r = some x) (hk : x.1 = 14) : x.2.2.1 = bstr (r.take (wordN r)) /\ x.2.2.2 = wordN r := by
 unfold tkM at h
 split at h
 ·cases h; exact absurd hk (by decide)
 ·split at h
  ·cases h; exact absurd hk (by decide)
  ·split at h
   ·split at h
    ·cases h; exact absurd hk (by show ¬ (5 : Int) = 14; decide)
    ·cases h; exact absurd hk (by show ¬ (5 : Int) = 14; decide)
   ·split at h
    ·obtain ⟨y, _, rfl⟩ := Option.map_eq_some_iff.1 h
     exact absurd hk (by show ¬ (13 : Int) = 14; decide)
    ·split at h
     ·exact absurd hk (hash_kind h)
     ·unfold otherM at h
      split at h
      ·cases h; exact absurd hk (by show ¬ (6 : Int) = 14; decide)
      ·split at h
       ·split at h
        ·cases h
        ·cases h; exact absurd hk (by show ¬ (11 : Int) = 14; decide)
       ·split at h
        ·cases h; exact ⟨rfl, rfl⟩
        ·cases h
theorem sym_eq {l : List Nat} (hd : Dg 256 l) (hn : l.length <= 65536) : symB l = symR l := by
 rw [Bool.eq_iff_iff]
 unfold symB symR
 simp only [Bool.and_eq_true, decide_eq_true_eq]
 constructor
 ·rintro ⟨h1, h2⟩
  obtain ⟨_, hb, ha⟩ := chk_ok h1
  cases hs : stepM l 0 with
  | none => rw [hs] at h2; cases h2
  | some x =>
   rw [hs] at h2
   simp only [Bool.and_eq_true, decide_eq_true_eq] at h2
   obtain ⟨h2, h3⟩ := h2
   have hr := step_right (Nat.zero_le _) hs
   unfold stepM at hs
   by_cases he : l.length <= (skL l 0).1
   ·rw [if_pos he] at hs; cases hs; exact absurd h2 (by show ¬ (0 : Int) = 14; decide)
   ·rw [if_neg he] at hs
    obtain ⟨y, hy, rfl⟩ := Option.map_eq_some_iff.1 hs
    simp only at h2 h3
    obtain ⟨e1, e2⟩ := tk_sym hy h2
    rw [e1, bs_bstr ((hd.drop _).take _)] at h3
    have hlen := congrArg List.length h3
    have hw := wordN_le (l.drop (skL l 0).1)
    rw [List.length_take, List.length_drop] at hlen
    rw [List.length_drop] at hw
    have hq : (skL l 0).1 = 0 := by omega
    have hz : y.2.2.2 = l.length := by rw [e2]; omega
    have hpos : 0 < l.length := by omega
    obtain ⟨m, hm⟩ : ∃ m, l.length = m + 1 := ⟨l.length - 1, by omega⟩
    have hsk : skL l l.length = (l.length, true) := skL_end (Nat.lt_irrefl _)
    have hend := toksA_end (f := m) (l := l) (k := l.length) (by rw [hsk]) (by rw [hsk]; exact Nat.le_refl _)
    rw [<- hm] at hend
    have htk := toksA_some (f := l.length) (l := l) (k := 0) (x := y) hr he hy
    rw [hq, hz, Nat.zero_add, hend] at htk
    have hA : ansM l = ([⟨y.1, y.2.1, y.2.2.1, 0, l.length⟩, ⟨0, 0, ⟨#[]⟩, l.length, l.length⟩], 0, 0) := by
     unfold ansM toksM
     rw [if_neg (by omega), hb]
     simp only
     rw [htk]
    rw [hA]
    refine ⟨rfl, rfl, h2, ?_⟩
    show bs y.2.2.1 = l
    rw [e1, bs_bstr ((hd.drop _).take _)]; exact h3
 ·rintro ⟨h1, h2, h3, h4⟩
  obtain ⟨T, e, p⟩ : ∃ T e, ∃ p : Int, ansM l = (T, e, p) := ⟨_, _, _, rfl⟩
  obtain ⟨e, p⟩ := p
  rw [p] at h1 h2 h3 h4
  simp only at h1 h2 h3 h4
  obtain rfl := h1
  obtain ⟨_, hv, _, ht, _⟩ := ans_sq hd p
  have hb := (badM_vd hd).2 hv
  refine ⟨by unfold chkM; rw [if_neg (by omega), hb], ?_⟩
  unfold toksA at ht
  by_cases c1 : (skL l 0).2 = false
  ·rw [if_pos c1] at ht; cases ht
  ·rw [if_neg c1] at ht
   unfold stepM
   by_cases c2 : l.length <= (skL l 0).1
   ·rw [if_pos c2] at ht; cases ht; simp at h2
   ·rw [if_neg c2] at ht ⊢
    cases hy : tkM (l.drop (skL l 0).1) with
    | none => rw [hy] at ht; cases ht
    | some y =>
     rw [hy] at ht
     simp only [Prod.mk.injEq] at ht
     obtain ⟨ht, _⟩ := ht
     rw [<- ht] at h3 h4
     simp only [Option.map_some, Bool.and_eq_true, decide_eq_true_eq]
     exact ⟨h3, h4⟩
end Go.Proofs.YtbkfinjajkjhaaaGreatDoor
namespace Go.Proofs.YtbkfinjajkjhaaaGreatDoor
open Go.RowKit
theorem eq_text (a b : ByteArray) : (a.toList == b.toList) = decide (bs a = bs b) := by
 have := test_str a b.toList
 rw [this]
 have e : b.toList.map UInt8.toNat = bs b := by rw [Lib.toList_data]; rfl
 rw [e]
set_option maxHeartbeats 4000000 in
theorem lexSymbol_any (s : ByteArray) (w : World) (hs : s.size <= 5000) (hT : LTabs w) : Calls Tryz.prog 15 #[.string s] w fun e w' => e = .returned (.bool (symB (bs s))) /\ Below w.heap.size w w' := by
 obtain ⟨c, W1, hcv, hrow, hbel⟩ := to_bytes w s (bs s) rfl (by omega)
 have CN : Hid (Calls Tryz.prog 33 #[.slice (some ⟨w.heap.size, 0, none⟩) s.size c, .int .i64 0] W1 (NxPost W1 (bs s) 0)) := next_any _ _ _ (bs s) 0 W1 hrow (hT.below hbel) (by omega) (Nat.zero_le _) (.inl rfl)
 have HB := hid hbel
 obtain ⟨B, hB⟩ : ∃ B, B = symB (bs s) := ⟨_, rfl⟩
 rw [<- hB]
 have HBB := hid hB
 clear hT hrow hbel hB
 go_enter Tryz.func15, Tryz.ntmps15
 go_wp2_with fail
 go_at_call 33
 with_reducible refine CN.out.mono ?_
 rintro e wa ⟨a, b, t, f, u, er, pl, rfl, h1, h2, h3, ba⟩
 have HBa := hid (fun o => Bt (Bt HB.out ba) (Ba wa o))
 clear ba CN hcv
 unfold tkV
 by_cases hc : (chkM (bs s)).1 = 0
 ·cases hst : stepM (bs s) 0 with
  | none =>
   obtain ⟨rfl, _⟩ := h2 hc hst
   have e1 : Hid (B = false) := by unfold Hid; rw [HBB.out]; unfold symB; rw [hst]; simp
   clear h1 h2 h3 hc hst
   go_wp2_with fail
   go_ret
   exact ⟨by rw [e1.out]; rfl, HBa.out _⟩
  | some x =>
   obtain ⟨rfl, rfl, rfl, rfl, rfl, rfl⟩ := h3 hc x hst
   have e0 : Hid (B = (decide (x.kind = 14) && decide (bs x.text = bs s))) := by unfold Hid; rw [HBB.out]; unfold symB; rw [hst, hc]; simp
   obtain ⟨x1, x2, x3, x4, x5⟩ := x
   have ht := eq_text x3 s
   by_cases k1 : x1 = 14
   ·have t1 : (x1 == 14) = true := by simp; exact k1
    by_cases k2 : bs x3 = bs s
    ·rw [decide_eq_true k2] at ht
     have e1 : Hid (B = true) := by unfold Hid; rw [e0.out]; simp only; rw [decide_eq_true k1, decide_eq_true k2]; rfl
     clear h1 h2 h3 hc hst k1 k2
     go_wp2_with fail
     go_ret
     exact ⟨by rw [e1.out]; rfl, HBa.out _⟩
    ·rw [decide_eq_false k2] at ht
     have e1 : Hid (B = false) := by unfold Hid; rw [e0.out]; simp only; rw [decide_eq_false k2, Bool.and_false]
     clear h1 h2 h3 hc hst k1 k2
     go_wp2_with fail
     go_ret
     exact ⟨by rw [e1.out]; rfl, HBa.out _⟩
   ·have t1 : (x1 == 14) = false := by simp; exact k1
    have e1 : Hid (B = false) := by unfold Hid; rw [e0.out]; simp only; rw [decide_eq_false k1, Bool.false_and]
    clear h1 h2 h3 hc hst k1 ht
    go_wp2_with fail
    go_ret
    exact ⟨by rw [e1.out]; rfl, HBa.out _⟩
 ·obtain ⟨h1, _⟩ := h1 hc
  have t1 : (er == 0) = false := by simp; rw [h1]; exact hc
  have e1 : Hid (B = false) := by unfold Hid; rw [HBB.out]; unfold symB; rw [decide_eq_false hc, Bool.false_and]
  clear h1 h2 h3 hc
  go_wp2_with fail
  go_ret
  exact ⟨by rw [e1.out]; rfl, HBa.out _⟩
set_option maxHeartbeats 4000000 in
theorem rSymbol_any (s : ByteArray) (w : World) (hs : s.size <= 5000) : Calls Tryz.prog 16 #[.string s] w fun e w' => e = .returned (.bool (symR (bs s))) /\ Below w.heap.size w w' := by
 obtain ⟨c, W1, hcv, hrow, hbel⟩ := to_bytes w s (bs s) rfl (by omega)
 have CN := hid (rtokens_any _ _ _ (bs s) W1 hrow (by omega))
 unfold ToksPost at CN
 have HB := hid hbel
 have HBB : Hid (symR (bs s) = (decide ((ansM (bs s)).2.1 = 0) && (decide ((ansM (bs s)).1.length = 2) && (decide (((ansM (bs s)).1.getD 0 default).kind = 14) && decide (bs ((ansM (bs s)).1.getD 0 default).text = bs s))))) := rfl
 obtain ⟨B, hB⟩ : ∃ B, B = symR (bs s) := ⟨_, rfl⟩
 rw [<- hB] at HBB ⊢
 obtain ⟨A, hA⟩ : ∃ A, A = ansM (bs s) := ⟨_, rfl⟩
 rw [<- hA] at HBB CN
 obtain ⟨T, ye, yn⟩ := A
 simp only at HBB CN
 clear hrow hbel hB hA
 go_enter Tryz.func16, Tryz.ntmps16
 go_wp2_with fail
 go_at_call 10
 with_reducible refine CN.out.mono ?_
 rintro e wa ⟨ao, n, cap, rfl, hT, ba⟩
 have HBa := hid (Bt HB.out ba)
 have hn := hT.len
 clear ba CN hcv
 by_cases h0 : ye = 0
 ·by_cases h2 : n = 2
  ·subst h0
   subst h2
   obtain ⟨b, o, rfl, _, hcl⟩ := hT.some (by omega)
   have c0 := hcl 0 (by omega) 0 (by omega)
   have c2 := hcl 0 (by omega) 2 (by omega)
   obtain ⟨x, hx⟩ : ∃ x, T.getD 0 default = x := ⟨_, rfl⟩
   rw [hx] at c0 c2 HBB
   obtain ⟨x1, x2, x3, x4, x5⟩ := x
   simp only [tc, List.getElem?_cons_zero, List.getElem?_cons_succ, Nat.add_zero, Nat.zero_mul] at c0 c2
   have ht := eq_text x3 s
   have e0 : Hid (B = (decide (x1 = 14) && decide (bs x3 = bs s))) := by unfold Hid; rw [HBB.out, hn]; simp
   by_cases k1 : x1 = 14
   ·have t1 : (x1 == 14) = true := by simp; exact k1
    by_cases k2 : bs x3 = bs s
    ·rw [decide_eq_true k2] at ht
     have e1 : Hid (B = true) := by unfold Hid; rw [e0.out]; rw [decide_eq_true k1, decide_eq_true k2]; rfl
     clear hT hcl hx hn k1 k2
     go_wp2_with fail
     go_ret
     exact ⟨by rw [e1.out]; rfl, HBa.out⟩
    ·rw [decide_eq_false k2] at ht
     have e1 : Hid (B = false) := by unfold Hid; rw [e0.out]; rw [decide_eq_false k2, Bool.and_false]
     clear hT hcl hx hn k1 k2
     go_wp2_with fail
     go_ret
     exact ⟨by rw [e1.out]; rfl, HBa.out⟩
   ·have t1 : (x1 == 14) = false := by simp; exact k1
    have e1 : Hid (B = false) := by unfold Hid; rw [e0.out]; rw [decide_eq_false k1, Bool.false_and]
    clear hT hcl hx hn k1 ht
    go_wp2_with fail
    go_ret
    exact ⟨by rw [e1.out]; rfl, HBa.out⟩
  ·have t0 : ((n : Int) == 2) = false := by simp; omega
   subst h0
   have e1 : Hid (B = false) := by unfold Hid; rw [HBB.out, hn, decide_eq_false h2]; simp
   clear hT hn h2
   go_wp2_with fail
   go_ret
   exact ⟨by rw [e1.out]; rfl, HBa.out⟩
 ·have t0 : (ye == 0) = false := by simp; exact h0
  have e1 : Hid (B = false) := by unfold Hid; rw [HBB.out, decide_eq_false h0, Bool.false_and]
  clear hT hn h0
  go_wp2_with fail
  go_ret
  exact ⟨by rw [e1.out]; rfl, HBa.out⟩
end Go.Proofs.YtbkfinjajkjhaaaGreatDoor
namespace Go.Proofs.YtbkfinjajkjhaaaGreatDoor
open Go.RowKit
def hx (n : Nat) : List Nat := radL 16 false n
theorem dgF_fuel : ∀ (f g v : Nat), v <= f -> v <= g -> dgF 16 f v = dgF 16 g v
 | 0, 0, v, _, _ => rfl
 | 0, g + 1, v, h, _ => by
  obtain rfl : v = 0 := by omega
  rfl
 | f + 1, 0, v, _, h => by
  obtain rfl : v = 0 := by omega
  rfl
 | f + 1, g + 1, v, h1, h2 => by
  unfold dgF
  by_cases h : v = 0
  ·rw [if_pos h, if_pos h]
  ·rw [if_neg h, if_neg h, dgF_fuel f g (v / 16) (by omega) (by omega)]
theorem hx_small {n : Nat} (h : n < 16) : hx n = [chr n] := by
 have : ∀ k : Fin 16, hx k.val = [chr k.val] := by decide
 exact this ⟨n, h⟩
theorem hx_step {n : Nat} (h : 16 <= n) : hx n = hx (n / 16) ++ [chr (n % 16)] := by
 have e : dgs 16 n = n % 16 :: dgs 16 (n / 16) := by
  unfold dgs
  obtain ⟨m, rfl⟩ : ∃ m, n = m + 1 := ⟨n - 1, by omega⟩
  conv => lhs; unfold dgF
  rw [if_neg (by omega), dgF_fuel m ((m + 1) / 16) ((m + 1) / 16) (by omega) (Nat.le_refl _)]
 unfold hx radL
 rw [if_neg (show ¬ n = 0 by omega), if_neg (show ¬ n / 16 = 0 by omega), e]
 simp
theorem hx_pos : ∀ n : Nat, 1 <= (hx n).length := fun n => by
 by_cases h : n < 16
 ·rw [hx_small h]; exact Nat.le_refl 1
 ·rw [hx_step (by omega), List.length_append]; exact Nat.le_add_left _ _
theorem hx_len : ∀ (k n : Nat), n < 16 ^ (k + 1) -> (hx n).length <= k + 1
 | 0, n, h => by rw [hx_small (by simpa using h)]; exact Nat.le_refl 1
 | k + 1, n, h => by
  by_cases hs : n < 16
  ·rw [hx_small hs]; simp
  ·rw [hx_step (by omega), List.length_append]
   have h2 : n / 16 < 16 ^ (k + 1) := by
    rw [Nat.div_lt_iff_lt_mul (by decide)]
    rw [Nat.pow_succ] at h
    exact h
   have := hx_len k (n / 16) h2
   simp; omega
theorem hx_low : ∀ (f n : Nat), n <= f -> ∀ c ∈ hx n, c < 128 /\ (48 <= c /\ c <= 57 \/ 97 <= c /\ c <= 102)
 | f, n, h => by
  intro c hc
  have key : ∀ d, d < 16 -> (chr d < 128 /\ (48 <= chr d /\ chr d <= 57 \/ 97 <= chr d /\ chr d <= 102)) := fun d hd => by unfold chr; split <;> omega
  by_cases hs : n < 16
  ·rw [hx_small hs] at hc
   rw [List.mem_singleton] at hc
   subst hc
   exact key n hs
  ·rw [hx_step (by omega), List.mem_append] at hc
   rcases hc with hc | hc
   ·obtain ⟨f, rfl⟩ : ∃ f', f = f' + 1 := ⟨f - 1, by omega⟩
    exact hx_low f (n / 16) (by omega) c hc
   ·rw [List.mem_singleton] at hc
    subst hc
    exact key _ (Nat.mod_lt _ (by decide))
def DbT (w : World) : Prop := w.cell? ⟨9, 15, none⟩ = some (.int .u8 4)
theorem DbT.below {w w' : World} (h : DbT w) (hb : Below w.heap.size w w') : DbT w' := (hb.cell (p := ⟨9, 15, none⟩) (cellIn h)).trans h
theorem tz64_any (x : Int) (w : World) (hx0 : (x == 0) = false) (key : IntKind.u64.wrap (bits BinOp.and IntKind.u64 x (IntKind.u64.wrap (-x)) * 285870213051353865) / 288230376151711744 = 15) (h : DbT w) :
  Calls Tryz.prog 154 #[.int .u64 x] w fun e w' => e = .returned (.int .i64 4) /\ w' = w := by
 unfold DbT at h
 go_enter Tryz.func154, Tryz.ntmps154
 go_wp2_with (simp only [key])
 go_ret
 exact ⟨rfl, rfl⟩
theorem tz_any (w : World) (h : DbT w) : Calls Tryz.prog 139 #[.int .u64 16] w fun e w' => e = .returned (.int .i64 4) /\ w' = w := by
 have C := hid (tz64_any 16 w (by decide) (by decide +kernel) h)
 clear h
 go_enter Tryz.func139, Tryz.ntmps139
 go_wp2_with (go_at_call 154; with_reducible refine C.out.mono ?_; rintro e wa ⟨rfl, rfl⟩)
 go_ret
 exact ⟨rfl, rfl⟩
theorem pow2_any (w : World) : Calls Tryz.prog 138 #[.int .i64 16] w fun e w' => e = .returned (.bool true) /\ w' = w := by
 have key : bits BinOp.and IntKind.i64 16 15 = 0 := by decide +kernel
 go_enter Tryz.func138, Tryz.ntmps138
 go_wp2_with (simp only [key])
 go_ret
 first
  | exact ⟨rfl, rfl⟩
  | exact ⟨by rw [key]; rfl, rfl⟩
theorem zero65 : Tryz.zeroCells143 = (List.replicate 65 (Value.int .u8 0)).toArray := by kernel_rfl
theorem zero65_win (w : World) : Win .u8 143 (w.alloc (.cells Tryz.zeroCells143 143)) w.heap.size 0 65 Tryz.zeroCells143 (List.replicate 65 0) := by
 refine ⟨blk_new _ _ _, by rw [zero65]; simp, by simp, fun i hi => ?_⟩
 rw [Nat.zero_add, zero65, List.getElem?_toArray, List.getElem?_replicate, if_pos hi, List.getD_eq_getElem?_getD, List.getElem?_replicate, if_pos hi]
 rfl
theorem and15h (n : Nat) (h : n < 18446744073709551616) : bits BinOp.and IntKind.u64 (n : Int) 15 = ((n % 16 : Nat) : Int) := by
 have := bits_and_u64_nat n 15 h (by decide)
 rw [show ((15 : Nat) : Int) = 15 from rfl] at this
 rw [this, show (15 : Nat) = 2 ^ 4 - 1 from rfl, Nat.and_two_pow_sub_one_eq_mod]
set_option maxHeartbeats 8000000 in
theorem formatBits_any (n : Nat) (w : World) (hn : n < 16777216) (h : DbT w) : Calls Tryz.prog 118 #[.slice none 0 0, .int .u64 (n : Int), .int .i64 16, .bool false, .bool false] w fun e w' => ∃ v, e = .returned (.tuple #[v, .string (bstr (hx n))]) /\ Below w.heap.size w w' := by
 have H := hid h
 have CP := hid (fun W => pow2_any W)
 have CZ := hid (fun W (h : Below w.heap.size w W) => tz_any W (H.out.below h))
 have hW0 := zero65_win w
 have hb0 := Ba w (.cells Tryz.zeroCells143 143)
 have HL6 := hid (hx_len 5 n (by omega))
 obtain ⟨g, hg⟩ : ∃ g, g = w.heap.size := ⟨_, rfl⟩
 clear h
 go_enter Tryz.func118, Tryz.ntmps118
 go_wp2_with (go_at_call 138; with_reducible refine (CP.out _).mono ?_; rintro e wa ⟨rfl, rfl⟩)
 rw [<- hg] at hW0 ⊢
 have HG := hid hg
 generalize hWW : w.alloc (.cells Tryz.zeroCells143 143) = W0 at *
 generalize Tryz.zeroCells143 = cur at *
 have HB0 := hid hb0
 have HO : Hid (Onto .u8 143 g 0 65 W0 W0 cur (List.replicate 65 0)) := hW0.onto
 clear hWW hW0 hb0 hg
 with_reducible refine (CZ.out _ HB0.out).mono ?_
 rintro e wa ⟨rfl, rfl⟩
 clear CZ CP
 go_wp2_with fail
 go_loopg [1, 13] (n + 1) (fun m u i wx => ∃ (un k : Nat) (L : List Nat), u = .int .u64 un /\ i = .int .i64 k /\ m = un + 1 /\ un < 16777216 /\ k <= 65 /\ L.length = 65 /\ Hid (Onto .u8 143 g 0 65 wa wx cur L) /\ Hid (hx n = hx un ++ L.drop k))
 case atStart => exact ⟨n, 65, List.replicate 65 0, rfl, rfl, rfl, hn, Nat.le_refl _, by simp, HO.out, by rw [List.drop_eq_nil_of_le (by simp), List.append_nil]; rfl⟩
 case round =>
  obtain ⟨un, k, L, rfl, rfl, rfl, hun, hk, hL, hO, hI⟩ := hrel
  clear HO
  have hk6 : 60 <= k := by
   have h1 := HL6.out
   rw [hI.out, List.length_append, List.length_drop, hL] at h1
   have := hx_pos un
   omega
  have hk0 : 60 <= (k : Int) := by omega
  have hk1 : (k : Int) <= 65 := by omega
  have hk2 : ((k : Int) - 1) = ((k - 1 : Nat) : Int) := by omega
  have hf : wr.frozen? ⟨g, k - 1, none⟩ = false := hO.out.frozen _
  have hcl : wr.cell? ⟨g, k - 1, none⟩ = some (.int .u8 (L.getD (k - 1) 0 : Nat)) := by
   have := hO.out.cell (i := k - 1) (by omega)
   rw [Nat.zero_add] at this; exact this
  by_cases h16 : 16 <= un
  ·have u0 : (16 : Int) <= (un : Int) := by omega
   have ha := and15h un (by omega)
   have HN : Hid (Onto .u8 143 g 0 65 wa (wr.setCell ⟨g, k - 1, none⟩ (.int .u8 (chr (un % 16) : Nat))) cur (L.set (k - 1) (chr (un % 16)))) := by
    have := hO.out.store (i := k - 1) (by omega) (chr (un % 16))
    rw [Nat.zero_add] at this; exact this
   have HI2 : Hid (hx n = hx (un / 16) ++ (L.set (k - 1) (chr (un % 16))).drop (k - 1)) := by
    have e1 : (L.set (k - 1) (chr (un % 16))).drop (k - 1) = chr (un % 16) :: L.drop k := by
     rw [dropN_cons (by rw [List.length_set]; omega), List.drop_set_of_lt (by omega), List.getD_eq_getElem?_getD, List.getElem?_set, if_pos rfl, if_pos (by omega), show k - 1 + 1 = k by omega]
     rfl
    unfold Hid
    rw [hI.out, hx_step h16, e1, List.append_assoc]; rfl
   have hdt := fun h => dt_get (un % 16) h
   unfold digitText at hdt
   have HLS : Hid ((L.set (k - 1) (chr (un % 16))).length = 65) := (List.length_set ..).trans hL
   clear hO hI
   go_wp2_with fail
   go_roundg (un / 16 + 1)
   case measure => omega
   case rel => exact ⟨un / 16, k - 1, L.set (k - 1) (chr (un % 16)), by simp, rfl, rfl, by omega, by omega, HLS.out, HN.out, HI2.out⟩
  ·have u0 : ¬ (16 : Int) <= (un : Int) := by omega
   have u1 : (un : Int) < 36 := by omega
   have HN : Hid (Onto .u8 143 g 0 65 wa (wr.setCell ⟨g, k - 1, none⟩ (.int .u8 (chr un : Nat))) cur (L.set (k - 1) (chr un))) := by
    have := hO.out.store (i := k - 1) (by omega) (chr un)
    rw [Nat.zero_add] at this; exact this
   have HI2 : Hid (hx n = (L.set (k - 1) (chr un)).drop (k - 1)) := by
    have e1 : (L.set (k - 1) (chr un)).drop (k - 1) = chr un :: L.drop k := by
     rw [dropN_cons (by rw [List.length_set]; omega), List.drop_set_of_lt (by omega), List.getD_eq_getElem?_getD, List.getElem?_set, if_pos rfl, if_pos (by omega), show k - 1 + 1 = k by omega]
     rfl
    unfold Hid
    rw [hI.out, hx_small (by omega), e1]; rfl
   have hdt := fun h => dt_get un h
   unfold digitText at hdt
   have HLS : Hid ((L.set (k - 1) (chr un)).length = 65) := (List.length_set ..).trans hL
   have hal : Tryz.prog.arrayLen 143 = 65 := by simp [Program.arrayLen, Tryz.underlying143]
   have hsl : ∀ W, (Instr.sliceAt 143 (.pointer (some ⟨g, 0, none⟩)) (some (.int .i64 ((k - 1 : Nat) : Int))) none none).run Tryz.prog W = .ok (.slice (some ⟨g, k - 1, none⟩) (66 - k) (66 - k)) W := fun W => by
    rw [run_sliceAt_array_l W 143 ⟨g, 0, none⟩ (by simp [Program.arrayLen, Program.elem, Tryz.underlying143]) .i64 ((k - 1 : Nat) : Int) (by omega) (by rw [hal]; omega), show Tryz.prog.elem 143 = 5 by simp [Program.elem, Tryz.underlying143], Tryz.sizeOf5, hal]
    simp only [Result.andThen, slicedAt, Int.toNat_natCast]
    rw [if_neg (by omega)]
    have e1 : (65 : Int).toNat - (k - 1) = 66 - k := by show 65 - (k - 1) = 66 - k; omega
    have e2 : Addr.add ⟨g, 0, none⟩ ((k - 1) * 1) = ⟨g, k - 1, none⟩ := by unfold Addr.add; rw [if_neg (by omega)]; simp
    first
     | rw [e1, e2]
     | (rw [show 65 - (k - 1) = 66 - k by omega, e2])
   have hrow : BRow (wr.setCell ⟨g, k - 1, none⟩ (.int .u8 (chr un : Nat))) (some ⟨g, k - 1, none⟩) (66 - k) (66 - k) ((L.set (k - 1) (chr un)).drop (k - 1)) := by
    refine ⟨by rw [List.length_drop, List.length_set]; omega, Nat.le_refl _, by unfold maxLen; omega, fun e => (by cases e), ?_, .inr ⟨g, k - 1, rfl, HN.out.lt, fun i hi => ?_⟩⟩
    ·rw [<- HI2.out]; exact fun c hc => Nat.lt_trans (hx_low n n (Nat.le_refl _) c hc).1 (by decide)
    ·rw [List.length_drop, List.length_set] at hi
     have := HN.out.cell (i := k - 1 + i) (by omega)
     rw [Nat.zero_add] at this
     rw [this, List.getD_eq_getElem?_getD, List.getD_eq_getElem?_getD, List.getElem?_drop]
   have hcv := conv_any hrow
   rw [<- HI2.out] at hcv
   have HBel : Hid (Below w.heap.size w (wr.setCell ⟨g, k - 1, none⟩ (.int .u8 (chr un : Nat)))) := HB0.out.trans (HN.out.below (by rw [HG.out]; exact Nat.le_refl _))
   clear hO hI hrow
   go_wp2_with fail
   go_ret2
   exact ⟨⟨_, rfl⟩, HBel.out⟩
theorem intFormat_any (n : Nat) (w : World) (hn : n < 16777216) (h : DbT w) : Calls Tryz.prog 94 #[.int .i64 (n : Int), .int .i64 16] w fun e w' => e = .returned (.string (bstr (hx n))) /\ Below w.heap.size w w' := by
 have C := hid (formatBits_any n w hn h)
 have h0 : ¬ (n : Int) < 0 := by omega
 have h1 : (n : Int) < 16777216 := by omega
 clear h hn
 go_enter Tryz.func94, Tryz.ntmps94
 go_wp2_with fail
 go_at_call 118
 with_reducible refine C.out.mono ?_
 rintro e wa ⟨v, rfl, ba⟩
 have HB := hid ba
 clear ba
 go_wp2_with fail
 go_ret
 exact ⟨rfl, HB.out⟩
theorem formatInt16_any (n : Nat) (w : World) (hn : n < 16777216) (h : DbT w) : Calls Tryz.prog 73 #[.int .i64 (n : Int), .int .i64 16] w fun e w' => e = .returned (.string (bstr (hx n))) /\ Below w.heap.size w w' := by
 have C := hid (intFormat_any n w hn h)
 clear h hn
 go_enter Tryz.func73, Tryz.ntmps73
 go_wp2_with (go_at_call 94; with_reducible refine C.out.mono ?_; rintro e wa ⟨rfl, ba⟩; have HB := hid ba; clear ba)
 go_ret
 exact ⟨rfl, HB.out⟩
theorem hexOf_any (n : Nat) (w : World) (hn : n < 16777216) (h : DbT w) : Calls Tryz.prog 47 #[.int .i32 (n : Int)] w fun e w' => e = .returned (.string (bstr (hx n))) /\ Below w.heap.size w w' := by
 have C := hid (formatInt16_any n w hn h)
 have h1 : (n : Int) < 16777216 := by omega
 clear h hn
 go_enter Tryz.func47, Tryz.ntmps47
 go_wp2_with (go_at_call 73; with_reducible refine C.out.mono ?_; rintro e wa ⟨rfl, ba⟩; have HB := hid ba; clear ba)
 go_ret
 exact ⟨rfl, HB.out⟩
end Go.Proofs.YtbkfinjajkjhaaaGreatDoor
