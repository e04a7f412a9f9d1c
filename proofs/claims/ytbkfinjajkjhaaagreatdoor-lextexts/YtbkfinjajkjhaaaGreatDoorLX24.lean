import Derived.Test.YtbkfinjajkjhaaaGreatDoorLM13
import Derived.Test.YtbkfinjajkjhaaaGreatDoorRL15
import Derived.Test.YtbkfinjajkjhaaaGreatDoorLL2
import Derived.Test.YtbkfinjajkjhaaaGreatDoorW3
import Derived.Test.YtbkfinjajkjhaaaGreatDoorW42
import Derived.Laws.IdiomStrings
import Derived.Deep.RegionHeld3
import Derived.Test.YtbkfinjajkjhaaaGreatDoorLM2
import Derived.Test.YtbkfinjajkjhaaaGreatDoorLX4
import Derived.Test.YtbkfinjajkjhaaaGreatDoorW14
import Derived.Test.YtbkfinjajkjhaaaGreatDoorApp
import Derived.Laws.BitsAllLaws
import Derived.Laws.Bits64b
set_option linter.unusedVariables false
set_option linter.unusedSimpArgs false
set_option maxRecDepth 100000
namespace Go.Proofs.YtbkfinjajkjhaaaGreatDoor
inductive Gq : List Nat -> Nat -> Prop
 | nil (r : List Nat) : Gq r 0
 | step {r : List Nat} {m : Nat} (h0 : gapN r ≠ 0) (ht : Gq (r.drop (gapN r)) m) : Gq r (gapN r + m)
def Ng (r : List Nat) : Prop := gapN r = 0 /\ hasB r [35, 124] = false
theorem tk_ng {r : List Nat} {x : Tkn} (hr : r ≠ []) (h : tkM r = some x) : Ng r := by
 have h3 : hasB r [35, 124] = false := by
  cases hb : hasB r [35, 124] with
  | false => rfl
  | true => rw [tkM_remark hb] at h; cases h
 refine ⟨?_, h3⟩
 unfold gapN
 rw [if_neg hr]
 have key : dlmB (r.getD 0 0) = true -> r.getD 0 0 ≠ 40 -> r.getD 0 0 ≠ 41 -> r.getD 0 0 ≠ 34 -> False := fun hd n1 n2 n3 => by
  have hw : wordN r = 0 := by
   have := wordN_stop (l := r) (k := 0) (List.length_pos_iff.2 hr) hd
   rwa [List.drop_zero] at this
  have n4 : r.getD 0 0 ≠ 35 := fun e => by rw [e] at hd; exact absurd hd (by decide)
  have n5 : ¬ (r.getD 0 0 = 39 \/ r.getD 0 0 = 96 \/ r.getD 0 0 = 44) := fun e => by
   rcases e with e | e | e <;>(rw [e] at hd; exact absurd hd (by decide))
  unfold tkM at h
  rw [if_neg n1, if_neg n2, if_neg n5, if_neg n3, if_neg n4] at h
  have := otherM_le h
  have hx : x.2.2.2 = wordN r := by
   unfold otherM at h
   repeat' split at h
   all_goals first | (cases h; rfl) | (cases h)
  omega
 by_cases h1 : blkB (r.getD 0 0) = true
 ·exfalso
  have h1' := h1
  unfold blkB at h1'
  simp only [Bool.or_eq_true, beq_iff_eq] at h1'
  exact key (by unfold dlmB; rw [h1]; rfl) (by omega) (by omega) (by omega)
 ·rw [if_neg h1]
  by_cases h2 : r.getD 0 0 = 59
  ·exfalso
   exact key (by rw [h2]; decide) (by omega) (by omega) (by omega)
  ·rw [if_neg h2, h3]; rfl
theorem gq_skL {r : List Nat} {m : Nat} (h : Gq r m) : ∀ (l : List Nat) (k : Nat), r = l.drop k -> k <= l.length -> Ng (l.drop (k + m)) -> skL l k = (k + m, true) := by
 induction h with
 | nil r =>
  intro l k e hk hn
  obtain ⟨g1, _, _⟩ := skL_gap (l := l) hk
  obtain ⟨a1, a2⟩ := g1 hn.1
  rw [Nat.add_zero] at hn ⊢
  apply Prod.ext
  ·exact a1
  ·cases h2 : (skL l k).2 with
   | true => rfl
   | false => rw [hn.2] at a2; exact absurd (a2 h2) (by decide)
 | @step r m h0 ht ih =>
  intro l k e hk hn
  subst e
  obtain ⟨_, g2, g3⟩ := skL_gap (l := l) hk
  rw [g2 h0, ih l (k + gapN (l.drop k)) (by rw [List.drop_drop]) g3 (by rw [Nat.add_assoc]; exact hn), Nat.add_assoc]
abbrev Ky := Int × Int × ByteArray
def kyT (x : Tkn) : Ky := (x.1, x.2.1, x.2.2.1)
def ky (x : Tok) : Ky := (x.kind, x.num, x.text)
def kyE : Ky := (0, 0, ⟨#[]⟩)
inductive Sq : List Nat -> List Ky -> Prop
 | nil {r : List Nat} (h : Gq r r.length) : Sq r []
 | cons {r : List Nat} {q : Nat} {x : Tkn} {L : List Ky} (hg : Gq r q) (hq : q < r.length) (hx : tkM (r.drop q) = some x) (ht : Sq (r.drop (q + x.2.2.2)) L) : Sq r (kyT x :: L)
theorem sq_toks {r : List Nat} {L : List Ky} (h : Sq r L) : ∀ (f : Nat) (l : List Nat) (k : Nat), r = l.drop k -> k <= l.length -> l.length < k + f -> ∃ T, toksA f l k = (T, none) /\ T.map ky = L ++ [kyE] := by
 induction h with
 | @nil r hg =>
  intro f l k e hk hf
  subst e
  obtain ⟨f, rfl⟩ : ∃ f', f = f' + 1 := ⟨f - 1, by omega⟩
  rw [List.length_drop] at hg
  have hs := gq_skL hg l k rfl hk (by rw [show k + (l.length - k) = l.length by omega, List.drop_length]; exact ⟨rfl, rfl⟩)
  exact ⟨_, toksA_end (by rw [hs]) (by rw [hs]; show l.length <= k + (l.length - k); omega), rfl⟩
 | @cons r q x L hg hq hx ht ih =>
  intro f l k e hk hf
  subst e
  obtain ⟨f, rfl⟩ : ∃ f', f = f' + 1 := ⟨f - 1, by omega⟩
  rw [List.length_drop] at hq
  rw [List.drop_drop] at hx
  have hne : l.drop (k + q) ≠ [] := by intro e; have := congrArg List.length e; rw [List.length_drop, List.length_nil] at this; omega
  have hs := gq_skL hg l k rfl hk (tk_ng hne hx)
  have hle := tkM_le hne hx
  rw [List.length_drop] at hle
  obtain ⟨T, t1, t2⟩ := ih f l (k + q + x.2.2.2) (by rw [List.drop_drop, Nat.add_assoc]) (by omega) (by omega)
  refine ⟨⟨x.1, x.2.1, x.2.2.1, k + q, k + q + x.2.2.2⟩ :: T, ?_, by rw [List.map_cons, t2]; rfl⟩
  have := toksA_some (f := f) (l := l) (k := k) (x := x) (by rw [hs]) (by rw [hs]; show ¬ l.length <= k + q; omega) (by rw [hs]; exact hx)
  rw [this, hs]
  simp only
  rw [t1]
theorem sq_ans {l : List Nat} {L : List Ky} (hn : l.length <= 65536) (hd : Dg 256 l) (hv : Vd l) (h : Sq l L) : ∃ T, ansM l = (T, 0, 0) /\ T.map ky = L ++ [kyE] := by
 obtain ⟨T, t1, t2⟩ := sq_toks h (l.length + 1) l 0 (by rw [List.drop_zero]) (Nat.zero_le _) (by omega)
 refine ⟨T, ?_, t2⟩
 unfold ansM toksM
 rw [if_neg (by omega), (badM_vd hd).2 hv, t1]
end Go.Proofs.YtbkfinjajkjhaaaGreatDoor
namespace Go.Proofs.YtbkfinjajkjhaaaGreatDoor
theorem getD_app_left {r s : List Nat} {j : Nat} (h : j < r.length) : (r ++ s).getD j 0 = r.getD j 0 := by
 rw [List.getD_eq_getElem?_getD, List.getElem?_append_left h, <- List.getD_eq_getElem?_getD]
theorem fst_app {r s : List Nat} {m : Nat} (h : m <= r.length) : Fst r (r ++ s) m := ⟨h, by rw [List.length_append]; omega, fun j hj => getD_app_left (by omega)⟩
theorem drop_app {r s : List Nat} {q : Nat} (h : q <= r.length) : (r ++ s).drop q = r.drop q ++ s := List.drop_append_of_le_length h
theorem vd_cons {c : Nat} {r : List Nat} (hc : c < 128) : Vd (c :: r) ↔ Vd r := by
 have e : decN (c :: r) = (c, 1) := decN_low hc
 constructor
 ·intro h
  have := h.tail (List.cons_ne_nil _ _)
  rw [e] at this; exact this
 ·intro h
  exact .step (List.cons_ne_nil _ _) (by rw [e]; intro h; have := congrArg Prod.fst h; simp at this; omega) (by rw [e]; exact h)
theorem vd_pre : ∀ {P r : List Nat}, (∀ j, j < P.length -> P.getD j 0 < 128) -> (Vd (P ++ r) ↔ Vd r)
 | [], r, _ => Iff.rfl
 | c :: P, r, h => by
  have h0 : c < 128 := h 0 (by simp)
  rw [List.cons_append, vd_cons h0]
  exact vd_pre (fun j hj => by have := h (j + 1) (by simpa using hj); simpa using this)
theorem vd_app : ∀ {r s : List Nat}, Vd r -> Vd s -> Vd (r ++ s) := by
 intro r s h
 induction h with
 | nil => exact id
 | @step r hr hd ht ih =>
  intro hs
  have hl := decN_le hr
  have e := decN_fst (fst_app (s := s) hl.2.2) hr hd (Nat.le_refl _)
  refine .step (by simp [hr]) (by rw [e]; exact hd) ?_
  rw [e, drop_app hl.2.2]
  exact ih hs
end Go.Proofs.YtbkfinjajkjhaaaGreatDoor
namespace Go.Proofs.YtbkfinjajkjhaaaGreatDoor
open Go.RowKit
theorem to_bytes (W : World) (X : ByteArray) (l : List Nat) (hX : bs X = l) (hs : X.size <= 1000000) :
  ∃ c W1, (convert 9 22 (.string X)).run Tryz.prog W = .ok (.slice (some ⟨W.heap.size, 0, none⟩) X.size c) W1 /\ BRow W1 (some ⟨W.heap.size, 0, none⟩) X.size c l /\ Below W.heap.size W W1 := by
 have h := run_bytes_of_string (P := Tryz.prog) W 9 22 5 X Tryz.underlying9 Tryz.underlying22 Tryz.underlying5
 refine ⟨_, _, h, ?_, ?_⟩
 ·subst hX
  have hcap := grownCap_ge W X.size 0 5
  have hmost := grownCap_le_maxLen W X.size 0 5 (by unfold maxLen; omega)
  refine ⟨bs_length X, hcap, hmost, fun e => (by cases e), bs_lt X, .inr ⟨W.heap.size, 0, rfl, by rw [size_alloc]; exact Nat.lt_succ_self _, fun i hi => ?_⟩⟩
  rw [bs_length] at hi
  have hb := bytesRow_at X (grownCap W X.size 0 5) i hi
  rw [Nat.zero_add, bs_get X i hi]
  have hcell := Go.Joins.cell_alloc_mark_at W.drew (bytesRow X (grownCap W X.size 0 5)) 5 ((bytesRow X (grownCap W X.size 0 5)).size, (bytesRow X (grownCap W X.size 0 5)).size + 1) W.heap.size i rfl
  rw [hcell]; exact hb
 ·exact Bt (Bd W 1) (Ba _ _)
end Go.Proofs.YtbkfinjajkjhaaaGreatDoor
namespace Go.Proofs.YtbkfinjajkjhaaaGreatDoor
open Go.RowKit
theorem eq_text (a b : ByteArray) : (a.toList == b.toList) = decide (bs a = bs b) := by
 have := test_str a b.toList
 rw [this]
 have e : b.toList.map UInt8.toNat = bs b := by rw [Lib.toList_data]; rfl
 rw [e]
end Go.Proofs.YtbkfinjajkjhaaaGreatDoor
namespace Go.Proofs.YtbkfinjajkjhaaaGreatDoor
open Go.RowKit
def hx (n : Nat) : List Nat := radL 16 false n
theorem dgF_fuel : ∀ (f g v : Nat), v <= f -> v <= g -> dgF 16 f v = dgF 16 g v
 | 0, 0, v, _, _ => rfl
 | 0, g + 1, v, h, _ => by
  obtain rfl : v = 0 := by omega
  rfl
 | f + 1, 0, v, _, h => by
  obtain rfl : v = 0 := by omega
  rfl
 | f + 1, g + 1, v, h1, h2 => by
  unfold dgF
  by_cases h : v = 0
  ·rw [if_pos h, if_pos h]
  ·rw [if_neg h, if_neg h, dgF_fuel f g (v / 16) (by omega) (by omega)]
theorem hx_small {n : Nat} (h : n < 16) : hx n = [chr n] := by
 have : ∀ k : Fin 16, hx k.val = [chr k.val] := by decide
 exact this ⟨n, h⟩
theorem hx_step {n : Nat} (h : 16 <= n) : hx n = hx (n / 16) ++ [chr (n % 16)] := by
 have e : dgs 16 n = n % 16 :: dgs 16 (n / 16) := by
  unfold dgs
  obtain ⟨m, rfl⟩ : ∃ m, n = m + 1 := ⟨n - 1, by omega⟩
  conv => lhs; unfold dgF
  rw [if_neg (by omega), dgF_fuel m ((m + 1) / 16) ((m + 1) / 16) (by omega) (Nat.le_refl _)]
 unfold hx radL
 rw [if_neg (show ¬ n = 0 by omega), if_neg (show ¬ n / 16 = 0 by omega), e]
 simp
theorem hx_pos : ∀ n : Nat, 1 <= (hx n).length := fun n => by
 by_cases h : n < 16
 ·rw [hx_small h]; exact Nat.le_refl 1
 ·rw [hx_step (by omega), List.length_append]; exact Nat.le_add_left _ _
theorem hx_len : ∀ (k n : Nat), n < 16 ^ (k + 1) -> (hx n).length <= k + 1
 | 0, n, h => by rw [hx_small (by simpa using h)]; exact Nat.le_refl 1
 | k + 1, n, h => by
  by_cases hs : n < 16
  ·rw [hx_small hs]; simp
  ·rw [hx_step (by omega), List.length_append]
   have h2 : n / 16 < 16 ^ (k + 1) := by
    rw [Nat.div_lt_iff_lt_mul (by decide)]
    rw [Nat.pow_succ] at h
    exact h
   have := hx_len k (n / 16) h2
   simp; omega
theorem hx_low : ∀ (f n : Nat), n <= f -> ∀ c ∈ hx n, c < 128 /\ (48 <= c /\ c <= 57 \/ 97 <= c /\ c <= 102)
 | f, n, h => by
  intro c hc
  have key : ∀ d, d < 16 -> (chr d < 128 /\ (48 <= chr d /\ chr d <= 57 \/ 97 <= chr d /\ chr d <= 102)) := fun d hd => by unfold chr; split <;> omega
  by_cases hs : n < 16
  ·rw [hx_small hs] at hc
   rw [List.mem_singleton] at hc
   subst hc
   exact key n hs
  ·rw [hx_step (by omega), List.mem_append] at hc
   rcases hc with hc | hc
   ·obtain ⟨f, rfl⟩ : ∃ f', f = f' + 1 := ⟨f - 1, by omega⟩
    exact hx_low f (n / 16) (by omega) c hc
   ·rw [List.mem_singleton] at hc
    subst hc
    exact key _ (Nat.mod_lt _ (by decide))
def DbT (w : World) : Prop := w.cell? ⟨9, 15, none⟩ = some (.int .u8 4)
theorem DbT.below {w w' : World} (h : DbT w) (hb : Below w.heap.size w w') : DbT w' := (hb.cell (p := ⟨9, 15, none⟩) (cellIn h)).trans h
theorem tz64_any (x : Int) (w : World) (hx0 : (x == 0) = false) (key : IntKind.u64.wrap (bits BinOp.and IntKind.u64 x (IntKind.u64.wrap (-x)) * 285870213051353865) / 288230376151711744 = 15) (h : DbT w) :
  Calls Tryz.prog 154 #[.int .u64 x] w fun e w' => e = .returned (.int .i64 4) /\ w' = w := by
 unfold DbT at h
 go_enter Tryz.func154, Tryz.ntmps154
 go_wp2_with (simp only [key])
 go_ret
 exact ⟨rfl, rfl⟩
theorem tz_any (w : World) (h : DbT w) : Calls Tryz.prog 139 #[.int .u64 16] w fun e w' => e = .returned (.int .i64 4) /\ w' = w := by
 have C := hid (tz64_any 16 w (by decide) (by decide +kernel) h)
 clear h
 go_enter Tryz.func139, Tryz.ntmps139
 go_wp2_with (go_at_call 154; with_reducible refine C.out.mono ?_; rintro e wa ⟨rfl, rfl⟩)
 go_ret
 exact ⟨rfl, rfl⟩
theorem pow2_any (w : World) : Calls Tryz.prog 138 #[.int .i64 16] w fun e w' => e = .returned (.bool true) /\ w' = w := by
 have key : bits BinOp.and IntKind.i64 16 15 = 0 := by decide +kernel
 go_enter Tryz.func138, Tryz.ntmps138
 go_wp2_with (simp only [key])
 go_ret
 first
  | exact ⟨rfl, rfl⟩
  | exact ⟨by rw [key]; rfl, rfl⟩
theorem zero65 : Tryz.zeroCells143 = (List.replicate 65 (Value.int .u8 0)).toArray := by kernel_rfl
theorem zero65_win (w : World) : Win .u8 143 (w.alloc (.cells Tryz.zeroCells143 143)) w.heap.size 0 65 Tryz.zeroCells143 (List.replicate 65 0) := by
 refine ⟨blk_new _ _ _, by rw [zero65]; simp, by simp, fun i hi => ?_⟩
 rw [Nat.zero_add, zero65, List.getElem?_toArray, List.getElem?_replicate, if_pos hi, List.getD_eq_getElem?_getD, List.getElem?_replicate, if_pos hi]
 rfl
theorem and15h (n : Nat) (h : n < 18446744073709551616) : bits BinOp.and IntKind.u64 (n : Int) 15 = ((n % 16 : Nat) : Int) := by
 have := bits_and_u64_nat n 15 h (by decide)
 rw [show ((15 : Nat) : Int) = 15 from rfl] at this
 rw [this, show (15 : Nat) = 2 ^ 4 - 1 from rfl, Nat.and_two_pow_sub_one_eq_mod]
set_option maxHeartbeats 8000000 in
theorem formatBits_any (n : Nat) (w : World) (hn : n < 16777216) (h : DbT w) : Calls Tryz.prog 118 #[.slice none 0 0, .int .u64 (n : Int), .int .i64 16, .bool false, .bool false] w fun e w' => ∃ v, e = .returned (.tuple #[v, .string (bstr (hx n))]) /\ Below w.heap.size w w' := by
 have H := hid h
 have CP := hid (fun W => pow2_any W)
 have CZ := hid (fun W (h : Below w.heap.size w W) => tz_any W (H.out.below h))
 have hW0 := zero65_win w
 have hb0 := Ba w (.cells Tryz.zeroCells143 143)
 have HL6 := hid (hx_len 5 n (by omega))
 obtain ⟨g, hg⟩ : ∃ g, g = w.heap.size := ⟨_, rfl⟩
 clear h
 go_enter Tryz.func118, Tryz.ntmps118
 go_wp2_with (go_at_call 138; with_reducible refine (CP.out _).mono ?_; rintro e wa ⟨rfl, rfl⟩)
 rw [<- hg] at hW0 ⊢
 have HG := hid hg
 generalize hWW : w.alloc (.cells Tryz.zeroCells143 143) = W0 at *
 generalize Tryz.zeroCells143 = cur at *
 have HB0 := hid hb0
 have HO : Hid (Onto .u8 143 g 0 65 W0 W0 cur (List.replicate 65 0)) := hW0.onto
 clear hWW hW0 hb0 hg
 with_reducible refine (CZ.out _ HB0.out).mono ?_
 rintro e wa ⟨rfl, rfl⟩
 clear CZ CP
 go_wp2_with fail
 go_loopg [1, 13] (n + 1) (fun m u i wx => ∃ (un k : Nat) (L : List Nat), u = .int .u64 un /\ i = .int .i64 k /\ m = un + 1 /\ un < 16777216 /\ k <= 65 /\ L.length = 65 /\ Hid (Onto .u8 143 g 0 65 wa wx cur L) /\ Hid (hx n = hx un ++ L.drop k))
 case atStart => exact ⟨n, 65, List.replicate 65 0, rfl, rfl, rfl, hn, Nat.le_refl _, by simp, HO.out, by rw [List.drop_eq_nil_of_le (by simp), List.append_nil]; rfl⟩
 case round =>
  obtain ⟨un, k, L, rfl, rfl, rfl, hun, hk, hL, hO, hI⟩ := hrel
  clear HO
  have hk6 : 60 <= k := by
   have h1 := HL6.out
   rw [hI.out, List.length_append, List.length_drop, hL] at h1
   have := hx_pos un
   omega
  have hk0 : 60 <= (k : Int) := by omega
  have hk1 : (k : Int) <= 65 := by omega
  have hk2 : ((k : Int) - 1) = ((k - 1 : Nat) : Int) := by omega
  have hf : wr.frozen? ⟨g, k - 1, none⟩ = false := hO.out.frozen _
  have hcl : wr.cell? ⟨g, k - 1, none⟩ = some (.int .u8 (L.getD (k - 1) 0 : Nat)) := by
   have := hO.out.cell (i := k - 1) (by omega)
   rw [Nat.zero_add] at this; exact this
  by_cases h16 : 16 <= un
  ·have u0 : (16 : Int) <= (un : Int) := by omega
   have ha := and15h un (by omega)
   have HN : Hid (Onto .u8 143 g 0 65 wa (wr.setCell ⟨g, k - 1, none⟩ (.int .u8 (chr (un % 16) : Nat))) cur (L.set (k - 1) (chr (un % 16)))) := by
    have := hO.out.store (i := k - 1) (by omega) (chr (un % 16))
    rw [Nat.zero_add] at this; exact this
   have HI2 : Hid (hx n = hx (un / 16) ++ (L.set (k - 1) (chr (un % 16))).drop (k - 1)) := by
    have e1 : (L.set (k - 1) (chr (un % 16))).drop (k - 1) = chr (un % 16) :: L.drop k := by
     rw [dropN_cons (by rw [List.length_set]; omega), List.drop_set_of_lt (by omega), List.getD_eq_getElem?_getD, List.getElem?_set, if_pos rfl, if_pos (by omega), show k - 1 + 1 = k by omega]
     rfl
    unfold Hid
    rw [hI.out, hx_step h16, e1, List.append_assoc]; rfl
   have hdt := fun h => dt_get (un % 16) h
   unfold digitText at hdt
   have HLS : Hid ((L.set (k - 1) (chr (un % 16))).length = 65) := (List.length_set ..).trans hL
   clear hO hI
   go_wp2_with fail
   go_roundg (un / 16 + 1)
   case measure => omega
   case rel => exact ⟨un / 16, k - 1, L.set (k - 1) (chr (un % 16)), by simp, rfl, rfl, by omega, by omega, HLS.out, HN.out, HI2.out⟩
  ·have u0 : ¬ (16 : Int) <= (un : Int) := by omega
   have u1 : (un : Int) < 36 := by omega
   have HN : Hid (Onto .u8 143 g 0 65 wa (wr.setCell ⟨g, k - 1, none⟩ (.int .u8 (chr un : Nat))) cur (L.set (k - 1) (chr un))) := by
    have := hO.out.store (i := k - 1) (by omega) (chr un)
    rw [Nat.zero_add] at this; exact this
   have HI2 : Hid (hx n = (L.set (k - 1) (chr un)).drop (k - 1)) := by
    have e1 : (L.set (k - 1) (chr un)).drop (k - 1) = chr un :: L.drop k := by
     rw [dropN_cons (by rw [List.length_set]; omega), List.drop_set_of_lt (by omega), List.getD_eq_getElem?_getD, List.getElem?_set, if_pos rfl, if_pos (by omega), show k - 1 + 1 = k by omega]
     rfl
    unfold Hid
    rw [hI.out, hx_small (by omega), e1]; rfl
   have hdt := fun h => dt_get un h
   unfold digitText at hdt
   have HLS : Hid ((L.set (k - 1) (chr un)).length = 65) := (List.length_set ..).trans hL
   have hal : Tryz.prog.arrayLen 143 = 65 := by simp [Program.arrayLen, Tryz.underlying143]
   have hsl : ∀ W, (Instr.sliceAt 143 (.pointer (some ⟨g, 0, none⟩)) (some (.int .i64 ((k - 1 : Nat) : Int))) none none).run Tryz.prog W = .ok (.slice (some ⟨g, k - 1, none⟩) (66 - k) (66 - k)) W := fun W => by
    rw [run_sliceAt_array_l W 143 ⟨g, 0, none⟩ (by simp [Program.arrayLen, Program.elem, Tryz.underlying143]) .i64 ((k - 1 : Nat) : Int) (by omega) (by rw [hal]; omega), show Tryz.prog.elem 143 = 5 by simp [Program.elem, Tryz.underlying143], Tryz.sizeOf5, hal]
    simp only [Result.andThen, slicedAt, Int.toNat_natCast]
    rw [if_neg (by omega)]
    have e1 : (65 : Int).toNat - (k - 1) = 66 - k := by show 65 - (k - 1) = 66 - k; omega
    have e2 : Addr.add ⟨g, 0, none⟩ ((k - 1) * 1) = ⟨g, k - 1, none⟩ := by unfold Addr.add; rw [if_neg (by omega)]; simp
    first
     | rw [e1, e2]
     | (rw [show 65 - (k - 1) = 66 - k by omega, e2])
   have hrow : BRow (wr.setCell ⟨g, k - 1, none⟩ (.int .u8 (chr un : Nat))) (some ⟨g, k - 1, none⟩) (66 - k) (66 - k) ((L.set (k - 1) (chr un)).drop (k - 1)) := by
    refine ⟨by rw [List.length_drop, List.length_set]; omega, Nat.le_refl _, by unfold maxLen; omega, fun e => (by cases e), ?_, .inr ⟨g, k - 1, rfl, HN.out.lt, fun i hi => ?_⟩⟩
    ·rw [<- HI2.out]; exact fun c hc => Nat.lt_trans (hx_low n n (Nat.le_refl _) c hc).1 (by decide)
    ·rw [List.length_drop, List.length_set] at hi
     have := HN.out.cell (i := k - 1 + i) (by omega)
     rw [Nat.zero_add] at this
     rw [this, List.getD_eq_getElem?_getD, List.getD_eq_getElem?_getD, List.getElem?_drop]
   have hcv := conv_any hrow
   rw [<- HI2.out] at hcv
   have HBel : Hid (Below w.heap.size w (wr.setCell ⟨g, k - 1, none⟩ (.int .u8 (chr un : Nat)))) := HB0.out.trans (HN.out.below (by rw [HG.out]; exact Nat.le_refl _))
   clear hO hI hrow
   go_wp2_with fail
   go_ret2
   exact ⟨⟨_, rfl⟩, HBel.out⟩
theorem intFormat_any (n : Nat) (w : World) (hn : n < 16777216) (h : DbT w) : Calls Tryz.prog 94 #[.int .i64 (n : Int), .int .i64 16] w fun e w' => e = .returned (.string (bstr (hx n))) /\ Below w.heap.size w w' := by
 have C := hid (formatBits_any n w hn h)
 have h0 : ¬ (n : Int) < 0 := by omega
 have h1 : (n : Int) < 16777216 := by omega
 clear h hn
 go_enter Tryz.func94, Tryz.ntmps94
 go_wp2_with fail
 go_at_call 118
 with_reducible refine C.out.mono ?_
 rintro e wa ⟨v, rfl, ba⟩
 have HB := hid ba
 clear ba
 go_wp2_with fail
 go_ret
 exact ⟨rfl, HB.out⟩
theorem formatInt16_any (n : Nat) (w : World) (hn : n < 16777216) (h : DbT w) : Calls Tryz.prog 73 #[.int .i64 (n : Int), .int .i64 16] w fun e w' => e = .returned (.string (bstr (hx n))) /\ Below w.heap.size w w' := by
 have C := hid (intFormat_any n w hn h)
 clear h hn
 go_enter Tryz.func73, Tryz.ntmps73
 go_wp2_with (go_at_call 94; with_reducible refine C.out.mono ?_; rintro e wa ⟨rfl, ba⟩; have HB := hid ba; clear ba)
 go_ret
 exact ⟨rfl, HB.out⟩
theorem hexOf_any (n : Nat) (w : World) (hn : n < 16777216) (h : DbT w) : Calls Tryz.prog 47 #[.int .i32 (n : Int)] w fun e w' => e = .returned (.string (bstr (hx n))) /\ Below w.heap.size w w' := by
 have C := hid (formatInt16_any n w hn h)
 have h1 : (n : Int) < 16777216 := by omega
 clear h hn
 go_enter Tryz.func47, Tryz.ntmps47
 go_wp2_with (go_at_call 73; with_reducible refine C.out.mono ?_; rintro e wa ⟨rfl, ba⟩; have HB := hid ba; clear ba)
 go_ret
 exact ⟨rfl, HB.out⟩
end Go.Proofs.YtbkfinjajkjhaaaGreatDoor
