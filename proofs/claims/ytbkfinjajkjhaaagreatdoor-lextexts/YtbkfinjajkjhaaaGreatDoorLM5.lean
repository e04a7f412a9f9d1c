import Derived.Test.YtbkfinjajkjhaaaGreatDoorLX14
import Derived.Lib.IfaceEq
import Derived.Test.YtbkfinjajkjhaaaGreatDoorSG3
import Derived.Test.YtbkfinjajkjhaaaGreatDoorRL10
set_option linter.unusedVariables false
set_option linter.unusedSimpArgs false
set_option maxRecDepth 100000
namespace Go.Proofs.YtbkfinjajkjhaaaGreatDoor
open Go.RowKit
theorem syntaxError_any (fn s : ByteArray) (w : World) (hs : s.size <= 1000000) (hT : LTabs w) : Calls Tryz.prog 149 #[.string fn, .string s] w fun e w' => ∃ N, e = .returned (.pointer (some ⟨N, 0, none⟩)) /\ Below w.heap.size w w' := by
 obtain ⟨t, a, h⟩ := hT.es
 exact (Any.strconv_syntaxError Tryz.laysM279 fn s _ w (by omega) h (.inr ⟨t, a, rfl⟩)).mono fun e w' ⟨N, h1, _, _, h4⟩ => ⟨N, h1, h4⟩
theorem toError_any (fn s : ByteArray) (w : World) (hs : s.size <= 1000000) (hT : LTabs w) : Calls Tryz.prog 131 #[.string fn, .string s, .int .i64 16, .int .i64 32, hexErr] w fun e w' => ∃ t v, e = .returned (.iface t v) /\ Below w.heap.size w w' := by
 have C := hid (fun W (h : Below w.heap.size w W) => syntaxError_any fn s W hs (hT.below h))
 have C0 := hid (C.out w (Below.refl _ _))
 have heq : ∀ W, (binOp .eql 74 (.iface 151 (.int .i64 2)) (.iface 151 (.int .i64 2))).run Tryz.prog W = .ok (.bool true) W := fun W => Lib.run_eql_iface_int W 2 2 Tryz.underlying74 (by kernel_rfl) Tryz.underlying151
 unfold hexErr
 clear hT C
 go_enter Tryz.func131, Tryz.ntmps131
 go_wp2_with (go_at_call 149; with_reducible refine C0.out.mono ?_; rintro e wa ⟨N, rfl, ba⟩; have HB := hid ba; clear ba)
 go_ret
 exact ⟨_, _, rfl, HB.out⟩
theorem parseUint_any (s : ByteArray) (w : World) (hs : s.size <= 6) (hT : LTabs w) : Calls Tryz.prog 145 #[.string s, .int .i64 16, .int .i64 32] w fun e w' => Below w.heap.size w w' /\
  ((s.size = 0 \/ hxF (bs s) 0 = none) -> ∃ v t u, e = .returned (.tuple #[.int .u64 v, .iface t u])) /\ (s.size ≠ 0 -> ∀ v, hxF (bs s) 0 = some v -> e = .returned (.tuple #[.int .u64 (v : Nat), .nilIface])) := by
 have C := hid (parseUint_in s w hs)
 have CT : Hid (∀ W, Below w.heap.size w W -> Calls Tryz.prog 131 #[.string ⟨#[80, 97, 114, 115, 101, 85, 105, 110, 116]⟩, .string s, .int .i64 16, .int .i64 32, .iface 151 (.int .i64 2)] W fun e w' => ∃ t v, e = .returned (.iface t v) /\ Below W.heap.size W w') := fun W h => toError_any _ s W (by omega) (hT.below h)
 clear hT
 by_cases h : s.size = 0 \/ hxF (bs s) 0 = none
 ·have HN : Hid (s.size = 0 \/ hxF (bs s) 0 = none) := h
  clear h
  go_enter Tryz.func145, Tryz.ntmps145
  go_wp2_with fail
  go_at_call 158
  with_reducible refine C.out.mono ?_
  rintro e wa ⟨ba, hv, _⟩
  obtain ⟨v, rfl⟩ := hv HN.out
  have HB := hid ba
  have CT2 := hid (CT.out wa ba)
  clear ba hv
  unfold hexErr
  go_wp2_with fail
  go_at_call 131
  with_reducible refine CT2.out.mono ?_
  rintro e wb ⟨t, u, rfl, bb⟩
  have HB2 := hid (HB.out.trans (bb.mono HB.out.size))
  clear bb
  go_wp2_with fail
  go_ret2
  exact ⟨HB2.out, fun _ => ⟨_, _, _, rfl⟩, fun h0 v hv => (by rcases HN.out with h | h; exact absurd h h0; rw [h] at hv; cases hv)⟩
 ·obtain ⟨v, hv⟩ : ∃ v, hxF (bs s) 0 = some v := by
   cases hx : hxF (bs s) 0 with
   | none => exact absurd (.inr hx) h
   | some v => exact ⟨v, rfl⟩
  have H0 : Hid (s.size ≠ 0) := fun e => h (.inl e)
  have HV := hid hv
  clear h hv
  go_enter Tryz.func145, Tryz.ntmps145
  go_wp2_with fail
  go_at_call 158
  with_reducible refine C.out.mono ?_
  rintro e wa ⟨ba, _, hv⟩
  obtain rfl := hv H0.out v HV.out
  have HB := hid ba
  clear ba hv
  go_wp2_with fail
  go_ret2
  exact ⟨HB.out, fun h => (by rcases h with h | h; exact absurd h H0.out; rw [HV.out] at h; cases h), fun _ u hu => (by rw [HV.out] at hu; cases hu; rfl)⟩
def hexV (r : Option Nat) : Value := .tuple #[.int .i32 (r.getD 0 : Nat), .bool r.isSome]
theorem numH_hx {t : List Nat} (h6 : t.length <= 6) : numH t = if t = [] then none else (hxF t 0).bind (fun v => if letB (v : Int) then some v else none) := by
 unfold numH
 by_cases h0 : t = []
 ·subst h0; rfl
 ·rw [if_neg h0, hxF_is]
  have hl : 1 <= t.length := List.length_pos_iff.2 h0
  have hd : digitsB 16 t = t.all (fun c => decide ((dgt c : Int) < 16)) := by unfold digitsB; rw [decide_eq_true h0, Bool.and_true]
  by_cases ha : t.all (fun c => decide ((dgt c : Int) < 16)) = true
  ·rw [if_pos ha]
   show _ = if letB ((hv 16 t : Nat) : Int) = true then some (hv 16 t) else none
   by_cases hb : letB ((hv 16 t : Nat) : Int) = true
   ·rw [if_pos ⟨⟨hl, h6⟩, hd.trans ha, hb⟩, if_pos hb]
   ·rw [if_neg (fun h => hb h.2.2), if_neg hb]
  ·rw [if_neg ha, if_neg (fun h => ha (hd ▸ h.2.1))]; rfl
set_option maxHeartbeats 4000000 in
theorem hexLetter_any (s : ByteArray) (w : World) (hs : s.size <= 1000000) (hT : LTabs w) : Calls Tryz.prog 126 #[.string s] w fun e w' => e = .returned (hexV (numH (bs s))) /\ Below w.heap.size w w' := by
 have hl := bs_length s
 by_cases h6 : 6 < s.size
 ·rw [numH_long (by omega)]
  have h6' : (6 : Int) < (s.size : Int) := by omega
  clear hl hT h6
  go_enter Tryz.func126, Tryz.ntmps126
  go_wp2_with fail
  go_ret2
  exact ⟨rfl, Below.refl _ _⟩
 ·have h6' : ¬ (6 : Int) < (s.size : Int) := by omega
  have C := hid (parseUint_any s w (by omega) hT)
  rw [numH_hx (by omega)]
  obtain ⟨A, hA⟩ : ∃ A, A = if bs s = [] then none else (hxF (bs s) 0).bind (fun v => if letB (v : Int) then some v else none) := ⟨_, rfl⟩
  rw [<- hA]
  have hz : bs s = [] ↔ s.size = 0 := by rw [<- hl]; exact List.length_eq_zero_iff.symm
  by_cases h : s.size = 0 \/ hxF (bs s) 0 = none
  ·have HN : Hid (s.size = 0 \/ hxF (bs s) 0 = none) := h
   have HA : Hid (A = none) := by
    unfold Hid; rw [hA]
    rcases h with h | h
    ·rw [if_pos (hz.2 h)]
    ·rw [h]; split <;> rfl
   clear h hA hz hl hT h6
   go_enter Tryz.func126, Tryz.ntmps126
   go_wp2_with fail
   go_at_call 145
   with_reducible refine C.out.mono ?_
   rintro e wa ⟨ba, hv, _⟩
   obtain ⟨v, t, u, rfl⟩ := hv HN.out
   have HB := hid ba
   clear ba hv
   go_wp2_with fail
   go_ret2
   exact ⟨by rw [HA.out]; rfl, HB.out⟩
  ·obtain ⟨v, hv⟩ : ∃ v, hxF (bs s) 0 = some v := by
    cases hx : hxF (bs s) 0 with
    | none => exact absurd (.inr hx) h
    | some v => exact ⟨v, rfl⟩
   have H0 : Hid (s.size ≠ 0) := fun e => h (.inl e)
   have HV := hid hv
   have hvb : v < 16777216 := by
    have := hxF_is (bs s) 0
    rw [hv] at this
    split at this
    ·rename_i ha
     have h2 := Option.some.inj this
     have h3 := hvf_lt 16 (bs s) 0 (fun c hc => by have := of_decide_eq_true (List.all_eq_true.1 ha c hc); omega)
     rw [<- h2] at h3
     have h4 : 16 ^ (bs s).length <= 16 ^ 6 := Nat.pow_le_pow_right (by omega) (by omega)
     have h5 : (16 : Nat) ^ 6 = 16777216 := by decide
     omega
    ·cases this
   have HA : Hid (A = if letB (v : Int) then some v else none) := by
    unfold Hid; rw [hA, if_neg (fun e => H0.out (hz.1 e)), hv]; rfl
   have CV := hid (fun W => validRune_any v W)
   obtain ⟨b, hb⟩ : ∃ b, b = letB (v : Int) := ⟨_, rfl⟩
   rw [<- hb] at HA CV
   have hw32 : IntKind.i32.wrap (v : Int) = (v : Int) := by rw [IntKind.wrap_i32]; omega
   clear h hv hA hz hl hT h6 hb
   go_enter Tryz.func126, Tryz.ntmps126
   go_wp2_with fail
   go_at_call 145
   with_reducible refine C.out.mono ?_
   rintro e wa ⟨ba, _, hv⟩
   obtain rfl := hv H0.out v HV.out
   have HB := hid ba
   clear ba hv
   cases b
   ·have HA2 : Hid (A = none) := HA.out
    clear HA
    go_wp2_with (go_at_call 46; with_reducible refine (CV.out _).mono ?_; rintro e wb ⟨rfl, rfl⟩)
    go_ret2
    exact ⟨by rw [HA2.out]; rfl, HB.out⟩
   ·have HA2 : Hid (A = some v) := HA.out
    clear HA
    go_wp2_with (go_at_call 46; with_reducible refine (CV.out _).mono ?_; rintro e wb ⟨rfl, rfl⟩)
    go_ret2
    exact ⟨by rw [HA2.out]; rfl, HB.out⟩
end Go.Proofs.YtbkfinjajkjhaaaGreatDoor
namespace Go.Proofs.YtbkfinjajkjhaaaGreatDoor
inductive Vd : List Nat -> Prop
 | nil : Vd []
 | step {r : List Nat} (hr : r ≠ []) (hd : decN r ≠ (65533, 1)) (ht : Vd (r.drop (decN r).2)) : Vd r
theorem Vd.first {r : List Nat} (h : Vd r) (hr : r ≠ []) : decN r ≠ (65533, 1) := by
 cases h with
 | nil => exact absurd rfl hr
 | step _ hd _ => exact hd
theorem Vd.tail {r : List Nat} (h : Vd r) (hr : r ≠ []) : Vd (r.drop (decN r).2) := by
 cases h with
 | nil => exact absurd rfl hr
 | step _ _ ht => exact ht
def Bnd (l : List Nat) (k : Nat) : Prop := k = 0 \/ k = l.length \/ l.getD k 0 < 128 \/ l.getD (k - 1) 0 < 128
theorem getD_drop (l : List Nat) (a b : Nat) : (l.drop a).getD b 0 = l.getD (a + b) 0 := by
 rw [List.getD_eq_getElem?_getD, List.getElem?_drop, <- List.getD_eq_getElem?_getD]
theorem decN_split {r : List Nat} (hr : r ≠ []) : ((decN r).2 = 1 /\ r.getD 0 0 < 128) \/ (1 <= (decN r).2 /\ (decN r).2 <= r.length /\ ∀ j, j < (decN r).2 -> 128 <= r.getD j 0) := by
 by_cases h : r.getD 0 0 < 128
 ·exact .inl ⟨by rw [decN_low h], h⟩
 ·obtain ⟨_, _, h1, _, h2, h3⟩ := decN_high hr (by omega)
  exact .inr ⟨h1, h2, h3⟩
theorem Bnd.back {r : List Nat} (hr : r ≠ []) {k : Nat} (hk : k <= r.length) (hb : Bnd r k) (h0 : k ≠ 0) : (decN r).2 <= k /\ Bnd (r.drop (decN r).2) (k - (decN r).2) := by
 have hl : 0 < r.length := List.length_pos_iff.2 hr
 rcases decN_split hr with ⟨h1, h2⟩ | ⟨h1, h2, h3⟩
 ·rw [h1]
  refine ⟨by omega, ?_⟩
  by_cases hk1 : k = 1
  ·subst hk1; exact .inl rfl
  ·refine .inr ?_
   rw [List.length_drop, getD_drop, getD_drop]
   rcases hb with h | h | h | h
   ·exact absurd h h0
   ·exact .inl (by omega)
   ·exact .inr (.inl (by rw [show 1 + (k - 1) = k by omega]; exact h))
   ·exact .inr (.inr (by rw [show 1 + (k - 1 - 1) = k - 1 by omega]; exact h))
 ·have hle : (decN r).2 <= k := by
   rcases Nat.lt_or_ge k (decN r).2 with h | h
   ·exfalso
    rcases hb with e | e | e | e
    ·exact h0 e
    ·omega
    ·have := h3 k h; omega
    ·have := h3 (k - 1) (by omega); omega
   ·exact h
  refine ⟨hle, ?_⟩
  by_cases hke : k = (decN r).2
  ·exact .inl (by omega)
  ·refine .inr ?_
   rw [List.length_drop, getD_drop, getD_drop]
   rcases hb with h | h | h | h
   ·exact absurd h h0
   ·exact .inl (by omega)
   ·exact .inr (.inl (by rw [show (decN r).2 + (k - (decN r).2) = k by omega]; exact h))
   ·exact .inr (.inr (by rw [show (decN r).2 + (k - (decN r).2 - 1) = k - 1 by omega]; exact h))
theorem Vd.drop {r : List Nat} (h : Vd r) : ∀ k, k <= r.length -> Bnd r k -> Vd (r.drop k) := by
 induction h with
 | nil => intro k hk _; simp; exact .nil
 | @step r hr hd ht ih =>
  intro k hk hb
  by_cases h0 : k = 0
  ·subst h0; rw [List.drop_zero]; exact .step hr hd ht
  ·obtain ⟨h1, h2⟩ := hb.back hr hk h0
   have := ih (k - (decN r).2) (by rw [List.length_drop]; omega) h2
   rw [List.drop_drop, show (decN r).2 + (k - (decN r).2) = k by omega] at this
   exact this
theorem getD_take_lt (l : List Nat) {a b : Nat} (h : b < a) : (l.take a).getD b 0 = l.getD b 0 := by
 rw [List.getD_eq_getElem?_getD, List.getElem?_take, if_pos h, <- List.getD_eq_getElem?_getD]
theorem decN_take {r : List Nat} (hr : r ≠ []) (hd : decN r ≠ (65533, 1)) {k : Nat} (hk : (decN r).2 <= k) (hk2 : k <= r.length) : decN (r.take k) = decN r := by
 have h0 := (decN_le hr).1
 have e0 := getD_take_lt r (a := k) (b := 0) (by omega)
 have hlen : (r.take k).length = k := by rw [List.length_take]; omega
 by_cases h : r.getD 0 0 < 128
 ·rw [decN_low h, decN_low (by rw [e0]; exact h), e0]
 ·unfold decN at hd hk ⊢
  rw [hlen, e0]
  unfold Lib.decodeN at hd hk ⊢
  rw [if_neg h] at hd hk ⊢
  rw [if_neg h]
  by_cases c1 : r.getD 0 0 / 32 = 6 /\ (1 < r.length /\ r.getD 1 0 / 64 = 2)
  ·rw [if_pos c1] at hd hk ⊢
   by_cases c2 : r.getD 0 0 % 32 * 64 + r.getD 1 0 % 64 >= 128
   ·rw [if_pos c2] at hk ⊢
    have hk : 2 <= k := hk
    rw [getD_take_lt r (show 1 < k by omega), if_pos ⟨c1.1, by omega, c1.2.2⟩, if_pos c2]
   ·rw [if_neg c2] at hd; exact absurd rfl hd
  ·rw [if_neg c1] at hd hk ⊢
   have n1 : ¬ (r.getD 0 0 / 32 = 6 /\ (1 < k /\ (r.take k).getD 1 0 / 64 = 2)) := by
    rintro ⟨a1, a2, a3⟩
    rw [getD_take_lt r a2] at a3
    exact c1 ⟨a1, by omega, a3⟩
   rw [if_neg n1]
   by_cases c3 : r.getD 0 0 / 16 = 14 /\ (1 < r.length /\ r.getD 1 0 / 64 = 2) /\ (2 < r.length /\ r.getD 2 0 / 64 = 2)
   ·rw [if_pos c3] at hd hk ⊢
    split at hd
    ·rename_i c4
     rw [if_pos c4] at hk ⊢
     have hk : 3 <= k := hk
     rw [getD_take_lt r (show 1 < k by omega), getD_take_lt r (show 2 < k by omega), if_pos ⟨c3.1, ⟨by omega, c3.2.1.2⟩, by omega, c3.2.2.2⟩, if_pos c4]
    ·exact absurd rfl hd
   ·rw [if_neg c3] at hd hk ⊢
    have n3 : ¬ (r.getD 0 0 / 16 = 14 /\ (1 < k /\ (r.take k).getD 1 0 / 64 = 2) /\ (2 < k /\ (r.take k).getD 2 0 / 64 = 2)) := by
     rintro ⟨a1, ⟨a2, a3⟩, a4, a5⟩
     rw [getD_take_lt r a2] at a3
     rw [getD_take_lt r a4] at a5
     exact c3 ⟨a1, ⟨by omega, a3⟩, by omega, a5⟩
    rw [if_neg n3]
    by_cases c5 : r.getD 0 0 / 8 = 30 /\ (1 < r.length /\ r.getD 1 0 / 64 = 2) /\ (2 < r.length /\ r.getD 2 0 / 64 = 2) /\ (3 < r.length /\ r.getD 3 0 / 64 = 2)
    ·rw [if_pos c5] at hd hk ⊢
     split at hd
     ·rename_i c6
      rw [if_pos c6] at hk ⊢
      have hk : 4 <= k := hk
      rw [getD_take_lt r (show 1 < k by omega), getD_take_lt r (show 2 < k by omega), getD_take_lt r (show 3 < k by omega), if_pos ⟨c5.1, ⟨by omega, c5.2.1.2⟩, ⟨by omega, c5.2.2.1.2⟩, by omega, c5.2.2.2.2⟩, if_pos c6]
     ·exact absurd rfl hd
    ·rw [if_neg c5] at hd; exact absurd rfl hd
theorem Vd.take {r : List Nat} (h : Vd r) : ∀ k, k <= r.length -> Bnd r k -> Vd (r.take k) := by
 induction h with
 | nil => intro k hk _; simp; exact .nil
 | @step r hr hd ht ih =>
  intro k hk hb
  by_cases h0 : k = 0
  ·subst h0; exact .nil
  ·obtain ⟨h1, h2⟩ := hb.back hr hk h0
   have h3 := ih (k - (decN r).2) (by rw [List.length_drop]; omega) h2
   have hl := (decN_le hr).1
   have e := decN_take hr hd h1 hk
   have hne : r.take k ≠ [] := by
    intro e
    have h5 := congrArg List.length e
    have h6 := List.length_pos_iff.2 hr
    rw [List.length_take, List.length_nil] at h5
    omega
   refine .step hne (by rw [e]; exact hd) ?_
   rw [e, List.drop_take]
   exact h3
theorem Vd.bad {l : List Nat} (hd : Dg 256 l) : ∀ (f k : Nat), l.length <= k + f -> k <= l.length -> (badA f l k = none ↔ Vd (l.drop k))
 | 0, k, hf, hk => by
  rw [List.drop_eq_nil_of_le (by omega)]
  exact ⟨fun _ => .nil, fun _ => rfl⟩
 | f + 1, k, hf, hk => by
  by_cases h : l.length <= k
  ·rw [badA_end h, List.drop_eq_nil_of_le h]
   exact ⟨fun _ => .nil, fun _ => rfl⟩
  ·have hne : l.drop k ≠ [] := by intro e; have := congrArg List.length e; rw [List.length_drop] at this; simp at this; omega
   have hr := runeL_dec (hd.drop k)
   have hle := decN_le hne
   rw [List.length_drop] at hle
   by_cases he : decN (l.drop k) = (65533, 1)
   ·rw [if_pos he] at hr
    rw [badA_stop h (by rw [hr])]
    exact ⟨fun e => (by cases e), fun e => absurd he (e.first hne)⟩
   ·rw [if_neg he] at hr
    rw [badA_go h (by rw [hr]; omega), hr, Vd.bad hd f (k + (decN (l.drop k)).2) (by omega) (by omega), <- List.drop_drop]
    exact ⟨fun e => .step hne he e, fun e => e.tail hne⟩
theorem badM_vd {l : List Nat} (hd : Dg 256 l) : badM l = none ↔ Vd l := by
 have := Vd.bad hd l.length 0 (by omega) (Nat.zero_le _)
 rw [List.drop_zero] at this
 exact this
end Go.Proofs.YtbkfinjajkjhaaaGreatDoor
