import Derived.Test.YtbkfinjajkjhaaaGreatDoorLM19
import Derived.Test.YtbkfinjajkjhaaaGreatDoorLX24
import Derived.Test.YtbkfinjajkjhaaaGreatDoorLL2
import Derived.Test.YtbkfinjajkjhaaaGreatDoorW3
import Derived.Test.YtbkfinjajkjhaaaGreatDoorRL17
set_option linter.unusedVariables false
set_option linter.unusedSimpArgs false
set_option maxRecDepth 100000
namespace Go.Proofs.YtbkfinjajkjhaaaGreatDoor
theorem low_first {c : Nat} (h : c < 128) (X : List Nat) : (qb c ++ X).getD 0 0 < 128 := by
 have hp := (qb_len h).1
 rw [getD_app_left (by omega), List.getD_eq_getElem?_getD, List.getElem?_eq_getElem (by omega)]
 exact qb_low h _ (List.getElem_mem _)
theorem q_high {rest : List Nat} (h0 : rest.getD 0 0 < 128) : ∀ (k : Nat) (l : List Nat), (∀ j, j < k -> 128 <= (l.flatMap qb ++ rest).getD j 0) -> Fst (l.flatMap qb ++ rest) l k /\ (l.flatMap qb ++ rest).drop k = (l.drop k).flatMap qb ++ rest
 | 0, l, _ => ⟨⟨Nat.zero_le _, Nat.zero_le _, fun j hj => absurd hj (Nat.not_lt_zero j)⟩, rfl⟩
 | k + 1, [], h => by
  have := h 0 (by omega)
  simp only [List.flatMap_nil, List.nil_append] at this
  omega
 | k + 1, c :: l, h => by
  have hz := h 0 (by omega)
  have hc : 128 <= c := by
   rcases Nat.lt_or_ge c 128 with h1 | h1
   ·have := low_first h1 (l.flatMap qb ++ rest)
    rw [List.flatMap_cons, List.append_assoc] at hz
    omega
   ·exact h1
  have e : (c :: l).flatMap qb ++ rest = c :: (l.flatMap qb ++ rest) := by rw [List.flatMap_cons, qb_high hc]; rfl
  rw [e] at h ⊢
  obtain ⟨h1, h2⟩ := q_high h0 k l (fun j hj => by have := h (j + 1) (by omega); simpa using this)
  refine ⟨⟨by simpa using h1.le, by simpa using h1.le', fun j hj => ?_⟩, by simpa using h2⟩
  cases j with
  | zero => rfl
  | succ j => have := h1.get j (by omega); simpa using this
theorem q_vd {rest : List Nat} (h0 : rest.getD 0 0 < 128) : ∀ (f : Nat) (l : List Nat), l.length <= f -> Vd (l.flatMap qb ++ rest) -> Vd l
 | _, [], _, _ => .nil
 | 0, c :: l, h, _ => by simp at h
 | f + 1, c :: l, h, hv => by
  by_cases hc : c < 128
  ·rw [List.flatMap_cons, List.append_assoc, vd_pre (fun j hj => by
    rw [List.getD_eq_getElem?_getD, List.getElem?_eq_getElem hj]
    exact qb_low hc _ (List.getElem_mem _))] at hv
   exact (vd_cons hc).2 (q_vd h0 f l (by simpa using h) hv)
  ·have hne : (c :: l).flatMap qb ++ rest ≠ [] := by rw [List.flatMap_cons, qb_high (by omega)]; simp
   have hg : 128 <= ((c :: l).flatMap qb ++ rest).getD 0 0 := by rw [List.flatMap_cons, qb_high (by omega)]; show 128 <= c; omega
   have hh := decN_high hne hg
   have hfi := hv.first hne
   have htl := hv.tail hne
   obtain ⟨q1, q2⟩ := q_high h0 (decN ((c :: l).flatMap qb ++ rest)).2 (c :: l) hh.2.2.2.2.2
   have hd := decN_fst q1 hne hfi (Nat.le_refl _)
   rw [q2] at htl
   refine .step (List.cons_ne_nil _ _) (by rw [hd]; exact hfi) ?_
   rw [hd]
   refine q_vd h0 f _ ?_ htl
   rw [List.length_drop, List.length_cons]
   rw [List.length_cons] at h
   omega
def txS (l c : List Nat) : List Nat := 40 :: (qt l ++ 40 :: (c ++ [41]))
theorem txS_bad {l c : List Nat} (h : ¬ Vd l) : ¬ Vd (txS l c) := by
 intro hv
 unfold txS at hv
 rw [vd_cons (by decide)] at hv
 have e : qt l ++ 40 :: (c ++ [41]) = 34 :: (l.flatMap qb ++ 34 :: 40 :: (c ++ [41])) := by unfold qt; simp
 rw [e, vd_cons (by decide)] at hv
 exact h (q_vd (by show 34 < 128; decide) l.length l (Nat.le_refl _) hv)
theorem tk_open (X : List Nat) : tkM (40 :: X) = some ((1, 0, ⟨#[]⟩, 1) : Tkn) := rfl
theorem tk_close : tkM [41] = some ((2, 0, ⟨#[]⟩, 1) : Tkn) := rfl
theorem sq_one {r : List Nat} {x : Tkn} {L : List Ky} (hne : r ≠ []) (hx : tkM r = some x) (ht : Sq (r.drop x.2.2.2) L) : Sq r (kyT x :: L) :=
 .cons (q := 0) (x := x) (.nil _) (List.length_pos_iff.2 hne) (by rw [List.drop_zero]; exact hx) (by rw [Nat.zero_add]; exact ht)
theorem sq_front {a : List Nat} {d : Nat} {X : List Nat} {k b : Int} {t : ByteArray} {L : List Ky} (hne : a ≠ []) (hx : tkM a = some ((k, b, t, a.length) : Tkn)) (hd : dlmB d = true) (da : Dg 256 a) (dx : Dg 256 (d :: X)) (va : Vd a) (ht : Sq (d :: X) L) : Sq (a ++ d :: X) ((k, b, t) :: L) := by
 have htk : tkM (a ++ d :: X) = some ((k, b, t, a.length) : Tkn) := by
  refine tkM_loc hne (fst_app (Nat.le_refl _)) (.inr (.inl ?_)) da (da.append dx) va hx
  show dlmB ((a ++ d :: X).getD a.length 0) = true
  rw [List.getD_eq_getElem?_getD, List.getElem?_append_right (Nat.le_refl _), Nat.sub_self]
  exact hd
 exact sq_one (x := (k, b, t, a.length)) (by simp) htk (by
  show Sq ((a ++ d :: X).drop a.length) L
  rw [List.drop_left]; exact ht)
theorem low_cons {c : Nat} {l : List Nat} (hc : c < 128) (hl : ∀ x ∈ l, x < 128) : ∀ x ∈ c :: l, x < 128 := fun x hx => by
 rcases List.mem_cons.1 hx with rfl | hx
 ·exact hc
 ·exact hl x hx
theorem txS_sq {I : List Nat} {T : ByteArray} (hI : LB I) (hn : I.length <= 1024) (hT : bs T = eNs I) (n : Int) :
  Dg 256 (txS (bs T) (chS n)) /\ Vd (txS (bs T) (chS n)) /\ (letB n = true -> Sq (txS (bs T) (chS n)) [(1, 0, ⟨#[]⟩), (13, 0, T), (1, 0, ⟨#[]⟩), (12, n, ⟨#[]⟩), (2, 0, ⟨#[]⟩)]) /\ (letB n = false -> Sq (txS (bs T) (chS n)) [(1, 0, ⟨#[]⟩), (13, 0, T), (1, 0, ⟨#[]⟩), (2, 0, ⟨#[]⟩)]) := by
 obtain ⟨hq1, hq2⟩ := qt_vd hI
 rw [<- hT] at hq1 hq2
 have htq := tkq_text hI hn hT
 have hqne : qt (bs T) ≠ [] := List.cons_ne_nil _ _
 have hlow : ∀ c ∈ chS n, c < 128 := by
  unfold chS; split
  ·exact chL_low
  ·intro c hc; cases hc
 have hl1 : ∀ x ∈ chS n ++ [41], x < 128 := fun x hx => by
  rcases List.mem_append.1 hx with hx | hx
  ·exact hlow x hx
  ·rw [List.mem_singleton] at hx; omega
 have hl2 := low_cons (c := 40) (by decide) hl1
 have close : Sq [41] [(2, 0, ⟨#[]⟩)] := sq_one (x := (2, 0, ⟨#[]⟩, 1)) (by simp) tk_close (.nil (.nil _))
 have hdg : Dg 256 (txS (bs T) (chS n)) := fun c hc => by
  unfold txS at hc
  rcases List.mem_cons.1 hc with rfl | hc
  ·decide
  rcases List.mem_append.1 hc with hc | hc
  ·exact hq2 c hc
  ·exact low_dg hl2 c hc
 refine ⟨hdg, ?_, fun hb => ?_, fun hb => ?_⟩
 ·unfold txS
  exact (vd_cons (by decide)).2 (vd_app hq1 (low_vd hl2))
 ·have hr : 0 <= n := by
   unfold letB at hb
   simp only [Bool.and_eq_true, Bool.or_eq_true, decide_eq_true_eq] at hb
   omega
  obtain ⟨k, rfl⟩ : ∃ k : Nat, n = (k : Int) := ⟨n.toNat, by omega⟩
  have e : chS (k : Int) = chL k := by unfold chS; rw [if_pos hb, Int.toNat_natCast]
  rw [e] at hl1 hl2 ⊢
  have hcl := chL_len hb
  have hne : chL k ≠ [] := List.length_pos_iff.1 (by omega)
  refine sq_one (x := (1, 0, ⟨#[]⟩, 1)) (List.cons_ne_nil _ _) (tk_open _) ?_
  show Sq (qt (bs T) ++ 40 :: (chL k ++ [41])) _
  refine sq_front hqne htq (by decide) hq2 (low_dg hl2) hq1 ?_
  refine sq_one (x := (1, 0, ⟨#[]⟩, 1)) (List.cons_ne_nil _ _) (tk_open _) ?_
  show Sq (chL k ++ 41 :: []) _
  exact sq_front hne (tk_char hb) (by decide) (low_dg chL_low) (low_dg (by decide)) (low_vd chL_low) close
 ·have e : chS n = [] := by unfold chS; rw [hb]; rfl
  rw [e]
  refine sq_one (x := (1, 0, ⟨#[]⟩, 1)) (List.cons_ne_nil _ _) (tk_open _) ?_
  show Sq (qt (bs T) ++ 40 :: [41]) _
  refine sq_front hqne htq (by decide) hq2 (low_dg (by decide)) hq1 ?_
  exact sq_one (x := (1, 0, ⟨#[]⟩, 1)) (List.cons_ne_nil _ _) (tk_open _) close
theorem letters_of {T : ByteArray} (h : Vd (bs T)) : ∃ I, LB I /\ bs T = eNs I /\ I.length <= T.size := by
 have hv : Lib.validD T.data.toList = true := by
  have h1 := valid_is (bs_lt T)
  have e : (bs T).map UInt8.ofNat = T.data.toList := by
   unfold bs
   rw [List.map_map]
   have : (UInt8.ofNat ∘ UInt8.toNat) = id := by funext u; simp
   rw [this, List.map_id]
  rw [e, (badM_vd (bs_lt T)).2 h] at h1
  exact h1
 obtain ⟨I, _, i2, i3⟩ := told_spelt (s := T) (f := T.size) (p := 0) (by rw [List.drop_zero]; exact hv) (by omega)
 rw [List.drop_zero] at i3
 refine ⟨I, i2, ?_, ?_⟩
 ·show T.data.toList.map UInt8.toNat = _
  rw [i3]
  unfold spelt eNs
  rw [List.map_flatMap]
  rfl
 ·have := spelt_len i2
  rw [<- i3] at this
  exact this
theorem utf_vd (T : ByteArray) : (utfN T < 0 ↔ ¬ Vd (bs T)) := by
 have h1 := valid_is (bs_lt T)
 have e : (bs T).map UInt8.ofNat = T.data.toList := by
  unfold bs
  rw [List.map_map]
  have : (UInt8.ofNat ∘ UInt8.toNat) = id := by funext u; simp
  rw [this, List.map_id]
 rw [e] at h1
 unfold utfN
 rw [h1]
 rw [<- badM_vd (bs_lt T)]
 cases badM (bs T) with
 | none => simp
 | some p => simp
end Go.Proofs.YtbkfinjajkjhaaaGreatDoor
namespace Go.Proofs.YtbkfinjajkjhaaaGreatDoor
open Go.RowKit
theorem key_at {T : List Tok} {L : List Ky} (h : T.map ky = L) (i : Nat) (y : Ky) (hi : L[i]? = some y) : ky (T.getD i default) = y := by
 have h1 := congrArg (fun x => x[i]?) h
 simp only [List.getElem?_map] at h1
 rw [hi] at h1
 rw [List.getD_eq_getElem?_getD]
 cases hT : T[i]? with
 | none => rw [hT] at h1; cases h1
 | some x => rw [hT] at h1; simpa using h1
set_option maxHeartbeats 16000000 in
theorem lexTexts_walk (s : ByteArray) (n : Int) (w : World) (hsz : s.size <= maxLen) (hn1 : -9223372036854775808 <= n) (hn2 : n <= 9223372036854775807) (hT : LTabs w) (hD : DbT w) (hP : PowT w) :
  Calls Tryz.prog 8 #[.string s, .int .i64 n] w fun e w' => e = .returned (.bool true) /\ Below w.heap.size w w' := by
 by_cases h1 : 1000 < s.size
 ·have q1 : (1000 : Int) < (s.size : Int) := by omega
  clear hT hD hP
  go_enter Tryz.func8, Tryz.ntmps8
  go_wp2_with fail
  go_ret
  exact ⟨rfl, Below.refl _ _⟩
 have q1 : ¬ (1000 : Int) < (s.size : Int) := by omega
 have HT := hid hT
 have hlS : (qt (bs s)).length <= 5002 := by
  have := flat_len (bs s)
  rw [bs_length] at this
  unfold qt
  rw [List.length_cons, List.length_append, List.length_singleton]; omega
 have hlow : ∀ c ∈ chS n, c < 128 := by
  unfold chS; split
  ·exact chL_low
  ·intro c hc; cases hc
 have hlC : (chS n).length <= 9 := by
  unfold chS; split
  ·rename_i hb
   have hr : 0 <= n := by
    unfold letB at hb
    simp only [Bool.and_eq_true, Bool.or_eq_true, decide_eq_true_eq] at hb
    omega
   obtain ⟨k, rfl⟩ : ∃ k : Nat, n = (k : Int) := ⟨n.toNat, by omega⟩
   rw [Int.toNat_natCast]
   exact (chL_len hb).2
  ·exact Nat.zero_le _
 have hqd : Dg 256 (qt (bs s)) := by
  unfold qt
  intro c hc
  rcases List.mem_cons.1 hc with rfl | hc
  ·decide
  rcases List.mem_append.1 hc with hc | hc
  ·obtain ⟨x, hx, hcx⟩ := List.mem_flatMap.1 hc
   by_cases h128 : x < 128
   ·exact Nat.lt_trans (qb_low h128 c hcx) (by decide)
   ·rw [qb_high (by omega), List.mem_singleton] at hcx
    subst hcx
    exact bs_lt s _ hx
  ·rw [List.mem_singleton] at hc; omega
 obtain ⟨Q, hQ⟩ : ∃ Q, Q = bstr (qt (bs s)) := ⟨_, rfl⟩
 obtain ⟨C, hC⟩ : ∃ C, C = bstr (chS n) := ⟨_, rfl⟩
 have hQb : bs Q = qt (bs s) := by rw [hQ, bs_bstr hqd]
 have hCb : bs C = chS n := by rw [hC, bs_bstr (low_dg hlow)]
 have hQz : Q.size <= 5002 := by rw [<- bs_length, hQb]; exact hlS
 have hCz : C.size <= 9 := by rw [<- bs_length, hCb]; exact hlC
 have hsrc : bs ((⟨#[40]⟩ : ByteArray) ++ Q ++ ⟨#[40]⟩ ++ C ++ ⟨#[41]⟩) = txS (bs s) (chS n) := by
  rw [bs_append, bs_append, bs_append, bs_append, hQb, hCb]
  unfold txS
  simp [bs]
 have hzz : ((⟨#[40]⟩ : ByteArray) ++ Q ++ ⟨#[40]⟩ ++ C ++ ⟨#[41]⟩).size <= 6000 := by
  rw [ByteArray.size_append, ByteArray.size_append, ByteArray.size_append, ByteArray.size_append]
  show 1 + Q.size + 1 + C.size + 1 <= 6000
  omega
 have C1 : Hid (∀ W, Below w.heap.size w W -> Calls Tryz.prog 13 #[.agg #[.int .i64 13, .int .i64 0, .string s, .int .i64 0, .int .i64 0]] W fun e w' => e = .returned (.string Q) /\ Below W.heap.size W w') := fun W h => by
  have := lexSpell_any 13 0 s 0 0 W (by omega) (by omega) (by omega) (hT.below h) (hD.below h) (hP.below h)
  rw [hQ]; exact this
 have C2 : Hid (∀ W, Below w.heap.size w W -> Calls Tryz.prog 13 #[.agg #[.int .i64 1, .int .i64 0, .string ⟨#[]⟩, .int .i64 0, .int .i64 0]] W fun e w' => e = .returned (.string ⟨#[40]⟩) /\ Below W.heap.size W w') := fun W h => by
  exact lexSpell_any 1 0 ⟨#[]⟩ 0 0 W (by omega) (by omega) (by decide) (hT.below h) (hD.below h) (hP.below h)
 have C3 : Hid (∀ W, Below w.heap.size w W -> Calls Tryz.prog 13 #[.agg #[.int .i64 12, .int .i64 n, .string ⟨#[]⟩, .int .i64 0, .int .i64 0]] W fun e w' => e = .returned (.string C) /\ Below W.heap.size W w') := fun W h => by
  have := lexSpell_any 12 n ⟨#[]⟩ 0 0 W (by omega) (by omega) (by decide) (hT.below h) (hD.below h) (hP.below h)
  rw [hC]; exact this
 have l1 : ¬ 9223372036854775807 < 1 + Q.size := by omega
 have l2 : ¬ 9223372036854775807 < 1 + Q.size + 1 := by omega
 have l3 : ¬ 9223372036854775807 < 1 + Q.size + 1 + C.size := by omega
 have l4 : ¬ 9223372036854775807 < 1 + Q.size + 1 + C.size + 1 := by omega
 have HSrc := hid hsrc
 have HZz := hid hzz
 have CU := hid (fun W => utf_any s W (by omega))
 have CL := hid (fun W => letter_any n W)
 have HB0 : Hid (Below w.heap.size w w) := Below.refl _ _
 clear hT hD hP hlS hlow hlC hqd hQ hC hQb hCb hQz hCz hsrc hzz hsz
 go_enter Tryz.func8, Tryz.ntmps8
 go_wp2_with fail
 go_at_call 13
 with_reducible refine (C1.out _ HB0.out).mono ?_
 rintro e w1 ⟨rfl, b1⟩
 have HB1 := hid b1
 clear b1
 go_wp2_with fail
 go_at_call 13
 with_reducible refine (C2.out _ HB1.out).mono ?_
 rintro e w2 ⟨rfl, b2⟩
 have HB2 := hid (Bt HB1.out b2)
 clear b2
 go_wp2_with fail
 go_at_call 13
 with_reducible refine (C3.out _ HB2.out).mono ?_
 rintro e w3 ⟨rfl, b3⟩
 have HB3 := hid (Bt HB2.out b3)
 obtain ⟨c1, W1, hc1, hr1, hbl1⟩ := to_bytes w3 ((⟨#[40]⟩ : ByteArray) ++ Q ++ ⟨#[40]⟩ ++ C ++ ⟨#[41]⟩) (txS (bs s) (chS n)) HSrc.out (by have := HZz.out; omega)
 have HB4 := hid (Bt HB3.out hbl1)
 have CT := hid (tokens_any _ _ _ _ W1 hr1 (HT.out.below HB4.out) (by have := HZz.out; omega))
 unfold ToksPost at CT
 have hlen : (txS (bs s) (chS n)).length <= 65536 := by rw [hr1.len]; have := HZz.out; omega
 have HD4 : Hid (Dg 256 (txS (bs s) (chS n))) := hr1.dg
 generalize ((⟨#[40]⟩ : ByteArray) ++ Q ++ ⟨#[40]⟩ ++ C ++ ⟨#[41]⟩).size = zz at *
 clear b3 hbl1 hr1 C1 C2 C3
 by_cases hv : Vd (bs s)
 ·obtain ⟨I, i1, i2, i3⟩ := letters_of hv
  obtain ⟨d1, d2, d3, d4⟩ := txS_sq i1 (by omega) i2 n
  have hu : ¬ utfN s < 0 := fun h => (utf_vd s).1 h hv
  have ht := eq_text s s
  rw [decide_eq_true rfl] at ht
  cases hb : letB n with
  | true =>
   obtain ⟨T, t1, t2⟩ := sq_ans hlen d1 d2 (d3 hb)
   rw [t1] at CT
   rw [hb] at CL
   have e1 := key_at t2 1 (13, 0, s) rfl
   have e3 := key_at t2 3 (12, n, ⟨#[]⟩) rfl
   have h6 : T.length = 6 := by have := congrArg List.length t2; rw [List.length_map] at this; exact this
   have E1 := hid e1
   have E3 := hid e3
   have t0 : (n == n) = true := by simp
   clear d1 d2 d3 d4 i1 i2 i3 hb t1 t2 hlen hv e1 e3
   go_wp2_with fail
   go_at_call 9
   with_reducible refine CT.out.mono ?_
   rintro e w4 ⟨ao, m, cap, rfl, hTr, b4⟩
   have HB5 := hid (Bt HB4.out b4)
   obtain rfl : m = 6 := by rw [<- hTr.len]; exact h6
   obtain ⟨b, o, rfl, hbl, hcl⟩ := hTr.some (by omega)
   have HBl := hid hbl
   have HCl := hid hcl
   clear b4 CT hTr h6 hc1 hbl hcl
   go_wp2_with fail
   go_at_call 18
   with_reducible refine (CU.out _).mono ?_
   rintro e w5 ⟨rfl, q, rfl⟩
   have HBq : Hid (Below w4.heap.size w4 (w4.drewN q)) := Bd w4 q
   have g1 := (HBq.out.cell (p := ⟨b, o + 1 * 5 + 0, none⟩) HBl.out).trans (HCl.out 1 (by omega) 0 (by omega))
   have g2 := (HBq.out.cell (p := ⟨b, o + 1 * 5 + 2, none⟩) HBl.out).trans (HCl.out 1 (by omega) 2 (by omega))
   have g3 := (HBq.out.cell (p := ⟨b, o + 3 * 5 + 0, none⟩) HBl.out).trans (HCl.out 3 (by omega) 0 (by omega))
   have g4 := (HBq.out.cell (p := ⟨b, o + 3 * 5 + 1, none⟩) HBl.out).trans (HCl.out 3 (by omega) 1 (by omega))
   have E1' := E1.out
   have E3' := E3.out
   obtain ⟨x, hx⟩ : ∃ x, T.getD 1 default = x := ⟨_, rfl⟩
   obtain ⟨y, hy⟩ : ∃ x, T.getD 3 default = x := ⟨_, rfl⟩
   rw [hx] at g1 g2 E1'
   rw [hy] at g3 g4 E3'
   obtain ⟨x1, x2, x3, x4, x5⟩ := x
   obtain ⟨y1, y2, y3, y4, y5⟩ := y
   simp only [ky, Prod.mk.injEq] at E1' E3'
   obtain ⟨rfl, rfl, rfl⟩ := E1'
   obtain ⟨rfl, rfl, rfl⟩ := E3'
   simp only [tc, List.getElem?_cons_zero, List.getElem?_cons_succ] at g1 g2 g3 g4
   have c1 : (w4.drewN q).cell? ⟨b, o + 5, none⟩ = some (.int .i64 13) := g1
   have c2 : (w4.drewN q).cell? ⟨b, o + 5 + 2, none⟩ = some (.string x3) := g2
   have c3 : (w4.drewN q).cell? ⟨b, o + 15, none⟩ = some (.int .i64 12) := g3
   have c4 : (w4.drewN q).cell? ⟨b, o + 15 + 1, none⟩ = some (.int .i64 y2) := g4
   have c5 : (w4.drewN q).cell? ⟨b, o + 7, none⟩ = some (.string x3) := g2
   have c6 : (w4.drewN q).cell? ⟨b, o + 16, none⟩ = some (.int .i64 y2) := g4
   have CW := hid (lawake_any (w4.drewN q) (HT.out.below (Bt HB5.out HBq.out)))
   have HB6 := hid (Bt HB5.out HBq.out)
   clear g1 g2 g3 g4 hx hy HBl HCl E1 E3
   go_wp2_with (first | (go_at_call 19; with_reducible refine (CL.out _).mono ?_; rintro e w6 ⟨rfl, hw6⟩; subst hw6) | (go_at_call 12; with_reducible refine CW.out.mono ?_; rintro e wd ⟨rfl, bd⟩; have HBd := hid (Bt HB6.out bd); clear bd))
   go_ret
   exact ⟨rfl, HBd.out⟩
  | false =>
   obtain ⟨T, t1, t2⟩ := sq_ans hlen d1 d2 (d4 hb)
   rw [t1] at CT
   rw [hb] at CL
   have e1 := key_at t2 1 (13, 0, s) rfl
   have h5 : T.length = 5 := by have := congrArg List.length t2; rw [List.length_map] at this; exact this
   have E1 := hid e1
   clear d1 d2 d3 d4 i1 i2 i3 hb t1 t2 hlen hv e1
   go_wp2_with fail
   go_at_call 9
   with_reducible refine CT.out.mono ?_
   rintro e w4 ⟨ao, m, cap, rfl, hTr, b4⟩
   have HB5 := hid (Bt HB4.out b4)
   obtain rfl : m = 5 := by rw [<- hTr.len]; exact h5
   obtain ⟨b, o, rfl, hbl, hcl⟩ := hTr.some (by omega)
   have HBl := hid hbl
   have HCl := hid hcl
   clear b4 CT hTr h5 hc1 hbl hcl
   go_wp2_with fail
   go_at_call 18
   with_reducible refine (CU.out _).mono ?_
   rintro e w5 ⟨rfl, q, rfl⟩
   have HBq : Hid (Below w4.heap.size w4 (w4.drewN q)) := Bd w4 q
   have g2 := (HBq.out.cell (p := ⟨b, o + 1 * 5 + 2, none⟩) HBl.out).trans (HCl.out 1 (by omega) 2 (by omega))
   have E1' := E1.out
   obtain ⟨x, hx⟩ : ∃ x, T.getD 1 default = x := ⟨_, rfl⟩
   rw [hx] at g2 E1'
   obtain ⟨x1, x2, x3, x4, x5⟩ := x
   simp only [ky, Prod.mk.injEq] at E1'
   obtain ⟨rfl, rfl, rfl⟩ := E1'
   simp only [tc, List.getElem?_cons_zero, List.getElem?_cons_succ] at g2
   have c2 : (w4.drewN q).cell? ⟨b, o + 5 + 2, none⟩ = some (.string x3) := g2
   have c5 : (w4.drewN q).cell? ⟨b, o + 7, none⟩ = some (.string x3) := g2
   have CW := hid (lawake_any (w4.drewN q) (HT.out.below (Bt HB5.out HBq.out)))
   have HB6 := hid (Bt HB5.out HBq.out)
   clear g2 hx HBl HCl E1
   go_wp2_with (first | (go_at_call 19; with_reducible refine (CL.out _).mono ?_; rintro e w6 ⟨rfl, hw6⟩; subst hw6) | (go_at_call 12; with_reducible refine CW.out.mono ?_; rintro e wd ⟨rfl, bd⟩; have HBd := hid (Bt HB6.out bd); clear bd))
   go_ret
   exact ⟨rfl, HBd.out⟩
 ·have hu : utfN s < 0 := (utf_vd s).2 hv
  have hbad : ∃ p : Int, ansM (txS (bs s) (chS n)) = ([], 30, p) := by
   unfold ansM
   rw [if_neg (by omega)]
   cases hb : badM (txS (bs s) (chS n)) with
   | none => exact absurd ((badM_vd HD4.out).1 hb) (txS_bad hv)
   | some p => exact ⟨_, rfl⟩
  obtain ⟨p, hp⟩ := hbad
  rw [hp] at CT
  clear hv hp hlen CL
  go_wp2_with fail
  go_at_call 9
  with_reducible refine CT.out.mono ?_
  rintro e w4 ⟨ao, m, cap, rfl, hTr, b4⟩
  have HB5 := hid (Bt HB4.out b4)
  clear b4 CT hTr hc1
  go_wp2_with fail
  go_at_call 18
  with_reducible refine (CU.out _).mono ?_
  rintro e w5 ⟨rfl, q, rfl⟩
  have HBq : Hid (Below w4.heap.size w4 (w4.drewN q)) := Bd w4 q
  have CW := hid (lawake_any (w4.drewN q) (HT.out.below (Bt HB5.out HBq.out)))
  have HB6 := hid (Bt HB5.out HBq.out)
  go_wp2_with (go_at_call 12; with_reducible refine CW.out.mono ?_; rintro e wd ⟨rfl, bd⟩; have HBd := hid (Bt HB6.out bd); clear bd)
  go_ret
  exact ⟨rfl, HBd.out⟩
end Go.Proofs.YtbkfinjajkjhaaaGreatDoor
