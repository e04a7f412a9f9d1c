import Derived.Test.YtdekkieajffblaaGreatDoorG5
import Derived.Test.YtdekkieajffblaaGreatDoorW13
import Derived.Test.YtdekkieajffblaaGreatDoorG10
import Derived.Test.YtdekkieajffblaaGreatDoorX1
import Derived.Test.YtdekkieajffblaaGreatDoorSG3
import Derived.Test.YtdekkieajffblaaGreatDoorSG2
import Derived.Test.YtdekkieajffblaaGreatDoorX3
set_option linter.unusedVariables false
set_option linter.unusedSimpArgs false
namespace Go.Proofs.YtdekkieajffblaaGreatDoor
open Go.RowKit
theorem dgt_chr {d : Nat} (h : d < 36) : dgt (chr d) = d := by
 unfold dgt chr
 by_cases h1 : d < 10
 ·rw [if_pos h1, if_pos (by omega)]; omega
 ·rw [if_neg h1, if_neg (by omega), if_pos (by omega)]; omega
theorem hv_rev (radix : Nat) : ∀ {D : List Nat}, (∀ x ∈ D, x < 36) -> hv radix ((D.map chr).reverse) = val radix D
 | [], _ => rfl
 | d :: D, h => by
  rw [List.map_cons, List.reverse_cons, hv_snoc, hv_rev radix (fun x hx => h x (by simp [hx])), dgt_chr (h d (by simp)), val_cons, Nat.mul_comm]
  omega
def body (D : List Nat) : List Nat := if D = [] then [48] else (D.map chr).reverse
theorem body_val {radix : Nat} {D : List Nat} (h : Dg radix D) (hr : radix <= 36) : hv radix (body D) = val radix D := by
 unfold body
 by_cases hD : D = []
 ·subst hD; simp [hv, dgt, val]
 ·rw [if_neg hD]; exact hv_rev radix (fun x hx => by have := h x hx; omega)
theorem body_digits {radix : Nat} {D : List Nat} (h : Dg radix D) (h2 : 2 <= radix) (hr : radix <= 36) : ∀ c ∈ body D, dgt c < radix := by
 unfold body
 by_cases hD : D = []
 ·subst hD
  intro c hc
  simp at hc
  subst hc
  simp [dgt]; omega
 ·rw [if_neg hD]
  intro c hc
  rw [List.mem_reverse] at hc
  obtain ⟨d, hd, rfl⟩ := List.mem_map.1 hc
  have := h d hd
  rw [dgt_chr (by omega)]; exact this
theorem body_ne (D : List Nat) : body D ≠ [] := by
 unfold body
 by_cases hD : D = []
 ·simp [hD]
 ·simp [hD]
theorem cutS_sg {l : List Nat} {c : Nat} {r : List Nat} (h : l = c :: r) (hc : c = 43 \/ c = 45) : cutS l = (decide (c = 45), r) := by
 subst h; simp [cutS, hc]
theorem cutS_none {radix : Nat} {l : List Nat} (h : ∀ c ∈ l, dgt c < radix) (hr : radix <= 36) : cutS l = (false, l) := by
 cases l with
 | nil => rfl
 | cons c r =>
  have hc := h c (by simp)
  have : ¬ (c = 43 \/ c = 45) := by
   rintro (rfl | rfl) <;> simp [dgt] at hc <;> omega
  simp [cutS, this]
theorem small_good {neg : Bool} {l : List Nat} (hd : Dg B32 l) (hg : goodB neg l = true) : ¬ Big (val B32 l) := by
 unfold Big
 have h1 := val_lt hd
 have h2 : B32 ^ l.length <= B32 ^ 40 := Nat.pow_le_pow_right (by decide) (goodB_len hg)
 omega
set_option maxRecDepth 100000
def mgF : Nat -> Nat -> List Nat
 | 0, _ => []
 | f + 1, v => if v = 0 then [] else (v % B32) :: mgF f (v / B32)
def mg (v : Nat) : List Nat := mgF v v
theorem mgF_ok : ∀ f v, v <= f -> Dg B32 (mgF f v) /\ Tr (mgF f v) /\ val B32 (mgF f v) = v /\ (v ≠ 0 -> mgF f v ≠ [])
 | 0, v, h => by
  obtain rfl : v = 0 := by omega
  exact ⟨Dg.nil _, Tr.nil, rfl, fun h => absurd rfl h⟩
 | f + 1, v, h => by
  have hB : B32 = 4294967296 := rfl
  by_cases hv : v = 0
  ·subst hv; simp [mgF, val]; exact ⟨Dg.nil _, Tr.nil⟩
  ·obtain ⟨h1, h2, h3, h4⟩ := mgF_ok f (v / B32) (by rw [hB]; omega)
   have e : mgF (f + 1) v = (v % B32) :: mgF f (v / B32) := by simp [mgF, hv]
   rw [e]
   refine ⟨fun x hx => ?_, .inr ?_, ?_, fun _ => by simp⟩
   ·rcases List.mem_cons.1 hx with rfl | hx
    ·rw [hB]; omega
    ·exact h1 x hx
   ·by_cases h0 : v / B32 = 0
    ·have : mgF f (v / B32) = [] := by rw [h0]; cases f <;> simp [mgF]
     rw [this]; simp; rw [hB] at h0 ⊢; omega
    ·have hne := h4 h0
     have := h2.resolve_left hne
     obtain ⟨n, hn⟩ : ∃ n, (mgF f (v / B32)).length = n + 1 := ⟨(mgF f (v / B32)).length - 1, by have := List.length_pos_iff.2 hne; omega⟩
     rw [List.length_cons, hn]
     rw [hn] at this
     simpa using this
   ·rw [val_cons, h3, hB]; omega
theorem mg_is {l : List Nat} {v : Nat} (hd : Dg B32 l) (ht : Tr l) (hv : val B32 l = v) : l = mg v := by
 obtain ⟨h1, h2, h3, _⟩ := mgF_ok v v (Nat.le_refl _)
 exact digits_unique (by decide) hd h1 ht h2 (hv.trans h3.symm)
def FixPost (z : Int) (w : World) (e : Ending) (w' : World) : Prop := ∃ v, e = .returned (.tuple #[.int .i64 v, .bool (fixB z)]) /\ (fixB z = true -> v = z) /\ Below w.heap.size w w'
theorem fixed_any (neg : Bool) (ao : Option Addr) (n cap : Nat) (l : List Nat) (w : World) (R : Row .u32 B32 w ao n cap l) (g : goodB neg l = true) :
  Calls Tryz.prog 9 #[.agg #[.bool neg, .slice ao n cap]] w fun e w' => FixPost (sgn neg (val B32 l)) w e w' := by
 have b0 := Ba w (.cells #[.bool neg, .slice ao n cap] 24)
 have C := hid (rto_any neg ao n cap l (w.alloc (.cells #[.bool neg, .slice ao n cap] 24)) (R.below b0) g)
 unfold ToPost at C
 have hx := blk_new w #[.bool neg, .slice ao n cap] 24
 have c0 : (w.alloc (.cells #[.bool neg, .slice ao n cap] 24)).cell? ⟨w.heap.size, 0, none⟩ = some (.bool neg) := blk_cell hx 0
 have c1 : (w.alloc (.cells #[.bool neg, .slice ao n cap] 24)).cell? ⟨w.heap.size, 1, none⟩ = some (.slice ao n cap) := blk_cell hx 1
 have HB := hid b0
 obtain ⟨z, hz⟩ : ∃ z, z = sgn neg (val B32 l) := ⟨_, rfl⟩
 rw [<- hz] at C ⊢
 clear R g hx b0 hz
 by_cases hf : fits z = true
 ·rw [hf] at C
  obtain ⟨h1, h2⟩ := of_decide_eq_true hf
  clear hf
  by_cases k1 : -1152921504606846976 <= z
  ·by_cases k2 : z < 1152921504606846976
   ·have HFX : Hid (fixB z = true) := by unfold Hid fixB; rw [decide_eq_true k1, decide_eq_true k2]; rfl
    go_enter Tryz.func9, Tryz.ntmps9
    go_wp2_with (go_at_call 21; (with_reducible refine C.out.mono ?_); rintro e W1 ⟨v, rfl, hv, b1⟩; rw [hv rfl]; have HB1 := hid (Bt HB.out b1); clear b1 hv)
    go_ret2
    unfold FixPost; rw [HFX.out]; exact ⟨_, rfl, fun _ => rfl, HB1.out⟩
   ·have HFX : Hid (fixB z = false) := by unfold Hid fixB; rw [decide_eq_false k2]; simp
    have k2d : decide (z < 1152921504606846976) = false := decide_eq_false k2
    go_enter Tryz.func9, Tryz.ntmps9
    go_wp2_with (go_at_call 21; (with_reducible refine C.out.mono ?_); rintro e W1 ⟨v, rfl, hv, b1⟩; rw [hv rfl]; have HB1 := hid (Bt HB.out b1); clear b1 hv)
    go_ret2
    unfold FixPost; rw [HFX.out]; exact ⟨_, rfl, fun h => (by cases h), HB1.out⟩
  ·have HFX : Hid (fixB z = false) := by unfold Hid fixB; rw [decide_eq_false k1]; simp
   have k1d : decide (-1152921504606846976 <= z) = false := decide_eq_false k1
   go_enter Tryz.func9, Tryz.ntmps9
   go_wp2_with (go_at_call 21; (with_reducible refine C.out.mono ?_); rintro e W1 ⟨v, rfl, hv, b1⟩; rw [hv rfl]; have HB1 := hid (Bt HB.out b1); clear b1 hv)
   go_ret2
   unfold FixPost; rw [HFX.out]; exact ⟨_, rfl, fun h => (by cases h), HB1.out⟩
 ·have hf' : fits z = false := by simpa using hf
  rw [hf'] at C
  have HFX : Hid (fixB z = false) := by
   unfold Hid fixB
   have := of_decide_eq_false hf'
   by_cases k1 : -1152921504606846976 <= z
   ·rw [decide_eq_true k1, decide_eq_false (by omega)]; rfl
   ·rw [decide_eq_false k1]; rfl
  clear hf hf'
  go_enter Tryz.func9, Tryz.ntmps9
  go_wp2_with (go_at_call 21; (with_reducible refine C.out.mono ?_); rintro e W1 ⟨v, rfl, hv, b1⟩; have HB1 := hid (Bt HB.out b1); clear b1 hv)
  go_ret2
  unfold FixPost; rw [HFX.out]; exact ⟨_, rfl, fun h => (by cases h), HB1.out⟩
theorem digs_nil {v : Nat} (h : digs v v = []) : v = 0 := by
 have := (digs_ok v v (Nat.le_refl _)).2.2.2
 exact Classical.byContradiction (fun e => this e h)
theorem printL_body (neg : Bool) (v : Nat) (hn : neg = true -> v ≠ 0) : printL neg v = (if neg then [45] else []) ++ body (digs v v) := by
 unfold printL body
 by_cases e : digs v v = []
 ·rw [if_pos e, if_pos e]
  cases neg
  ·rfl
  ·exact absurd (digs_nil e) (hn rfl)
 ·rw [if_neg e, if_neg e]
theorem printL_cut (neg : Bool) (v : Nat) (hn : neg = true -> v ≠ 0) : cutS (printL neg v) = (neg, body (digs v v)) := by
 have hd := (digs_ok v v (Nat.le_refl _)).1
 rw [printL_body neg v hn]
 cases neg
 ·exact cutS_none (radix := 10) (body_digits hd (by omega) (by omega)) (by omega)
 ·exact cutS_sg (c := 45) rfl (.inr rfl)
theorem printL_lt (neg : Bool) (v : Nat) : ∀ x ∈ printL neg v, x < 256 := by
 have hd := (digs_ok v v (Nat.le_refl _)).1
 intro x hx
 unfold printL at hx
 split at hx
 ·rw [List.mem_singleton.1 hx]; omega
 ·rcases List.mem_append.1 hx with hx | hx
  ·cases neg
   ·cases hx
   ·rw [List.mem_singleton.1 hx]; omega
  ·rw [List.mem_reverse] at hx
   obtain ⟨d, hd', rfl⟩ := List.mem_map.1 hx
   exact chr_lt (Nat.lt_of_lt_of_le (hd d hd') (by omega))
theorem printed_ok {neg : Bool} {v : Nat} (hn : neg = true -> v ≠ 0) (hv40 : v < B32 ^ 40) : printedB (textOf (printL neg v)) = true := by
 obtain ⟨hd, ht, hval, _⟩ := digs_ok v v (Nat.le_refl _)
 have h10 : ∀ c ∈ body (digs v v), dgt c < 10 := body_digits hd (by omega) (by omega)
 have hbv : hv 10 (body (digs v v)) = v := by rw [body_val hd (by omega), hval]
 unfold printedB
 rw [bs_textOf (printL_lt neg v), printL_cut neg v hn]
 simp only
 rw [hbv]
 have e1 : digitsB 10 (body (digs v v)) = true := by
  have := digitsB_of (rx := 10) (l := body (digs v v)) (List.length_pos_iff.2 (body_ne _)) (fun j hj => h10 _ (by
   rw [List.getD_eq_getElem?_getD, List.getElem?_eq_getElem hj]; exact List.getElem_mem hj))
  exact this
 have e2 : (neg && decide (v ≠ 0)) = neg := by
  cases neg
  ·rfl
  ·rw [decide_eq_true (hn rfl)]; rfl
 rw [e1, e2, decide_eq_true hv40, decide_eq_true rfl]; rfl
theorem ofR_rt {x : Int} (h : nK x ≠ 0) : rightB (nK x) (nN x) (ofR x).2.2 = true := by
 unfold nK nN at *
 unfold ofR at *
 split
 ·assumption
 ·rename_i hr
  rw [if_neg hr] at h
  exact absurd rfl h
theorem nK4_let {x : Int} (h : nK x = 4) : letB (nN x) = true := by
 have := ofR_rt (x := x) (by omega)
 rw [h] at this
 have e : ltrB (nN x) = true := by
  unfold rightB at this
  simp only [show ¬ ((4 : Int) = 1) by decide, show ¬ ((4 : Int) = 2) by decide, show ¬ ((4 : Int) = 3) by decide, if_false, if_true, Bool.and_eq_true] at this
  exact this.2
 exact e
theorem nK1_fix {x : Int} (h : nK x = 1) : fixB (nN x) = true := by
 have := ofR_rt (x := x) (by omega)
 rw [h] at this
 exact this
theorem fix_lt {z : Int} (h : fixB z = true) : z.natAbs < B32 ^ 40 := by
 unfold fixB at h
 rw [Bool.and_eq_true, decide_eq_true_eq, decide_eq_true_eq] at h
 have h1 : z.natAbs < B32 ^ 2 := by
  have : B32 ^ 2 = 18446744073709551616 := by decide
  omega
 exact Nat.lt_of_lt_of_le h1 (Nat.pow_le_pow_right (by decide) (by omega))
theorem neg_nz {z : Int} : decide (z < 0) = true -> z.natAbs ≠ 0 := fun h => by have := of_decide_eq_true h; omega
theorem okD_mk {d : Nd} (h1 : 1 <= d.kind /\ d.kind <= 17) (h2 : numB d.kind d.num = true) (h3 : textB d.kind d.text = true) (h4 : countB d.kind d.kids.length = true) : okD d = true := by
 unfold okD
 rw [decide_eq_true h1.1, decide_eq_true h1.2, h2, h3, h4]; rfl
theorem ok_void : okD voidN = true := okD_mk (by unfold voidN; simp) rfl rfl rfl
theorem ok_bare {k : Int} (h : k = 1 \/ k = 10 \/ k = 12 \/ k = 14 \/ k = 17) : okD ⟨k, 0, ByteArray.empty, []⟩ = true := by
 rcases h with rfl | rfl | rfl | rfl | rfl <;> exact okD_mk (by simp) rfl (by first | rfl | decide) rfl
theorem lrT_spelt {f : List Int} (h : f.all lrB = true) : ∃ l : List Nat, l.length = f.length /\ (∀ c ∈ l, letB (c : Int) = true) /\ (textOf (lrT f)).data.toList = spelt l := by
 have hall : ∀ x ∈ f, letB (nN x) = true := fun x hx => nK4_let (by
  have := List.all_eq_true.1 h x hx
  unfold lrB at this
  exact of_decide_eq_true this)
 have hnn : ∀ x ∈ f, ((nN x).toNat : Int) = nN x := fun x hx => by
  have := hall x hx
  unfold letB at this
  simp only [Bool.and_eq_true, decide_eq_true_eq] at this
  omega
 refine ⟨f.map (fun x => (nN x).toNat), by rw [List.length_map], fun c hc => ?_, ?_⟩
 ·obtain ⟨x, hx, rfl⟩ := List.mem_map.1 hc
  rw [hnn x hx]; exact hall x hx
 ·have e1 : bs (textOf (lrT f)) = lrT f := bs_textOf (fun y hy => by
   unfold lrT at hy
   obtain ⟨x, _, hx⟩ := List.mem_flatMap.1 hy
   exact bs_byte _ y hx)
  have e2 : (spelt (f.map (fun x => (nN x).toNat))).map UInt8.toNat = lrT f := by
   unfold spelt lrT bs
   rw [List.flatMap_map, List.map_flatMap]
   rw [List.flatMap_def, List.flatMap_def]
   refine congrArg List.flatten (List.map_congr_left (fun x hx => ?_))
   show ((Utf8.encode (((nN x).toNat : Nat) : Int)).data.toList).map UInt8.toNat = ((Utf8.encode (nN x)).data.toList).map UInt8.toNat
   rw [hnn x hx]
  have e3 : (textOf (lrT f)).data.toList.map UInt8.toNat = (spelt (f.map (fun x => (nN x).toNat))).map UInt8.toNat := e1.trans e2.symm
  exact List.map_inj_right (fun a b e => UInt8.toNat_inj.1 e) |>.1 e3
theorem ok_word (os : List Ob) (nm : List ByteArray) (x : Int) : okD (wordD os nm x) = true := by
 have hsym : ∀ y, symB nm y = true -> textB 6 (symT nm y) = true := fun y h => by
  unfold symB at h
  rw [Bool.and_eq_true, Bool.and_eq_true] at h
  exact h.2.2
 unfold wordD
 split
 ·rename_i k hk
  generalize (os.getD k default).kind = kd
  generalize (os.getD k default).f = f
  by_cases k1 : kd = 1
  ·subst k1
   rw [objD_1]
   split
   ·rename_i h; exact okD_mk (by simp) rfl rfl (by show countB 7 f.length = true; rw [countB_2 _ (.inl rfl)]; exact decide_eq_true h)
   ·exact ok_void
  by_cases k2 : kd = 2
  ·subst k2
   rw [objD_2]
   split
   ·rename_i h; exact okD_mk (by simp) rfl rfl (by show countB 8 f.length = true; rw [countB_8]; exact decide_eq_true h)
   ·exact ok_void
  by_cases k3 : kd = 3
  ·subst k3
   rw [objD_3]
   split
   ·rename_i h
    rw [Bool.and_eq_true, decide_eq_true_eq] at h
    obtain ⟨l, hl, hlet, hsp⟩ := lrT_spelt h.1
    refine okD_mk (by simp) rfl ?_ rfl
    show textB 5 (textOf (lrT f)) = true
    rw [textB_5, hsp, spelt_valid hlet, spelt_count hlet hsp, hl, decide_eq_true h.2]; rfl
   ·exact ok_void
  by_cases k4 : kd = 4
  ·subst k4
   rw [objD_4]
   split
   ·rename_i h
    rw [Bool.and_eq_true, decide_eq_true_eq] at h
    refine okD_mk (by simp) rfl ?_ rfl
    show textB 9 (textOf (byT f)) = true
    rw [textB_9]
    have : (textOf (byT f)).size = f.length := by
     show ((byT f).map UInt8.ofNat).toArray.size = f.length
     simp [byT]
    rw [this]; exact decide_eq_true h.2
   ·exact ok_void
  by_cases k5 : kd = 5
  ·subst k5
   rw [objD_5]
   split
   ·rename_i h
    refine okD_mk (by simp) rfl ?_ rfl
    show textB 3 _ = true
    rw [textB_3]
    unfold bigB at h
    simp only [Bool.and_eq_true] at h
    obtain ⟨h1, h2, h3, h4, h5⟩ := h
    have hdg : Dg B32 (numMag f) := fun y hy => by
     unfold numMag at hy
     obtain ⟨z, hz, rfl⟩ := List.mem_map.1 hy
     have := List.all_eq_true.1 h2 z (List.mem_of_mem_drop hz)
     unfold limbB at this
     simp only [Bool.and_eq_true, decide_eq_true_eq] at this
     show (nN z).toNat < B32
     unfold B32; omega
    have hb := small_good hdg h4
    refine printed_ok (fun hn => ?_) (by unfold Big at hb; omega)
    have h0 : numMag f ≠ [] := fun e => by have := goodB_neg h4 (by rw [e]; rfl); rw [hn] at this; cases this
    exact (goodB_tr h4).ne_zero (B := B32) (by decide) h0
   ·exact ok_void
  by_cases k12 : kd = 12
  ·subst k12
   rw [objD_12]
   split
   ·rename_i h
    unfold condB at h
    simp only [Bool.and_eq_true, decide_eq_true_eq] at h
    refine okD_mk (by simp) ?_ rfl ?_
    ·show numB 13 _ = true
     rw [numB_13, decide_eq_true h.2.2.1, decide_eq_true h.2.2.2]; rfl
    ·show countB 13 (f.drop 1).length = true
     rw [countB_2 _ (.inr rfl), List.length_drop, h.1]; rfl
   ·exact ok_void
  by_cases k14 : kd = 14
  ·subst k14
   rw [objD_14]
   split
   ·rename_i h
    refine okD_mk (by simp) rfl ?_ (countB_t _ (.inl rfl))
    show textB 15 (recT os nm (f.getD 0 0)) = true
    rw [Bool.and_eq_true] at h
    have h2 := h.2
    unfold recB at h2
    unfold recT
    split at h2
    ·rename_i k' hk'
     rw [Bool.and_eq_true, Bool.and_eq_true] at h2
     have := h2.2.2
     unfold namB at this
     rw [Bool.and_eq_true, Bool.and_eq_true] at this
     exact this.2.2
    ·cases h2
   ·exact ok_void
  rw [objD_o k1 k2 k3 k4 k5 k12 k14]
  split
  ·exact ok_bare (by omega)
  split
  ·exact ok_bare (by omega)
  split
  ·exact okD_mk (by simp) rfl rfl (countB_t _ (.inr rfl))
  split
  ·exact okD_mk (by simp) rfl (by show textB 15 recordT = true; rw [textB_v _ (.inr rfl)]; decide) rfl
  split
  ·exact okD_mk (by simp) rfl (by show textB 15 tableT = true; rw [textB_v _ (.inr rfl)]; decide) rfl
  split
  ·exact ok_bare (by omega)
  ·exact ok_void
 ·unfold plainD
  split
  ·rename_i h
   refine okD_mk (by simp) rfl ?_ rfl
   show textB 3 _ = true
   rw [textB_3]
   exact printed_ok neg_nz (fix_lt (nK1_fix h))
  split
  ·split
   ·exact ok_bare (by omega)
   split
   ·rename_i h
    refine okD_mk (by simp) ?_ rfl rfl
    show numB 2 (nN x - 1) = true
    rw [numB_2]
    rcases h with h | h <;> rw [h] <;> rfl
   split
   ·exact ok_bare (by omega)
   ·exact ok_void
  split
  ·rename_i h
   refine okD_mk (by simp) ?_ rfl rfl
   show numB 4 (nN x) = true
   rw [numB_4]; exact nK4_let h
  split
  ·rename_i h
   exact okD_mk (by simp) rfl (hsym x h) rfl
  split
  ·exact ok_bare (by omega)
  ·exact ok_void
theorem slice_form {w : World} {base : Nat} {e : TypeId} {k : Nat} {v : Value} {n : Nat} {xs : List Value} (h : w.ownsRow base e k v n xs) : ∃ a c, v = .slice a n c /\ n <= c /\ c <= 9223372036854775807 := by
 rcases h.2 with ⟨e1, e2⟩ | ⟨g, cap, cur, e1, _, _, h4, h5, _⟩
 ·subst e2; exact ⟨none, 0, e1, Nat.le_refl _, by omega⟩
 ·unfold maxLen at h5; exact ⟨_, _, e1, h4, h5⟩
def bigL (neg : Bool) (l : List Nat) : List Int := wordR 1 (if neg then 1 else 0) 0 :: l.map (fun x => wordR 1 (x : Nat) 0)
theorem bigL_take (neg : Bool) {l : List Nat} {q : Nat} (h : q < l.length) : bigL neg (l.take (q + 1)) = bigL neg (l.take q) ++ [wordR 1 (l.getD q 0 : Nat) 0] := by
 unfold bigL
 rw [List.take_succ_eq_append_getElem h, List.map_append, List.cons_append, List.getD_eq_getElem?_getD, List.getElem?_eq_getElem h]; rfl
theorem bigL_len (neg : Bool) (l : List Nat) : (bigL neg l).length = l.length + 1 := by simp [bigL]
theorem bigL_u (neg : Bool) (l : List Nat) : ∀ z ∈ bigL neg l, U64 z := by
 intro z hz
 unfold bigL at hz
 rcases List.mem_cons.1 hz with rfl | hz
 ·exact wordR_rng _ _ _
 ·obtain ⟨x, _, rfl⟩ := List.mem_map.1 hz; exact wordR_rng _ _ _
theorem own_one {w W : World} {z : Int} (hb : Below w.heap.size w W) : (W.alloc (.cells #[.int .u64 z] 32)).ownsRow w.heap.size 32 1 (.slice (some ⟨W.heap.size, 0, none⟩) 1 1) 1 (uz [z]) :=
 ⟨rfl, .inr ⟨W.heap.size, 1, #[.int .u64 z], rfl, hb.size, blk_new _ _ _, Nat.le_refl _, by unfold maxLen; omega, rfl, rfl⟩⟩
theorem iz_get {l : List Int} {i : Nat} (h : i < l.length) : (iz l)[i]? = some (.int .i64 (l.getD i 0)) := by
 unfold iz; rw [List.getElem?_map, List.getD_eq_getElem?_getD, List.getElem?_eq_getElem h]; rfl
theorem irow_own {w : World} {B : Nat} {e : TypeId} {v : Value} {l : List Int} (h : w.ownsRow B e 1 v l.length (iz l)) (hb : ∀ z ∈ l, I64 z) : ∃ ao cap, v = .slice ao l.length cap /\ IRow w ao l.length cap l := by
 rcases h.2 with ⟨rfl, h0⟩ | ⟨g, cap, cur, rfl, h2, h3, h4, h5, h6, h7⟩
 ·have : l = [] := List.length_eq_zero_iff.1 h0
  subst this
  exact ⟨none, 0, rfl, rfl, Nat.le_refl _, by unfold maxLen; omega, fun _ => rfl, hb, .inl rfl⟩
 ·refine ⟨some ⟨g, 0, none⟩, cap, rfl, rfl, h4, h5, fun e => (by cases e), hb, .inr ⟨g, 0, rfl, (Array.getElem?_eq_some_iff.1 h3).1, fun i hi => ?_⟩⟩
  rw [Nat.zero_add, blk_cell h3]
  have : cur[i]? = (iz l)[i]? := by rw [<- h7, List.getElem?_take, if_pos (by omega)]; simp
  rw [this, iz_get hi]
end Go.Proofs.YtdekkieajffblaaGreatDoor
