import Derived.Test.YticimejfjjmikaaGreatDoorSL26
set_option linter.unusedVariables false
set_option linter.unusedSimpArgs false
set_option maxRecDepth 100000
namespace Go.Proofs.YticimejfjjmikaaGreatDoor
open Go.RowKit
theorem digs_zero : ∀ f, digs f 0 = []
 | 0 => rfl
 | f + 1 => by simp [digs]
theorem dec_digs (v : Nat) : ∀ f, v <= f -> 0 < v -> (Lib.decDigits v).map UInt8.toNat = ((digs f v).map chr).reverse := by
 induction v using Nat.strongRecOn with
 | _ v ih =>
  intro f hf h0
  obtain ⟨g, rfl⟩ : ∃ g, f = g + 1 := ⟨f - 1, by omega⟩
  have e : digs (g + 1) v = (v % 10) :: digs g (v / 10) := by simp [digs]; omega
  have hc : chr (v % 10) = 48 + v % 10 := by unfold chr; rw [if_pos (by omega)]
  rw [e, List.map_cons, List.reverse_cons, hc]
  by_cases h : v < 10
  ·rw [Lib.decDigits_one h]
   have : v / 10 = 0 := by omega
   rw [this, digs_zero]
   simp
   omega
  ·rw [Lib.decDigits, dif_neg h, List.map_append, ih (v / 10) (by omega) g (by omega) (by omega)]
   congr 1
   simp
   omega
theorem itoa_text (n : Int) : (⟨(Lib.itoa n).toArray⟩ : ByteArray) = textOf (printL (decide (n < 0)) n.natAbs) := by
 have key : ∀ (A : List UInt8) (L : List Nat), A.map UInt8.toNat = L -> A = L.map UInt8.ofNat := fun A L h => by
  rw [<- h, List.map_map]
  have : (UInt8.ofNat ∘ UInt8.toNat) = id := by funext u; simp
  rw [this, List.map_id]
 have h1 : (Lib.itoa n).map UInt8.toNat = printL (decide (n < 0)) n.natAbs := by
  unfold Lib.itoa printL
  by_cases hn : n < 0
  ·have hv : 0 < n.natAbs := by omega
   have hne : digs n.natAbs n.natAbs ≠ [] := (digs_ok _ _ (Nat.le_refl _)).2.2.2 (by omega)
   rw [if_pos hn, if_neg hne, List.map_cons, dec_digs n.natAbs n.natAbs (Nat.le_refl _) hv, decide_eq_true hn]
   rfl
  ·rw [if_neg hn, decide_eq_false hn]
   have e : n.toNat = n.natAbs := by omega
   rw [e]
   by_cases hv : n.natAbs = 0
   ·rw [hv, Lib.decDigits_one (by decide)]; rfl
   ·have hne : digs n.natAbs n.natAbs ≠ [] := (digs_ok _ _ (Nat.le_refl _)).2.2.2 hv
    rw [if_neg hne, dec_digs n.natAbs n.natAbs (Nat.le_refl _) (by omega)]
    rfl
 unfold textOf
 rw [key _ _ h1]
theorem below_grow (w : World) (k : Nat) (os : Array Obj) : Below w.heap.size w (Sort.grow (w.drewN k) os) := by
 refine ⟨rfl, rfl, rfl, ?_, fun b hb => ?_⟩
 ·simp [Sort.grow, World.drewN]
 ·simp [Sort.grow, World.drewN]
  rw [Array.getElem?_append_left hb]
theorem format_any (n : Int) (hn : Z64 n) (w : World) (hT : TabsS w) : Calls Tryz.prog 129 #[.int .i64 n, .int .i64 10] w fun e w' => e = .returned (.string (textOf (printL (decide (n < 0)) n.natAbs))) /\ Below w.heap.size w w' := by
 unfold Z64 at hn
 refine (Any.strconv_FormatInt_10 (P := Tryz.prog) Tryz.laysM173 n hn.1 hn.2 w hT.2).mono ?_
 rintro e w' ⟨rfl, k, os, rfl⟩
 rw [itoa_text]
 exact ⟨rfl, below_grow w k os⟩
theorem word3 {x : Int} (hx : U64 x) (h : nK x = 3) : x = nN x * 8 + 2 /\ 0 <= nN x /\ nN x <= 5 := by
 unfold U64 at hx
 unfold nK nN at *
 unfold ofR at h ⊢
 split at h
 ·rename_i hr
  rw [if_pos hr]
  unfold ofRaw at h hr ⊢
  split at h
  ·cases h
  split at h
  ·cases h
  split at h
  ·rename_i h1 h2 h3
   rw [if_neg h1, if_neg h2, if_pos h3] at hr ⊢
   split at h
   ·rename_i h4
    rw [if_pos h4]
    simp only
    omega
   ·rename_i h4
    split at h <;> simp at h <;> omega
  ·split at h <;> simp at h
 ·cases h
theorem sym_nam (nm : List ByteArray) (x : Int) : symB nm x = (namB nm x && decide ((symT nm x).size ≠ 0)) := by
 unfold symB namB
 rw [textB_6, textB_v _ (.inr rfl)]
 cases decide (nK x = 5) <;> cases decide (nN x < nm.length) <;> simp [Bool.and_comm]
section
variable {B : Nat} {v vn : Value} {N : Int} {os : List Ob} {nm : List ByteArray} {F : Nat -> Prop} {gs : Nat}
set_option maxHeartbeats 8000000 in
theorem plain_is (x : Int) (hx : U64 x) (w : World) (h : PN B v vn N os nm F w) (hs : SB gs v vn w) (hnm : nm.length <= 1000000) (hns : ∀ s ∈ nm, s.size <= 1000000) (hT : TabsS w) :
  Calls Tryz.prog 75 #[.pointer (some ⟨gs, 0, none⟩), .int .u64 x] w fun e w' => e = .returned (bareV (plainD nm x)) /\ Below w.heap.size w w' := by
 have hz := NZ.new w
 have b0 := Ba w (.cells #[.int .i64 0, .int .i64 0, .string ⟨#[]⟩, .slice none 0 0] 54)
 obtain ⟨W0, hW0⟩ : ∃ W, W = w.alloc (.cells #[.int .i64 0, .int .i64 0, .string ⟨#[]⟩, .slice none 0 0] 54) := ⟨_, rfl⟩
 rw [<- hW0] at hz b0
 have HZ := hid hz
 have HB := hid b0
 have CI := hid (int_any x hx W0)
 have CL := hid (letterw_any x hx W0)
 have CN := hid (name_is x hx W0 (h.on b0) (hs.on b0) hnm hns (hT.1.below b0))
 have CP : Hid (∀ W, Calls Tryz.prog 132 #[.int .u64 x] W fun e w' => e = .returned (.tuple #[.int .i64 (hasR 6 x), .bool (isR 6 x)]) /\ w' = W) := fun W => primof_any x hx W
 have CV : Hid (∀ W, Calls Tryz.prog 127 #[] W fun e w' => e = .returned (.agg #[.int .i64 11, .int .i64 0, .string ⟨#[]⟩, .slice none 0 0]) /\ Below W.heap.size W w') := fun W => void_any W
 have fin : Hid (∀ (k m : Int) (W : World) (t0 : ByteArray), Below W0.heap.size W0 W -> NZ w.heap.size W /\ ((((W.setCell ⟨w.heap.size, 0, none⟩ (.int .i64 k)).setCell ⟨w.heap.size, 1, none⟩ (.int .i64 m)).setCell ⟨w.heap.size, 2, none⟩ (.string t0)).setCell ⟨w.heap.size, 3, none⟩ (.slice none 0 0)).heap[w.heap.size]? = some (.cells #[.int .i64 k, .int .i64 m, .string t0, .slice none 0 0] 54 (0, 0)) /\ Below w.heap.size w ((((W.setCell ⟨w.heap.size, 0, none⟩ (.int .i64 k)).setCell ⟨w.heap.size, 1, none⟩ (.int .i64 m)).setCell ⟨w.heap.size, 2, none⟩ (.string t0)).setCell ⟨w.heap.size, 3, none⟩ (.slice none 0 0))) := fun k m W t0 hb =>
  ⟨HZ.out.on hb, store4 (HZ.out.on hb), store4_below (Bt HB.out hb) (Nat.le_refl _)⟩
 have HPD : Hid (plainD nm x = if nK x = 1 then ⟨3, 0, textOf (printL (decide (nN x < 0)) (nN x).natAbs), []⟩
  else if nK x = 3 then (if nN x = 0 then ⟨1, 0, ByteArray.empty, []⟩ else if nN x = 1 \/ nN x = 2 then ⟨2, nN x - 1, ByteArray.empty, []⟩ else if nN x = 3 then ⟨10, 0, ByteArray.empty, []⟩ else voidN)
  else if nK x = 4 then ⟨4, nN x, ByteArray.empty, []⟩
  else if symB nm x = true then ⟨6, 0, symT nm x, []⟩
  else if nK x = 6 then ⟨12, 0, ByteArray.empty, []⟩ else voidN) := rfl
 have i1 : isR 1 x = decide (nK x = 1) := rfl
 have i4 : isR 4 x = decide (nK x = 4) := rfl
 have i6 : isR 6 x = decide (nK x = 6) := rfl
 have h1' : hasR 1 x = if nK x = 1 then nN x else 0 := rfl
 have h4' : hasR 4 x = if nK x = 4 then nN x else 0 := rfl
 rw [i1, h1'] at CI
 rw [i4, h4'] at CL
 rw [i6] at CP
 have HW3 : Hid (nK x = 3 -> x = nN x * 8 + 2 /\ 0 <= nN x /\ nN x <= 5) := word3 hx
 have HNE : Hid (nK x ≠ 3 -> x ≠ 2 /\ x ≠ 10 /\ x ≠ 18 /\ x ≠ 26) := fun h3 => by
  refine ⟨fun e => h3 ?_, fun e => h3 ?_, fun e => h3 ?_, fun e => h3 ?_⟩ <;>(rw [e]; unfold nK; decide)
 have HSN := hid (sym_nam nm x)
 have HFX : Hid (nK x = 1 -> Z64 (nN x)) := fun h1 => by
  have := nK1_fix h1
  unfold fixB at this
  simp only [Bool.and_eq_true, decide_eq_true_eq] at this
  unfold Z64; omega
 have HTT := hid (hT.below b0)
 obtain ⟨hv0, hp0⟩ : ∃ y, y = hasR 6 x := ⟨_, rfl⟩
 rw [<- hp0] at CP
 unfold NamePost at CN
 clear hz b0 h hs i1 i4 i6 h1' h4' hp0
 by_cases k1 : nK x = 1
 ·rw [if_pos k1] at HPD
  rw [if_pos k1, decide_eq_true k1] at CI
  have CF := hid (format_any (nN x) (HFX.out k1) W0 HTT.out)
  obtain ⟨S, hS⟩ : ∃ S, S = textOf (printL (decide (nN x < 0)) (nN x).natAbs) := ⟨_, rfl⟩
  rw [<- hS] at CF HPD
  obtain ⟨y, hy⟩ : ∃ y, y = nN x := ⟨_, rfl⟩
  rw [<- hy] at CI CF
  rw [HPD.out]
  rw [hW0] at CI CF
  clear hS hy k1
  go_enter Tryz.func75, Tryz.ntmps75
  go_wp2_with (first
   | (go_at_call 128; (with_reducible refine CI.out.mono ?_); rintro e W1 ⟨rfl, hw1⟩; rw [hw1]; clear hw1)
   | (go_at_call 129; (with_reducible refine CF.out.mono ?_); rintro e W2 ⟨rfl, b2⟩; rw [<- hW0] at b2; obtain ⟨hz2, q1, q2⟩ := fin.out 3 0 W2 S b2; obtain ⟨c0, c1, c2, c3, f0, f1, f2, f3⟩ := hz2.c; have t0 := blk_cell q1 0; have t1 := blk_cell q1 1; have t2 := blk_cell q1 2; have t3 := blk_cell q1 3; have HQ2 := hid q2; clear b2 hz2 q1 q2))
  (try simp only [Exit.inBlock, Exit.then]); refine bodyPost_ret (by simp [results, Tryz.results75, go_sem, t0, t1, t2, t3]; rfl) rfl ?_
  exact ⟨rfl, HQ2.out⟩
 rw [if_neg k1] at HPD
 rw [if_neg k1, decide_eq_false k1] at CI
 by_cases k4 : nK x = 4
 ·rw [if_neg (by omega), if_pos k4] at HPD
  rw [if_pos k4, decide_eq_true k4] at CL
  obtain ⟨y, hy⟩ : ∃ y, y = nN x := ⟨_, rfl⟩
  rw [<- hy] at CL HPD
  rw [HPD.out]
  have hst := blk_new w #[.int .i64 4, .int .i64 y, .string ⟨#[]⟩, .slice none 0 0] 54
  have t0 := blk_cell hst 0
  have t1 := blk_cell hst 1
  have t2 := blk_cell hst 2
  have t3 := blk_cell hst 3
  have HB5 := hid (Ba w (.cells #[.int .i64 4, .int .i64 y, .string ⟨#[]⟩, .slice none 0 0] 54))
  rw [hW0] at CI CL
  clear hst hy k1 k4
  go_enter Tryz.func75, Tryz.ntmps75
  go_wp2_with (first
   | (go_at_call 128; (with_reducible refine CI.out.mono ?_); rintro e W1 ⟨rfl, hw1⟩; rw [hw1]; clear hw1)
   | (go_at_call 130; (with_reducible refine CL.out.mono ?_); rintro e W1 ⟨rfl, hw1⟩; rw [hw1]; clear hw1))
  (try simp only [Exit.inBlock, Exit.then]); refine bodyPost_ret (by simp [results, Tryz.results75, go_sem, t0, t1, t2, t3]; rfl) rfl ?_
  exact ⟨rfl, HB5.out⟩
 rw [if_neg k4, decide_eq_false k4] at CL
 have hes : ∀ t : ByteArray, (t.toList == (⟨#[]⟩ : ByteArray).toList) = decide (t = ⟨#[]⟩) := fun t => str_eq t ⟨#[]⟩
 have hem : ∀ t : ByteArray, t.size = 0 -> t = ⟨#[]⟩ := fun t h => by
  apply ByteArray.ext
  exact Array.eq_empty_of_size_eq_zero h
 by_cases hsy : symB nm x = true
 ·have hnb : namB nm x = true /\ (symT nm x).size ≠ 0 := by
   rw [HSN.out, Bool.and_eq_true, decide_eq_true_eq] at hsy; exact hsy
  have k5 : nK x = 5 := by
   have := hnb.1
   unfold namB at this
   rw [Bool.and_eq_true, decide_eq_true_eq] at this
   exact this.1
  rw [if_neg (by omega), if_neg k4, if_pos hsy] at HPD
  rw [hnb.1] at CN
  obtain ⟨S, hS⟩ : ∃ S, S = symT nm x := ⟨_, rfl⟩
  rw [<- hS] at CN HPD hnb
  have hSe : (S.toList == (⟨#[]⟩ : ByteArray).toList) = false := by rw [hes]; exact decide_eq_false (fun e => hnb.2 (by rw [e]; rfl))
  have hSl : S.toList ≠ [] := fun e => by
   rw [Lib.toList_data] at e
   have h9 : S.data.size = 0 := by rw [<- Array.length_toList, e]; rfl
   exact hnb.2 h9
  have hS1 : (S.toList == []) = false := by simpa using hSl
  have hS2 : S.toList.isEmpty = false := by simpa using hSl
  rw [HPD.out]
  rw [hW0] at CI CL CN
  clear hS hsy hnb k1 k4 k5 hes hem
  go_enter Tryz.func75, Tryz.ntmps75
  go_wp2_with (first
   | (go_at_call 128; (with_reducible refine CI.out.mono ?_); rintro e W1 ⟨rfl, hw1⟩; rw [hw1]; clear hw1)
   | (go_at_call 130; (with_reducible refine CL.out.mono ?_); rintro e W1 ⟨rfl, hw1⟩; rw [hw1]; clear hw1)
   | (go_at_call 131; (with_reducible refine CN.out.mono ?_); rintro e W3 ⟨t, rfl, ht, b3⟩; rw [<- hW0] at b3; rw [ht (by trivial)]; obtain ⟨hz2, q1, q2⟩ := fin.out 6 0 W3 S b3; obtain ⟨c0, c1, c2, c3, f0, f1, f2, f3⟩ := hz2.c; have t0 := blk_cell q1 0; have t1 := blk_cell q1 1; have t2 := blk_cell q1 2; have t3 := blk_cell q1 3; have HQ2 := hid q2; clear hz2 q1 q2; clear ht; clear b3))
  (try simp only [Exit.inBlock, Exit.then]); refine bodyPost_ret (by simp [results, Tryz.results75, go_sem, t0, t1, t2, t3]; rfl) rfl ?_
  exact ⟨rfl, HQ2.out⟩
 have HNB : Hid (namB nm x = false \/ (namB nm x = true /\ symT nm x = ⟨#[]⟩)) := by
  unfold Hid
  cases hb : namB nm x
  ·exact .inl rfl
  ·refine .inr ⟨rfl, hem _ ?_⟩
   rw [HSN.out, hb, Bool.true_and, decide_eq_true_eq] at hsy
   omega
 have e2 : ∀ c : Int, x ≠ c -> (x == c) = false := fun c h => by simpa using h
 rcases HNB.out with hnb | ⟨hnb, hemp⟩
 ·rw [hnb] at CN
  by_cases k6 : nK x = 6
  ·rw [if_neg (by omega), if_neg k4, if_neg hsy, if_pos k6] at HPD
   rw [decide_eq_true k6] at CP
   rw [HPD.out]
   rw [hW0] at CI CL CN
   clear k1 k4 k6 hes hem hsy hnb HNB e2
   go_enter Tryz.func75, Tryz.ntmps75
   go_wp2_with (first
    | (go_at_call 128; (with_reducible refine CI.out.mono ?_); rintro e W1 ⟨rfl, hw1⟩; rw [hw1]; clear hw1)
    | (go_at_call 130; (with_reducible refine CL.out.mono ?_); rintro e W1 ⟨rfl, hw1⟩; rw [hw1]; clear hw1)
    | (go_at_call 131; (with_reducible refine CN.out.mono ?_); rintro e W3 ⟨t, rfl, ht, b3⟩; rw [<- hW0] at b3; have HB3 := hid b3; obtain ⟨hz2, q1, q2⟩ := fin.out 12 0 W3 ⟨#[]⟩ b3; obtain ⟨c0, c1, c2, c3, f0, f1, f2, f3⟩ := hz2.c; have t0 := blk_cell q1 0; have t1 := blk_cell q1 1; have t2 := blk_cell q1 2; have t3 := blk_cell q1 3; have HQ2 := hid q2; clear hz2 q1 q2; clear ht; clear b3)
    | (go_at_call 132; (with_reducible refine (CP.out _).mono ?_); rintro e W4 ⟨rfl, hw4⟩; rw [hw4]; clear hw4))
   (try simp only [Exit.inBlock, Exit.then]); refine bodyPost_ret (by simp [results, Tryz.results75, go_sem, t0, t1, t2, t3]; rfl) rfl ?_
   exact ⟨rfl, HQ2.out⟩
  rw [decide_eq_false k6] at CP
  by_cases k3 : nK x = 3
  ·rw [if_pos k3] at HPD
   obtain ⟨hx8, hlo, hhi⟩ := HW3.out k3
   obtain ⟨y, hy⟩ : ∃ y, y = nN x := ⟨_, rfl⟩
   rw [<- hy] at HPD hx8 hlo hhi
   clear hy k1 k4 k6 k3 hes hem hsy hnb HNB HNE HW3 HSN HFX
   by_cases h0 : y = 0
   ·have hxe : x = 2 := by omega
    subst hxe
    subst h0
    have hpd : plainD nm 2 = ⟨1, 0, ByteArray.empty, []⟩ := HPD.out
    rw [hpd]
    rw [hW0] at CI CL CN
    clear hpd hx8 hlo hhi
    go_enter Tryz.func75, Tryz.ntmps75
    go_wp2_with (first
     | (go_at_call 128; (with_reducible refine CI.out.mono ?_); rintro e W1 ⟨rfl, hw1⟩; rw [hw1]; clear hw1)
     | (go_at_call 130; (with_reducible refine CL.out.mono ?_); rintro e W1 ⟨rfl, hw1⟩; rw [hw1]; clear hw1)
     | (go_at_call 131; (with_reducible refine CN.out.mono ?_); rintro e W3 ⟨t, rfl, ht, b3⟩; rw [<- hW0] at b3; have HB3 := hid b3; obtain ⟨hz2, q1, q2⟩ := fin.out 1 0 W3 ⟨#[]⟩ b3; obtain ⟨c0, c1, c2, c3, f0, f1, f2, f3⟩ := hz2.c; have t0 := blk_cell q1 0; have t1 := blk_cell q1 1; have t2 := blk_cell q1 2; have t3 := blk_cell q1 3; have HQ2 := hid q2; clear hz2 q1 q2; clear ht; clear b3)
     | (go_at_call 132; (with_reducible refine (CP.out _).mono ?_); rintro e W4 ⟨rfl, hw4⟩; rw [hw4]; clear hw4))
    (try simp only [Exit.inBlock, Exit.then]); refine bodyPost_ret (by simp [results, Tryz.results75, go_sem, t0, t1, t2, t3]; rfl) rfl ?_
    exact ⟨rfl, HQ2.out⟩
   by_cases h1 : y = 1
   ·have hxe : x = 10 := by omega
    subst hxe
    subst h1
    have hpd : plainD nm 10 = ⟨2, 0, ByteArray.empty, []⟩ := HPD.out
    rw [hpd]
    rw [hW0] at CI CL CN
    clear hpd hx8 hlo hhi
    go_enter Tryz.func75, Tryz.ntmps75
    go_wp2_with (first
     | (go_at_call 128; (with_reducible refine CI.out.mono ?_); rintro e W1 ⟨rfl, hw1⟩; rw [hw1]; clear hw1)
     | (go_at_call 130; (with_reducible refine CL.out.mono ?_); rintro e W1 ⟨rfl, hw1⟩; rw [hw1]; clear hw1)
     | (go_at_call 131; (with_reducible refine CN.out.mono ?_); rintro e W3 ⟨t, rfl, ht, b3⟩; rw [<- hW0] at b3; have HB3 := hid b3; obtain ⟨hz2, q1, q2⟩ := fin.out 2 0 W3 ⟨#[]⟩ b3; obtain ⟨c0, c1, c2, c3, f0, f1, f2, f3⟩ := hz2.c; have t0 := blk_cell q1 0; have t1 := blk_cell q1 1; have t2 := blk_cell q1 2; have t3 := blk_cell q1 3; have HQ2 := hid q2; clear hz2 q1 q2; clear ht; clear b3)
     | (go_at_call 132; (with_reducible refine (CP.out _).mono ?_); rintro e W4 ⟨rfl, hw4⟩; rw [hw4]; clear hw4))
    (try simp only [Exit.inBlock, Exit.then]); refine bodyPost_ret (by simp [results, Tryz.results75, go_sem, t0, t1, t2, t3]; rfl) rfl ?_
    exact ⟨rfl, HQ2.out⟩
   by_cases h2 : y = 2
   ·have hxe : x = 18 := by omega
    subst hxe
    subst h2
    have hpd : plainD nm 18 = ⟨2, 1, ByteArray.empty, []⟩ := HPD.out
    rw [hpd]
    rw [hW0] at CI CL CN
    clear hpd hx8 hlo hhi
    go_enter Tryz.func75, Tryz.ntmps75
    go_wp2_with (first
     | (go_at_call 128; (with_reducible refine CI.out.mono ?_); rintro e W1 ⟨rfl, hw1⟩; rw [hw1]; clear hw1)
     | (go_at_call 130; (with_reducible refine CL.out.mono ?_); rintro e W1 ⟨rfl, hw1⟩; rw [hw1]; clear hw1)
     | (go_at_call 131; (with_reducible refine CN.out.mono ?_); rintro e W3 ⟨t, rfl, ht, b3⟩; rw [<- hW0] at b3; have HB3 := hid b3; obtain ⟨hz2, q1, q2⟩ := fin.out 2 1 W3 ⟨#[]⟩ b3; obtain ⟨c0, c1, c2, c3, f0, f1, f2, f3⟩ := hz2.c; have t0 := blk_cell q1 0; have t1 := blk_cell q1 1; have t2 := blk_cell q1 2; have t3 := blk_cell q1 3; have HQ2 := hid q2; clear hz2 q1 q2; clear ht; clear b3)
     | (go_at_call 132; (with_reducible refine (CP.out _).mono ?_); rintro e W4 ⟨rfl, hw4⟩; rw [hw4]; clear hw4))
    (try simp only [Exit.inBlock, Exit.then]); refine bodyPost_ret (by simp [results, Tryz.results75, go_sem, t0, t1, t2, t3]; rfl) rfl ?_
    exact ⟨rfl, HQ2.out⟩
   by_cases h3 : y = 3
   ·have hxe : x = 26 := by omega
    subst hxe
    subst h3
    have hpd : plainD nm 26 = ⟨10, 0, ByteArray.empty, []⟩ := HPD.out
    rw [hpd]
    rw [hW0] at CI CL CN
    clear hpd hx8 hlo hhi
    go_enter Tryz.func75, Tryz.ntmps75
    go_wp2_with (first
     | (go_at_call 128; (with_reducible refine CI.out.mono ?_); rintro e W1 ⟨rfl, hw1⟩; rw [hw1]; clear hw1)
     | (go_at_call 130; (with_reducible refine CL.out.mono ?_); rintro e W1 ⟨rfl, hw1⟩; rw [hw1]; clear hw1)
     | (go_at_call 131; (with_reducible refine CN.out.mono ?_); rintro e W3 ⟨t, rfl, ht, b3⟩; rw [<- hW0] at b3; have HB3 := hid b3; obtain ⟨hz2, q1, q2⟩ := fin.out 10 0 W3 ⟨#[]⟩ b3; obtain ⟨c0, c1, c2, c3, f0, f1, f2, f3⟩ := hz2.c; have t0 := blk_cell q1 0; have t1 := blk_cell q1 1; have t2 := blk_cell q1 2; have t3 := blk_cell q1 3; have HQ2 := hid q2; clear hz2 q1 q2; clear ht; clear b3)
     | (go_at_call 132; (with_reducible refine (CP.out _).mono ?_); rintro e W4 ⟨rfl, hw4⟩; rw [hw4]; clear hw4))
    (try simp only [Exit.inBlock, Exit.then]); refine bodyPost_ret (by simp [results, Tryz.results75, go_sem, t0, t1, t2, t3]; rfl) rfl ?_
    exact ⟨rfl, HQ2.out⟩
   have hpd : plainD nm x = voidN := by rw [HPD.out, if_neg h0, if_neg (by omega), if_neg h3]
   rw [hpd]
   have d1 := e2 2 (by omega)
   have d2 := e2 10 (by omega)
   have d3 := e2 18 (by omega)
   have d4 := e2 26 (by omega)
   rw [hW0] at CI CL CN
   clear hpd hx8 hlo hhi h0 h1 h2 h3 HPD e2
   go_enter Tryz.func75, Tryz.ntmps75
   go_wp2_with (first
    | (go_at_call 128; (with_reducible refine CI.out.mono ?_); rintro e W1 ⟨rfl, hw1⟩; rw [hw1]; clear hw1)
    | (go_at_call 130; (with_reducible refine CL.out.mono ?_); rintro e W1 ⟨rfl, hw1⟩; rw [hw1]; clear hw1)
    | (go_at_call 131; (with_reducible refine CN.out.mono ?_); rintro e W3 ⟨t, rfl, ht, b3⟩; rw [<- hW0] at b3; have HB3 := hid b3; clear ht; clear b3)
    | (go_at_call 132; (with_reducible refine (CP.out _).mono ?_); rintro e W4 ⟨rfl, hw4⟩; rw [hw4]; clear hw4)
    | (go_at_call 127; (with_reducible refine (CV.out _).mono ?_); rintro e W5 ⟨rfl, b5⟩; have HB5 := hid (HB3.out.trans (b5.mono HB3.out.size)); obtain ⟨hz2, q1, q2⟩ := fin.out 11 0 W5 ⟨#[]⟩ HB5.out; obtain ⟨c0, c1, c2, c3, f0, f1, f2, f3⟩ := hz2.c; have t0 := blk_cell q1 0; have t1 := blk_cell q1 1; have t2 := blk_cell q1 2; have t3 := blk_cell q1 3; have HQ2 := hid q2; clear hz2 q1 q2; clear b5))
   (try simp only [Exit.inBlock, Exit.then]); refine bodyPost_ret (by simp [results, Tryz.results75, go_sem, t0, t1, t2, t3]; rfl) rfl ?_
   exact ⟨rfl, HQ2.out⟩
  ·rw [if_neg k3, if_neg k4, if_neg hsy, if_neg k6] at HPD
   obtain ⟨n1, n2, n3, n4⟩ := HNE.out k3
   have d1 := e2 2 n1
   have d2 := e2 10 n2
   have d3 := e2 18 n3
   have d4 := e2 26 n4
   rw [HPD.out]
   rw [hW0] at CI CL CN
   clear k1 k4 k6 k3 hes hem hsy hnb HNB e2 n1 n2 n3 n4
   go_enter Tryz.func75, Tryz.ntmps75
   go_wp2_with (first
    | (go_at_call 128; (with_reducible refine CI.out.mono ?_); rintro e W1 ⟨rfl, hw1⟩; rw [hw1]; clear hw1)
    | (go_at_call 130; (with_reducible refine CL.out.mono ?_); rintro e W1 ⟨rfl, hw1⟩; rw [hw1]; clear hw1)
    | (go_at_call 131; (with_reducible refine CN.out.mono ?_); rintro e W3 ⟨t, rfl, ht, b3⟩; rw [<- hW0] at b3; have HB3 := hid b3; clear ht; clear b3)
    | (go_at_call 132; (with_reducible refine (CP.out _).mono ?_); rintro e W4 ⟨rfl, hw4⟩; rw [hw4]; clear hw4)
    | (go_at_call 127; (with_reducible refine (CV.out _).mono ?_); rintro e W5 ⟨rfl, b5⟩; have HB5 := hid (HB3.out.trans (b5.mono HB3.out.size)); obtain ⟨hz2, q1, q2⟩ := fin.out 11 0 W5 ⟨#[]⟩ HB5.out; obtain ⟨c0, c1, c2, c3, f0, f1, f2, f3⟩ := hz2.c; have t0 := blk_cell q1 0; have t1 := blk_cell q1 1; have t2 := blk_cell q1 2; have t3 := blk_cell q1 3; have HQ2 := hid q2; clear hz2 q1 q2; clear b5))
   (try simp only [Exit.inBlock, Exit.then]); refine bodyPost_ret (by simp [results, Tryz.results75, go_sem, t0, t1, t2, t3]; rfl) rfl ?_
   exact ⟨rfl, HQ2.out⟩
 ·have k5 : nK x = 5 := by
   unfold namB at hnb
   rw [Bool.and_eq_true, decide_eq_true_eq] at hnb
   exact hnb.1
  rw [if_neg (by omega), if_neg k4, if_neg hsy, if_neg (by omega)] at HPD
  rw [decide_eq_false (show ¬ nK x = 6 by omega)] at CP
  rw [hnb] at CN
  rw [hemp] at CN
  obtain ⟨n1, n2, n3, n4⟩ := HNE.out (by omega)
  have d1 := e2 2 n1
  have d2 := e2 10 n2
  have d3 := e2 18 n3
  have d4 := e2 26 n4
  rw [HPD.out]
  rw [hW0] at CI CL CN
  clear k1 k4 k5 hes hem hsy hnb hemp HNB e2 n1 n2 n3 n4
  go_enter Tryz.func75, Tryz.ntmps75
  go_wp2_with (first
   | (go_at_call 128; (with_reducible refine CI.out.mono ?_); rintro e W1 ⟨rfl, hw1⟩; rw [hw1]; clear hw1)
   | (go_at_call 130; (with_reducible refine CL.out.mono ?_); rintro e W1 ⟨rfl, hw1⟩; rw [hw1]; clear hw1)
   | (go_at_call 131; (with_reducible refine CN.out.mono ?_); rintro e W3 ⟨t, rfl, ht, b3⟩; rw [<- hW0] at b3; rw [ht (by trivial)]; have HB3 := hid b3; clear ht; clear b3)
   | (go_at_call 132; (with_reducible refine (CP.out _).mono ?_); rintro e W4 ⟨rfl, hw4⟩; rw [hw4]; clear hw4)
   | (go_at_call 127; (with_reducible refine (CV.out _).mono ?_); rintro e W5 ⟨rfl, b5⟩; have HB5 := hid (HB3.out.trans (b5.mono HB3.out.size)); obtain ⟨hz2, q1, q2⟩ := fin.out 11 0 W5 ⟨#[]⟩ HB5.out; obtain ⟨c0, c1, c2, c3, f0, f1, f2, f3⟩ := hz2.c; have t0 := blk_cell q1 0; have t1 := blk_cell q1 1; have t2 := blk_cell q1 2; have t3 := blk_cell q1 3; have HQ2 := hid q2; clear hz2 q1 q2; clear b5))
  (try simp only [Exit.inBlock, Exit.then]); refine bodyPost_ret (by simp [results, Tryz.results75, go_sem, t0, t1, t2, t3]; rfl) rfl ?_
  exact ⟨rfl, HQ2.out⟩
end
theorem nam_zero (nm : List ByteArray) : namB nm 0 = false := by
 unfold namB
 rw [decide_eq_false (by unfold nK; decide), Bool.false_and]
theorem rec_get (os : List Ob) (nm : List ByteArray) (x : Int) : namB nm (getM os x 13 0).1 = recB os nm x /\ (recB os nm x = true -> symT nm (getM os x 13 0).1 = recT os nm x) := by
 have hno : ∀ e : Int, e ≠ 0 -> fieldM os x 13 0 = (0, e) -> getM os x 13 0 = (0, e) := fun e he hf => by
  unfold getM
  rw [hf, if_neg he]
 cases hf : findM os x with
 | none =>
  have e1 : fieldM os x 13 0 = (0, 70) := by unfold fieldM; rw [hf]
  have e2 : recB os nm x = false := by unfold recB; rw [hf]
  rw [hno 70 (by decide) e1, e2]
  exact ⟨nam_zero nm, fun h => by cases h⟩
 | some k =>
  have hr : recB os nm x = (decide ((os.getD k default).kind = 13) && (decide (0 < (os.getD k default).f.length) && namB nm ((os.getD k default).f.getD 0 0))) := by unfold recB; rw [hf]
  have ht : recT os nm x = symT nm ((os.getD k default).f.getD 0 0) := by unfold recT; rw [hf]
  have hfm : fieldM os x 13 0 = if (13 : Int) ≠ 0 /\ (os.getD k default).kind ≠ 13 then (0, 70) else if (0 : Int) < 0 \/ ((os.getD k default).f.length : Int) <= 0 then (0, 2) else ((k : Int), 0) := by unfold fieldM; rw [hf]
  by_cases hk : (os.getD k default).kind = 13
  ·rw [if_neg (fun h => h.2 hk)] at hfm
   by_cases hl : 0 < (os.getD k default).f.length
   ·rw [if_neg (by omega)] at hfm
    have e1 : getM os x 13 0 = ((os.getD k default).f.getD 0 0, 0) := by
     unfold getM
     rw [hfm, if_pos rfl]
     simp
    rw [e1, hr, ht, decide_eq_true hk, decide_eq_true hl]
    exact ⟨by simp, fun _ => rfl⟩
   ·rw [if_pos (by omega)] at hfm
    rw [hno 2 (by decide) hfm, hr, decide_eq_true hk, decide_eq_false hl]
    exact ⟨by rw [nam_zero]; rfl, fun h => by simp at h⟩
  ·rw [if_pos ⟨by decide, hk⟩] at hfm
   rw [hno 70 (by decide) hfm, hr, decide_eq_false hk]
   exact ⟨by rw [nam_zero]; rfl, fun h => by simp at h⟩
def recNd (os : List Ob) (nm : List ByteArray) (f : List Int) : Nd := if (decide (0 < f.length) && recB os nm (f.getD 0 0)) = true then ⟨15, 0, recT os nm (f.getD 0 0), f.drop 1⟩ else voidN
section
variable {B : Nat} {v vn : Value} {N : Int} {os : List Ob} {nm : List ByteArray} {F : Nat -> Prop} {gs : Nat}
theorem getM_u (ho : OsOk os) (x k i : Int) : U64 (getM os x k i).1 := by
 unfold getM
 split
 ·rename_i h
  obtain ⟨n, e1, e2, _, _, h4⟩ := fieldM_ok h
  rw [e1]
  simp only [Int.toNat_natCast]
  exact ho.uf _ (getD_in_os e2) _ (getD_in_f (by omega))
 ·show U64 0
  exact ⟨by decide, by decide⟩
set_option maxHeartbeats 8000000 in
theorem record_is (ao : Option Addr) (n cap : Nat) (f : List Int) (w : World) (R : URow w ao n cap f) (hn : n <= 5000000) (h : PN B v vn N os nm F w) (hs : SB gs v vn w) (hnm : nm.length <= 1000000) (hns : ∀ s ∈ nm, s.size <= 1000000) (hT : TabsS w) :
  Calls Tryz.prog 126 #[.pointer (some ⟨gs, 0, none⟩), .slice ao n cap] w (KPost (recNd os nm f) ao w) := by
 have hl := R.len
 have hft := R.fits
 have hmx := R.most
 unfold maxLen at hmx
 have HR := hid R
 have hz := NZ.new w
 have b0 := Ba w (.cells #[.int .i64 0, .int .i64 0, .string ⟨#[]⟩, .slice none 0 0] 54)
 have CV : Hid (∀ W, Calls Tryz.prog 127 #[] W fun e w' => e = .returned (.agg #[.int .i64 11, .int .i64 0, .string ⟨#[]⟩, .slice none 0 0]) /\ Below W.heap.size W w') := fun W => void_any W
 have HND : Hid (recNd os nm f = if (decide (0 < f.length) && recB os nm (f.getD 0 0)) = true then ⟨15, 0, recT os nm (f.getD 0 0), f.drop 1⟩ else voidN) := rfl
 obtain ⟨W0, hW0⟩ : ∃ W, W = w.alloc (.cells #[.int .i64 0, .int .i64 0, .string ⟨#[]⟩, .slice none 0 0] 54) := ⟨_, rfl⟩
 rw [<- hW0] at hz b0
 have HZ := hid hz
 have HB := hid b0
 have fin : Hid (∀ (k : Int) (W : World) (t0 : ByteArray), Below W0.heap.size W0 W -> NZ w.heap.size W /\ ((((W.setCell ⟨w.heap.size, 0, none⟩ (.int .i64 k)).setCell ⟨w.heap.size, 1, none⟩ (.int .i64 0)).setCell ⟨w.heap.size, 2, none⟩ (.string t0)).setCell ⟨w.heap.size, 3, none⟩ (.slice none 0 0)).heap[w.heap.size]? = some (.cells #[.int .i64 k, .int .i64 0, .string t0, .slice none 0 0] 54 (0, 0)) /\ Below w.heap.size w ((((W.setCell ⟨w.heap.size, 0, none⟩ (.int .i64 k)).setCell ⟨w.heap.size, 1, none⟩ (.int .i64 0)).setCell ⟨w.heap.size, 2, none⟩ (.string t0)).setCell ⟨w.heap.size, 3, none⟩ (.slice none 0 0))) := fun k W t0 hb =>
  ⟨HZ.out.on hb, store4 (HZ.out.on hb), store4_below (Bt HB.out hb) (Nat.le_refl _)⟩
 by_cases h0 : n = 0
 ·subst h0
  have hv : recNd os nm f = voidN := by rw [HND.out, decide_eq_false (by omega), Bool.false_and]; rfl
  rw [hv]
  clear hv HND R hz b0 h hs
  go_enter Tryz.func126, Tryz.ntmps126
  go_wp2_with (go_at_call 127; (with_reducible refine (CV.out _).mono ?_); rintro e W1 ⟨rfl, b1⟩; rw [<- hW0] at b1; obtain ⟨hz2, q1, q2⟩ := fin.out 11 W1 ⟨#[]⟩ b1; obtain ⟨c0, c1, c2, c3, f0, f1, f2, f3⟩ := hz2.c; have t0 := blk_cell q1 0; have t1 := blk_cell q1 1; have t2 := blk_cell q1 2; have t3 := blk_cell q1 3; have HQ2 := hid q2; clear b1 hz2 q1 q2)
  (try simp only [Exit.inBlock, Exit.then]); refine bodyPost_ret (by simp [results, Tryz.results126, go_sem, t0, t1, t2, t3]; rfl) rfl ?_
  exact KPost.void HQ2.out
 have hn0 : 0 < n := by omega
 have e0 : ((n : Int) == 0) = false := by simp; omega
 rw [decide_eq_true (show 0 < f.length by omega), Bool.true_and] at HND
 obtain ⟨b, o, rfl, hlb, hc⟩ := R.some (by omega)
 have hx0 := R.bd _ (getD_in_f (l := f) (i := 0) (by omega))
 have s0 := (hs.on b0).1
 have c0 : W0.cell? ⟨b, o, none⟩ = some (.int .u64 (f.getD 0 0)) := by
  have := hc 0 (by omega)
  rw [Nat.add_zero] at this
  rw [b0.cell (p := ⟨b, o, none⟩) hlb]; exact this
 have bd0 := Bt b0 (below_drew W0)
 have CG := hid ((h.on bd0).get (f.getD 0 0) 13 0 hx0 (by unfold Z64; omega) (by unfold Z64; omega))
 have hgu := getM_u h.fine (f.getD 0 0) 13 0
 obtain ⟨r1, r2⟩ := rec_get os nm (f.getD 0 0)
 have CN : Hid (∀ W, Below w.heap.size w W -> Calls Tryz.prog 131 #[.pointer (some ⟨gs, 0, none⟩), .int .u64 (getM os (f.getD 0 0) 13 0).1] W fun e w' => ∃ t, e = .returned (.tuple #[.string t, .bool (recB os nm (f.getD 0 0))]) /\ (recB os nm (f.getD 0 0) = true -> t = recT os nm (f.getD 0 0)) /\ Below W.heap.size W w') := fun W hb => by
  refine (name_is (getM os (f.getD 0 0) 13 0).1 hgu W (h.on hb) (hs.on hb) hnm hns (hT.1.below hb)).mono ?_
  rintro e w' ⟨t, rfl, ht, hb'⟩
  rw [r1] at ht ⊢
  exact ⟨t, rfl, fun e => (ht e).trans (r2 e), hb'⟩
 have HTL := hid (tail_row R hn0)
 have htr := fun wx => tail_run (some ⟨b, o, none⟩) n cap hn0 wx
 obtain ⟨ta, hta⟩ : ∃ a, a = tailA (some ⟨b, o, none⟩) cap := ⟨_, rfl⟩
 rw [<- hta] at HTL htr
 obtain ⟨x0, hx0e⟩ : ∃ x, x = f.getD 0 0 := ⟨_, rfl⟩
 rw [<- hx0e] at c0 CG CN HND
 obtain ⟨y0, hy0⟩ : ∃ x, x = (getM os x0 13 0).1 := ⟨_, rfl⟩
 obtain ⟨y1, hy1⟩ : ∃ x, x = (getM os x0 13 0).2 := ⟨_, rfl⟩
 rw [<- hy0] at CG CN
 rw [<- hy1] at CG
 obtain ⟨gh, gp, rfl, rfl⟩ := h.ptrs
 rw [hW0] at s0 c0 CG
 obtain ⟨rb, hrb⟩ : ∃ b, b = recB os nm x0 := ⟨_, rfl⟩
 rw [<- hrb] at CN HND
 obtain ⟨S, hS⟩ : ∃ S, S = recT os nm x0 := ⟨_, rfl⟩
 rw [<- hS] at CN HND
 have HW0 := hid hW0
 clear R hz b0 h hs hc hx0 bd0 hgu r1 r2 hta hx0e hy0 hy1 hrb hS hW0 h0
 have HDR : Hid (∀ W, Below (w.alloc (.cells #[.int .i64 0, .int .i64 0, .string ⟨#[]⟩, .slice none 0 0] 54)).drew.heap.size (w.alloc (.cells #[.int .i64 0, .int .i64 0, .string ⟨#[]⟩, .slice none 0 0] 54)).drew W -> Below W0.heap.size W0 W) := fun W hb => by
  rw [<- HW0.out] at hb
  exact Bt (below_drew W0) hb
 cases rb
 ·have hv : recNd os nm f = voidN := HND.out
  rw [hv]
  clear hv HND htr
  go_enter Tryz.func126, Tryz.ntmps126
  go_wp2_with fail
  go_region_with (go_at_call 156; (with_reducible refine CG.out.mono ?_); rintro e W1 ⟨rfl, b1⟩; have HB1 := hid (HDR.out W1 b1); clear b1)
  all_goals
   have C2 := hid (CN.out W1 (Bt HB.out HB1.out))
   clear s0 c0
   go_wp2_with (first
    | (go_at_call 131; (with_reducible refine C2.out.mono ?_); rintro e W3 ⟨t, rfl, ht, b3⟩; have HB3 := hid (HB1.out.trans (b3.mono HB1.out.size)); clear b3 ht)
    | (go_at_call 127; (with_reducible refine (CV.out _).mono ?_); rintro e W5 ⟨rfl, b5⟩; have HB5 := hid (HB3.out.trans (b5.mono HB3.out.size)); obtain ⟨hz2, q1, q2⟩ := fin.out 11 W5 ⟨#[]⟩ HB5.out; obtain ⟨c0, c1, c2, c3, f0, f1, f2, f3⟩ := hz2.c; have t0 := blk_cell q1 0; have t1 := blk_cell q1 1; have t2 := blk_cell q1 2; have t3 := blk_cell q1 3; have HQ2 := hid q2; clear b5 hz2 q1 q2))
   (try simp only [Exit.inBlock, Exit.then]); refine bodyPost_ret (by simp [results, Tryz.results126, go_sem, t0, t1, t2, t3]; rfl) rfl ?_
   exact KPost.void HQ2.out
 ·have hv : recNd os nm f = ⟨15, 0, S, f.drop 1⟩ := HND.out
  rw [hv]
  clear hv HND
  go_enter Tryz.func126, Tryz.ntmps126
  go_wp2_with fail
  go_region_with (go_at_call 156; (with_reducible refine CG.out.mono ?_); rintro e W1 ⟨rfl, b1⟩; have HB1 := hid (HDR.out W1 b1); clear b1)
  all_goals
   have C2 := hid (CN.out W1 (Bt HB.out HB1.out))
   clear s0 c0
   go_wp2_with (go_at_call 131; (with_reducible refine C2.out.mono ?_); rintro e W3 ⟨t, rfl, ht, b3⟩; rw [ht (by trivial)]; have HB3 := hid (HB1.out.trans (b3.mono HB1.out.size)); obtain ⟨hz2, q1, q2⟩ := fin.out 15 W3 S HB3.out; obtain ⟨c0, c1, c2, c3, f0, f1, f2, f3⟩ := hz2.c; have t0 := blk_cell q1 0; have t1 := blk_cell q1 1; have t2 := blk_cell q1 2; have t3 := blk_cell q1 3; have HQ2 := hid q2; clear b3 hz2 q1 q2 ht)
   go_region
   all_goals
    clear c0 c1 c2 c3 f0 f1 f2 f3 htr
    go_wp2_with fail
    (try simp only [Exit.inBlock, Exit.then]); refine bodyPost_ret (by simp [results, Tryz.results126, go_sem, t0, t1, t2, t3]; rfl) rfl ?_
    exact ⟨ta, n - 1, cap - 1, rfl, HTL.out.1.on (Bt HQ2.out (below_drew _)), HTL.out.2, Bt HQ2.out (below_drew _)⟩
end
end Go.Proofs.YticimejfjjmikaaGreatDoor
