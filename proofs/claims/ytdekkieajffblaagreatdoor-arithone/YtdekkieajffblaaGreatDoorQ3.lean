import Derived.Test.YtdekkieajffblaaGreatDoorV9d
import Derived.Test.YtdekkieajffblaaGreatDoorSG2
import Derived.Test.YtdekkieajffblaaGreatDoorX3
import Derived.Deep.LoopGhost
import Derived.Deep.RegionWith
set_option linter.unusedVariables false
set_option linter.unusedSimpArgs false
set_option maxRecDepth 100000
namespace Go.Proofs.YtdekkieajffblaaGreatDoor
open Go.RowKit
def NewP (n : Int) (w : World) (e : Ending) (w' : World) : Prop := if n < 1 \/ 4194304 < n then e = .returned (.tuple #[.pointer none, .int .i64 1]) /\ w' = w else ∃ v F, e = .returned (.tuple #[v, .int .i64 0]) /\ PH w.heap.size v n [] F w' /\ Below w.heap.size w w'
set_option maxHeartbeats 4000000 in
theorem pnew_is (n : Int) (hn : Z64 n) (w : World) : Calls Tryz.prog 6 #[.int .i64 n] w fun e w' => NewP n w e w' := by
 by_cases h1 : n < 1
 ·go_enter Tryz.func6, Tryz.ntmps6
  go_wp2
  go_ret2
  unfold NewP
  rw [if_pos (.inl h1)]
  exact ⟨rfl, rfl⟩
 by_cases h2 : 4194304 < n
 ·go_enter Tryz.func6, Tryz.ntmps6
  go_wp2
  go_ret2
  unfold NewP
  rw [if_pos (.inr h2)]
  exact ⟨rfl, rfl⟩
 ·obtain ⟨k, rfl⟩ : ∃ k : Nat, n = (k : Int) := ⟨n.toNat, by omega⟩
  have hmk := fun wx => run_make_row' (P := Tryz.prog) 51 32 (.int .u64 0) 8 Tryz.underlying51 info_word rfl .i64 .i64 k (by omega) (by omega) wx
  clear hn
  go_enter Tryz.func6, Tryz.ntmps6
  go_wp2
  go_ret2
  unfold NewP
  rw [if_neg (by omega)]
  obtain ⟨W1, hW1⟩ : ∃ W, W = w.alloc (.cells (madeCells #[.int .u64 0] k) 32) := ⟨_, rfl⟩
  rw [<- hW1]
  have b1 : Below w.heap.size w W1 := by rw [hW1]; exact Ba _ _
  have r1 : W1.heap[w.heap.size]? = some (.cells (madeCells #[.int .u64 0] k) 32 (0, 0)) := by rw [hW1]; exact blk_new _ _ _
  have s1 : W1.heap.size = w.heap.size + 1 := by rw [hW1, size_alloc]
  have em : madeCells #[.int .u64 0] k = (uz ([] ++ List.replicate k 0)).toArray := by
   rw [<- Array.toArray_toList (xs := madeCells #[.int .u64 0] k), toList_madeCells_one]; simp [uz]
  refine ⟨.pointer (some ⟨w.heap.size + 1, 0, none⟩), fun b => b = W1.heap.size \/ b = w.heap.size, rfl, ⟨⟨W1.heap.size, w.heap.size, k, List.replicate k 0, by rw [s1], ?_, rfl, ?_, by simp, by omega, by omega, Nat.le_refl _, fun b => Iff.rfl⟩, by simp; omega, fun z hz => by cases hz⟩, Bt b1 (Ba _ _)⟩
  ·exact blk_new _ _ _
  ·rw [<- em]; exact ((Ba W1 _).block w.heap.size (by omega)).trans r1
theorem pnew_any (n : Int) (hn : Z64 n) (w : World) :
  Calls Tryz.prog 6 #[.int .i64 n] w fun e w' => if n < 1 \/ 4194304 < n then e = .returned (.tuple #[.pointer none, .int .i64 1]) /\ w' = w else ∃ v F, e = .returned (.tuple #[v, .int .i64 0]) /\ PH w.heap.size v n [] F w' /\ Below w.heap.size w w' := pnew_is n hn w
section
variable {B : Nat} {v : Value} {N : Int} {F : Nat -> Prop} {os : List Ob}
theorem ph_used {w : World} (h : PH B v N (wordsL os) F w) : usedL os <= 4194304 := by
 have hbd := h.bd
 rw [wordsL_length] at hbd
 omega
end
structure HE (B : Nat) (v : Value) (N : Int) (os : List Ob) (F : Nat -> Prop) (w : World) : Prop where
 ph : PH B v N (wordsL os) F w
 fine : OsOk os
def stM (os : List Ob) (a b : Int) : Int := if (kindM os a).1 = (kindM os b).1 then (kindM os a).1 else 0
section
variable {B : Nat} {v : Value} {N : Int} {os : List Ob} {F : Nat -> Prop} {w w' : World}
theorem HE.on (h : HE B v N os F w) (hb : Below w.heap.size w w') : HE B v N os F w' := ⟨h.ph.keep (fun b e => hb.block b (h.ph.ge b e).2), h.fine⟩
theorem HE.used (h : HE B v N os F w) : usedL os <= 4194304 := ph_used h.ph
theorem gete_at {p : Int} {k : Nat} (hf : findM os p = some k) {i : Nat} (hi : i < (os.getD k default).f.length) : getM os p 0 (i : Nat) = ((os.getD k default).f.getD i 0, 0) := by
 have e : fieldM os p 0 (i : Nat) = ((k : Int), 0) := by
  unfold fieldM
  rw [hf]
  simp only
  rw [if_neg (by simp), if_neg (by omega)]
 unfold getM
 rw [e, if_pos rfl]
 simp
theorem gete_u (ho : OsOk os) (x k i : Int) : U64 (getM os x k i).1 := by
 unfold getM
 split
 ·rename_i h
  obtain ⟨n, e1, e2, _, _, h4⟩ := fieldM_ok h
  rw [e1]
  simp only [Int.toNat_natCast]
  exact ho.uf _ (getD_in_os e2) _ (getD_in_f (by omega))
 ·show U64 0
  exact ⟨by decide, by decide⟩
theorem get_out {p : Int} {k : Nat} (hf : findM os p = some k) {i : Nat} (hi : (os.getD k default).f.length <= i) : getM os p 0 (i : Nat) = (0, 2) := by
 have e : fieldM os p 0 (i : Nat) = (0, 2) := by
  unfold fieldM
  rw [hf]
  simp only
  rw [if_neg (by simp), if_pos (by omega)]
 unfold getM
 rw [e, if_neg (by decide)]
theorem getM_nh (ho : OsOk os) (x k i : Int) (h : (getM os x k i).2 = 0) : isR 8 (getM os x k i).1 = false := by
 unfold getM at h ⊢
 split at h
 ·rename_i h0
  rw [if_pos h0]
  obtain ⟨n, e1, e2, _, _, h4⟩ := fieldM_ok h0
  rw [e1]
  simp only [Int.toNat_natCast]
  exact ho.nh _ (getD_in_os e2) _ (getD_in_f (by omega))
 ·rename_i h0; exact absurd h h0
theorem efield_any (p i : Int) (hp : U64 p) (hi : Z64 i) (w : World) (h : HE B v N os F w) : Calls Tryz.prog 89 #[v, .int .u64 p, .int .i64 i] w fun e w' => e = .returned (.tuple #[.int .u64 (getM os p 0 i).1, .bool (decide ((getM os p 0 i).2 = 0))]) /\ Below w.heap.size w w' := by
 have C := hid (pget_any h.fine p 0 i hp (by unfold Z64; omega) hi w h.ph)
 have hu := gete_u h.fine p 0 i
 have hn := getM_nh h.fine p 0 i
 obtain ⟨gh, rfl⟩ := h.ph.ptr
 obtain ⟨z, hz⟩ : ∃ z, z = (getM os p 0 i).1 := ⟨_, rfl⟩
 obtain ⟨er, her⟩ : ∃ z, z = (getM os p 0 i).2 := ⟨_, rfl⟩
 rw [<- hz, <- her] at C hn
 rw [<- hz] at hu
 rw [<- hz, <- her]
 have CH : Hid (∀ W, _) := fun W => headof_any z hu W
 obtain ⟨b8, hb8⟩ : ∃ b, b = isR 8 z := ⟨_, rfl⟩
 obtain ⟨kd, hkd⟩ : ∃ b, b = typR z := ⟨_, rfl⟩
 obtain ⟨sz, hsz⟩ : ∃ b, b = hasR 8 z := ⟨_, rfl⟩
 rw [<- hb8, <- hkd, <- hsz] at CH
 rw [<- hb8] at hn
 clear h hz her hb8 hkd hsz hu hi hp
 by_cases h0 : er = 0
 ·obtain rfl := hn h0
  subst h0
  go_enter Tryz.func89, Tryz.ntmps89
  go_wp2_with (first
   | (go_at_call 104; (with_reducible refine C.out.mono ?_); rintro e W1 ⟨rfl, b1⟩; have HB := hid b1; clear b1)
   | (go_at_call 80; (with_reducible refine (CH.out _).mono ?_); rintro e W2 ⟨rfl, hw2⟩; rw [hw2]; clear hw2))
  go_ret2
  exact ⟨rfl, HB.out⟩
 ·have e0 : (er == 0) = false := by simp [h0]
  have e1 : decide (er = 0) = false := decide_eq_false h0
  rw [e1]
  clear e1 hn h0
  go_enter Tryz.func89, Tryz.ntmps89
  go_wp2_with (first
   | (go_at_call 104; (with_reducible refine C.out.mono ?_); rintro e W1 ⟨rfl, b1⟩; have HB := hid b1; clear b1)
   | (go_at_call 80; (with_reducible refine (CH.out _).mono ?_); rintro e W2 ⟨rfl, hw2⟩; rw [hw2]; clear hw2))
  go_ret2
  exact ⟨rfl, HB.out⟩
theorem etype_any (a b : Int) (ha : U64 a) (hb : U64 b) (w : World) (h : HE B v N os F w) : Calls Tryz.prog 39 #[v, .int .u64 a, .int .u64 b] w fun e w' => e = .returned (.int .i64 (stM os a b)) /\ Below w.heap.size w w' := by
 have C1 := hid (pkind_any h.fine a ha w h.ph)
 have C2 : Hid (∀ W, Below w.heap.size w W -> _) := fun W hW => pkind_any h.fine b hb W (h.on hW).ph
 obtain ⟨gh, rfl⟩ := h.ph.ptr
 unfold stM
 obtain ⟨k1, hk1⟩ : ∃ z, z = (kindM os a).1 := ⟨_, rfl⟩
 obtain ⟨k2, hk2⟩ : ∃ z, z = (kindM os b).1 := ⟨_, rfl⟩
 obtain ⟨q1, hq1⟩ : ∃ z, z = (kindM os a).2 := ⟨_, rfl⟩
 obtain ⟨q2, hq2⟩ : ∃ z, z = (kindM os b).2 := ⟨_, rfl⟩
 rw [<- hk1, <- hq1] at C1
 rw [<- hk2, <- hq2] at C2
 rw [<- hk1, <- hk2]
 clear h hk1 hk2 hq1 hq2 ha hb
 by_cases he : k1 = k2
 ·subst he
  rw [if_pos rfl]
  have e0 : (k1 != k1) = false := by simp
  go_enter Tryz.func39, Tryz.ntmps39
  go_wp2_with (first
   | (go_at_call 65; (with_reducible refine C1.out.mono ?_); rintro e W1 ⟨rfl, b1⟩; have HB := hid b1; clear b1)
   | (go_at_call 65; (with_reducible refine (C2.out W1 HB.out).mono ?_); rintro e W2 ⟨rfl, b2⟩; have HB2 := hid (HB.out.trans (b2.mono HB.out.size)); clear b2))
  go_ret
  exact ⟨rfl, HB2.out⟩
 ·rw [if_neg he]
  have e0 : (k1 != k2) = true := by simp [he]
  go_enter Tryz.func39, Tryz.ntmps39
  go_wp2_with (first
   | (go_at_call 65; (with_reducible refine C1.out.mono ?_); rintro e W1 ⟨rfl, b1⟩; have HB := hid b1; clear b1)
   | (go_at_call 65; (with_reducible refine (C2.out W1 HB.out).mono ?_); rintro e W2 ⟨rfl, b2⟩; have HB2 := hid (HB.out.trans (b2.mono HB.out.size)); clear b2))
  go_ret
  exact ⟨rfl, HB2.out⟩
theorem esame1_any (a b : Int) (w : World) : Calls Tryz.prog 67 #[.int .u64 a, .int .u64 b] w fun e w' => e = .returned (.bool (decide (a = b))) /\ w' = w := by
 obtain ⟨bb, hbb⟩ : ∃ x, x = decide (a = b) := ⟨_, rfl⟩
 rw [<- hbb]
 have ebb : (a == b) = bb := by rw [hbb]; rfl
 clear hbb
 go_enter Tryz.func67, Tryz.ntmps67
 go_wp2
 go_ret
 exact ⟨rfl, rfl⟩
theorem take_ext {f g : List Int} {q : Nat} (h : f.take q = g.take q) (h1 : q < f.length) (h2 : q < g.length) (e : f.getD q 0 = g.getD q 0) : f.take (q + 1) = g.take (q + 1) := by
 rw [List.take_succ_eq_append_getElem h1, List.take_succ_eq_append_getElem h2, h]
 rw [List.getD_eq_getElem?_getD, List.getElem?_eq_getElem h1, List.getD_eq_getElem?_getD, List.getElem?_eq_getElem h2] at e
 have e : f[q] = g[q] := e
 rw [e]
theorem take_end {f g : List Int} {q : Nat} (h : f.take q = g.take q) (h1 : q <= f.length) (h2 : q <= g.length) (hn : ¬ (q < f.length /\ q < g.length)) : decide (f = g) = (decide (q < f.length) == decide (q < g.length)) := by
 by_cases e : f.length = g.length
 ·rw [List.take_of_length_le (by omega), List.take_of_length_le (by omega)] at h
  rw [decide_eq_true h, e]; simp
 ·rw [decide_eq_false (fun e' => e (by rw [e']))]
  by_cases e1 : q < f.length
  ·rw [decide_eq_true e1, decide_eq_false (by omega)]; rfl
  ·rw [decide_eq_false e1, decide_eq_true (by omega)]; rfl
set_option maxHeartbeats 4000000 in
theorem esames_any (a b : Int) (ha : U64 a) (hb : U64 b) (w : World) (h : HE B v N os F w) {i k : Nat} (hi : findM os a = some i) (hk : findM os b = some k) : Calls Tryz.prog 66 #[v, .int .u64 a, .int .u64 b, .func (.func 67) #[] #[]] w fun e w' => e = .returned (.bool (decide ((os.getD i default).f = (os.getD k default).f))) /\ Below w.heap.size w w' := by
 have hl1 := at_lt (findM_lt hi).1
 have hl2 := at_lt (findM_lt hk).1
 have hus := h.used
 have K1 : Hid (∀ (j : Nat) W, j <= (os.getD i default).f.length -> Below w.heap.size w W -> Calls Tryz.prog 89 #[v, .int .u64 a, .int .i64 j] W fun e w' => ∃ z, e = .returned (.tuple #[.int .u64 z, .bool (decide (j < (os.getD i default).f.length))]) /\ (j < (os.getD i default).f.length -> z = (os.getD i default).f.getD j 0) /\ Below W.heap.size W w') := fun j W hj hW => by
  refine (efield_any a j ha (by unfold Z64; omega) W (h.on hW)).mono ?_
  rintro e w' ⟨rfl, hb⟩
  by_cases e : j < (os.getD i default).f.length
  ·rw [gete_at hi e, decide_eq_true e]; exact ⟨_, rfl, fun _ => rfl, hb⟩
  ·rw [get_out hi (by omega), decide_eq_false e]; exact ⟨_, rfl, fun h => absurd h e, hb⟩
 have K2 : Hid (∀ (j : Nat) W, j <= (os.getD k default).f.length -> Below w.heap.size w W -> Calls Tryz.prog 89 #[v, .int .u64 b, .int .i64 j] W fun e w' => ∃ z, e = .returned (.tuple #[.int .u64 z, .bool (decide (j < (os.getD k default).f.length))]) /\ (j < (os.getD k default).f.length -> z = (os.getD k default).f.getD j 0) /\ Below W.heap.size W w') := fun j W hj hW => by
  refine (efield_any b j hb (by unfold Z64; omega) W (h.on hW)).mono ?_
  rintro e w' ⟨rfl, hb⟩
  by_cases e : j < (os.getD k default).f.length
  ·rw [gete_at hk e, decide_eq_true e]; exact ⟨_, rfl, fun _ => rfl, hb⟩
  ·rw [get_out hk (by omega), decide_eq_false e]; exact ⟨_, rfl, fun h => absurd h e, hb⟩
 obtain ⟨gh, rfl⟩ := h.ph.ptr
 obtain ⟨f, hf⟩ : ∃ f, f = (os.getD i default).f := ⟨_, rfl⟩
 obtain ⟨g, hg⟩ : ∃ f, f = (os.getD k default).f := ⟨_, rfl⟩
 rw [<- hf] at K1 hl1
 rw [<- hg] at K2 hl2
 rw [<- hf, <- hg]
 clear h hi hk hf hg ha hb
 obtain ⟨nf, hnf⟩ : ∃ n, n = f.length := ⟨_, rfl⟩
 obtain ⟨ng, hng⟩ : ∃ n, n = g.length := ⟨_, rfl⟩
 have HNF := hid hnf
 have HNG := hid hng
 rw [<- hnf] at K1 hl1
 rw [<- hng] at K2 hl2
 have hm1 : nf <= 4194304 := by omega
 clear hnf hng hl1 hl2 hus
 go_enter Tryz.func66, Tryz.ntmps66
 go_wp2_with fail
 go_loopw [9] (fun i wr => ∃ q : Nat, q <= nf /\ i = .int .i64 q /\ Hid (q <= ng /\ f.take q = g.take q /\ Below w.heap.size w wr)) (fun i _ => nf - (intOf i).toNat)
 case atStart => exact ⟨0, Nat.zero_le _, rfl, Nat.zero_le _, by simp, Below.refl _ _⟩
 case round =>
  obtain ⟨q, hq, rfl, hI⟩ := hrel
  obtain ⟨hq2, htk, hbel⟩ := hI.out
  have HTK := hid htk
  have HBR := hid hbel
  clear hI htk hbel
  have C1 := hid (K1.out q wr hq HBR.out)
  have C2 : Hid (∀ W, Below wr.heap.size wr W -> _) := fun W hW => K2.out q W hq2 (HBR.out.trans (hW.mono HBR.out.size))
  obtain ⟨b1, hb1⟩ : ∃ b, b = decide (q < nf) := ⟨_, rfl⟩
  obtain ⟨b2, hb2⟩ : ∃ b, b = decide (q < ng) := ⟨_, rfl⟩
  rw [<- hb1] at C1
  rw [<- hb2] at C2
  have HE1 := hid hb1
  have HE2 := hid hb2
  clear hb1 hb2
  have fin : b1 = false \/ b2 = false -> Hid (decide (f = g) = (b1 == b2)) := fun hh => by
   unfold Hid
   rw [HE1.out, HE2.out, HNF.out, HNG.out]
   refine take_end HTK.out (by rw [<- HNF.out]; exact hq) (by rw [<- HNG.out]; exact hq2) (fun e => ?_)
   rw [<- HNF.out, <- HNG.out] at e
   rcases hh with hh | hh
   ·rw [HE1.out, decide_eq_true e.1] at hh; cases hh
   ·rw [HE2.out, decide_eq_true e.2] at hh; cases hh
  cases b1
  ·have FIN := fin (.inl rfl)
   clear fin
   cases b2
   all_goals
    go_wp2_with (first
     | (go_at_call 89; (with_reducible refine C1.out.mono ?_); rintro e W1 ⟨z1, rfl, hz1, b1⟩; have HZ1 := hid hz1; have HB1 := hid b1; clear b1 hz1)
     | (go_at_call 89; (with_reducible refine (C2.out W1 HB1.out).mono ?_); rintro e W2 ⟨z2, rfl, hz2, b2⟩; have HZ2 := hid hz2; have HB2 := hid (HB1.out.trans (b2.mono HB1.out.size)); clear b2 hz2))
    go_ret
    exact ⟨by rw [FIN.out]; rfl, HBR.out.trans (HB2.out.mono HBR.out.size)⟩
  ·cases b2
   ·have FIN := fin (.inr rfl)
    clear fin
    go_wp2_with (first
     | (go_at_call 89; (with_reducible refine C1.out.mono ?_); rintro e W1 ⟨z1, rfl, hz1, b1⟩; have HZ1 := hid hz1; have HB1 := hid b1; clear b1 hz1)
     | (go_at_call 89; (with_reducible refine (C2.out W1 HB1.out).mono ?_); rintro e W2 ⟨z2, rfl, hz2, b2⟩; have HZ2 := hid hz2; have HB2 := hid (HB1.out.trans (b2.mono HB1.out.size)); clear b2 hz2))
    go_ret
    exact ⟨by rw [FIN.out]; rfl, HBR.out.trans (HB2.out.mono HBR.out.size)⟩
   ·have hlt : q < nf := of_decide_eq_true HE1.out.symm
    have hlt2 : q < ng := of_decide_eq_true HE2.out.symm
    clear fin
    have hne : Hid (f.getD q 0 ≠ g.getD q 0 -> decide (f = g) = false) := fun hh => decide_eq_false (fun e => hh (by rw [e]))
    have hext : Hid (f.getD q 0 = g.getD q 0 -> f.take (q + 1) = g.take (q + 1)) := fun hh => take_ext HTK.out (by rw [<- HNF.out]; exact hlt) (by rw [<- HNG.out]; exact hlt2) hh
    obtain ⟨x1, hx1⟩ : ∃ x, x = f.getD q 0 := ⟨_, rfl⟩
    obtain ⟨x2, hx2⟩ : ∃ x, x = g.getD q 0 := ⟨_, rfl⟩
    rw [<- hx1] at C1 hne hext
    rw [<- hx2] at C2 hne hext
    clear hx1 hx2
    have CS : Hid (∀ W, _) := fun W => esame1_any x1 x2 W
    by_cases hxx : x1 = x2
    ·have HX := hid (hext.out hxx)
     rw [decide_eq_true hxx] at CS
     clear hxx hne hext
     go_wp2_with (first
      | (go_at_call 89; (with_reducible refine C1.out.mono ?_); rintro e W1 ⟨z1, rfl, hz1, b1⟩; obtain rfl := hz1 hlt; have HB1 := hid b1; clear b1 hz1)
      | (go_at_call 89; (with_reducible refine (C2.out W1 HB1.out).mono ?_); rintro e W2 ⟨z2, rfl, hz2, b2⟩; obtain rfl := hz2 hlt2; have HB2 := hid (HB1.out.trans (b2.mono HB1.out.size)); clear b2 hz2)
      | (go_at_call 67; (with_reducible refine (CS.out _).mono ?_); rintro e W3 ⟨rfl, hw3⟩; rw [hw3]; clear hw3))
     exact ⟨⟨q + 1, by omega, by go_num, by omega, HX.out, HBR.out.trans (HB2.out.mono HBR.out.size)⟩, by simp [intOf] <;> omega⟩
    ·have HX := hid (hne.out hxx)
     rw [decide_eq_false hxx] at CS
     clear hxx hne hext
     go_wp2_with (first
      | (go_at_call 89; (with_reducible refine C1.out.mono ?_); rintro e W1 ⟨z1, rfl, hz1, b1⟩; obtain rfl := hz1 hlt; have HB1 := hid b1; clear b1 hz1)
      | (go_at_call 89; (with_reducible refine (C2.out W1 HB1.out).mono ?_); rintro e W2 ⟨z2, rfl, hz2, b2⟩; obtain rfl := hz2 hlt2; have HB2 := hid (HB1.out.trans (b2.mono HB1.out.size)); clear b2 hz2)
      | (go_at_call 67; (with_reducible refine (CS.out _).mono ?_); rintro e W3 ⟨rfl, hw3⟩; rw [hw3]; clear hw3))
     go_ret
     exact ⟨by rw [HX.out]; rfl, HBR.out.trans (HB2.out.mono HBR.out.size)⟩
theorem esamef_any (a b : Int) (ha : U64 a) (hb : U64 b) (w : World) (h : HE B v N os F w) {i k : Nat} (hi : findM os a = some i) (hk : findM os b = some k) : Calls Tryz.prog 40 #[v, .int .u64 a, .int .u64 b] w fun e w' => e = .returned (.bool (decide ((os.getD i default).f = (os.getD k default).f))) /\ Below w.heap.size w w' := by
 have C := hid (esames_any a b ha hb w h hi hk)
 obtain ⟨gh, rfl⟩ := h.ph.ptr
 obtain ⟨bb, hbb⟩ : ∃ x, x = decide ((os.getD i default).f = (os.getD k default).f) := ⟨_, rfl⟩
 rw [<- hbb] at C ⊢
 clear h hi hk ha hb hbb
 go_enter Tryz.func40, Tryz.ntmps40
 go_wp2_with (go_at_call 66; (with_reducible refine C.out.mono ?_); rintro e W1 ⟨rfl, b1⟩; have HB := hid b1; clear b1)
 go_ret
 exact ⟨rfl, HB.out⟩
end
end Go.Proofs.YtdekkieajffblaaGreatDoor
