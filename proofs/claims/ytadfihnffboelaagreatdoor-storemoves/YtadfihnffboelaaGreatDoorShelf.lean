import Derived.Test.YtadfihnffboelaaGreatDoorX3
import Derived.Test.YtadfihnffboelaaGreatDoorW42
import Derived.Test.YtadfihnffboelaaGreatDoorV2
import Derived.Shelf.Small.Utf8
import Derived.Shelf.Utf8.RuneCount
import Derived.Shelf.Unicode.ValidAny
import Derived.Test.YtadfihnffboelaaGreatDoorProg
set_option linter.unusedVariables false
set_option linter.unusedSimpArgs false
set_option maxRecDepth 100000
namespace Go.Proofs.YtadfihnffboelaaGreatDoor
open Go.RowKit
theorem pnumber_any (n : Int) (hn : Z64 n) (w : World) : Calls Tryz.prog 157 #[.int .i64 n] w fun e w' => e = .returned (.int .u64 (wordR 1 n 0)) /\ w' = w := by
 have C := hid (fix_any n hn w)
 obtain ⟨x, hx⟩ : ∃ x, x = wordR 1 n 0 := ⟨_, rfl⟩
 obtain ⟨b, hb⟩ : ∃ x, x = rightB 1 n 0 := ⟨_, rfl⟩
 rw [<- hx, <- hb] at C
 rw [<- hx]
 clear hx hb hn
 go_enter Tryz.func157, Tryz.ntmps157
 go_wp2_with (go_at_call 177; (with_reducible refine C.out.mono ?_); rintro e W1 ⟨rfl, hw1⟩; rw [hw1]; clear hw1)
 go_ret
 exact ⟨rfl, rfl⟩
def PFixPost (z : Int) (w : World) (e : Ending) (w' : World) : Prop := ∃ x, e = .returned (.tuple #[.int .u64 x, .bool (fixB z)]) /\ (fixB z = true -> x = wordR 1 z 0) /\ Below w.heap.size w w'
set_option maxHeartbeats 4000000 in
theorem pfixed_any (neg : Bool) (ao : Option Addr) (n cap : Nat) (l : List Nat) (w : World) (R : Row .u32 B32 w ao n cap l) (g : goodB neg l = true) :
  Calls Tryz.prog 152 #[.agg #[.bool neg, .slice ao n cap]] w (PFixPost (sgn neg (val B32 l)) w) := by
 have b0 := Ba w (.cells #[.bool neg, .slice ao n cap] 134)
 have C := hid (to_any neg ao n cap l (w.alloc (.cells #[.bool neg, .slice ao n cap] 134)) (R.below b0) g)
 unfold ToPost at C
 have hx := blk_new w #[.bool neg, .slice ao n cap] 134
 have c0 : (w.alloc (.cells #[.bool neg, .slice ao n cap] 134)).cell? ⟨w.heap.size, 0, none⟩ = some (.bool neg) := blk_cell hx 0
 have c1 : (w.alloc (.cells #[.bool neg, .slice ao n cap] 134)).cell? ⟨w.heap.size, 1, none⟩ = some (.slice ao n cap) := blk_cell hx 1
 have HB := hid b0
 obtain ⟨z, hz⟩ : ∃ z, z = sgn neg (val B32 l) := ⟨_, rfl⟩
 rw [<- hz] at C ⊢
 clear R g hx b0 hz
 by_cases hf : fits z = true
 ·rw [hf] at C
  have hz64 : Z64 z := by have := of_decide_eq_true hf; unfold Z64; omega
  have CF : Hid (∀ W, Calls Tryz.prog 177 #[.int .i64 z] W fun e w' => e = .returned (.tuple #[.int .u64 (wordR 1 z 0), .bool (fixB z)]) /\ w' = W) := fun W => fix_any z hz64 W
  obtain ⟨x, hx⟩ : ∃ x, x = wordR 1 z 0 := ⟨_, rfl⟩
  obtain ⟨b, hb⟩ : ∃ b, b = fixB z := ⟨_, rfl⟩
  rw [<- hx, <- hb] at CF
  have HX := hid hx
  have HBB := hid hb
  clear hf hz64 hx hb
  go_enter Tryz.func152, Tryz.ntmps152
  go_wp2_with (first
   | (go_at_call 176; (with_reducible refine C.out.mono ?_); rintro e W1 ⟨v, rfl, hv, b1⟩; rw [hv rfl]; have HB1 := hid (Bt HB.out b1); have C2 := hid (CF.out W1); clear b1 hv)
   | (go_at_call 177; (with_reducible refine C2.out.mono ?_); rintro e W2 ⟨rfl, hw2⟩; rw [hw2]; clear hw2))
  go_ret2
  exact ⟨x, by rw [HBB.out]; rfl, fun _ => HX.out, HB1.out⟩
 ·have hf' : fits z = false := by simpa using hf
  rw [hf'] at C
  have HFX : Hid (fixB z = false) := by
   unfold Hid fixB
   have := of_decide_eq_false hf'
   by_cases k1 : -1152921504606846976 <= z
   ·rw [decide_eq_true k1, decide_eq_false (by omega)]; rfl
   ·rw [decide_eq_false k1]; rfl
  clear hf hf'
  go_enter Tryz.func152, Tryz.ntmps152
  go_wp2_with (go_at_call 176; (with_reducible refine C.out.mono ?_); rintro e W1 ⟨v, rfl, hv, b1⟩; have HB1 := hid (Bt HB.out b1); clear b1 hv)
  go_ret2
  exact ⟨_, by rw [HFX.out]; rfl, fun h => (by rw [HFX.out] at h; cases h), HB1.out⟩
theorem neg_sg (c : Bool) (v : Nat) : (c && decide (v ≠ 0)) = decide (sgn (c && decide (v ≠ 0)) v < 0) := by
 cases c
 ·simp [sgn]
 ·by_cases h0 : v = 0
  ·subst h0; rfl
  ·have : decide (v ≠ 0) = true := decide_eq_true h0
   rw [this]
   symm
   refine decide_eq_true ?_
   simp [sgn]
   omega
theorem ptxt_parse (t : ByteArray) (ht : t.size <= 5000) (hp : printedB t = true) (w : World) : Calls Tryz.prog 151 #[.string t, .int .i64 10] w fun e w' => ∃ neg ao n cap l, e = .returned (.tuple #[.agg #[.bool neg, .slice ao n cap], .int .i64 0]) /\ Row .u32 B32 w' ao n cap l /\ goodB neg l = true /\ sgn neg (val B32 l) = txZ t /\ neg = decide (txZ t < 0) /\ l = mg (txZ t).natAbs /\ n <= 40 /\ Below w.heap.size w w' := by
 refine (parse_any t 10 w (by unfold maxLen; omega)).mono ?_
 rintro e w' ⟨x, en, rfl, hb, h⟩
 unfold printedB at hp
 simp only [Bool.and_eq_true, decide_eq_true_eq] at hp
 obtain ⟨⟨p1, p2⟩, p3⟩ := hp
 rcases h with ⟨h1, _⟩ | ⟨_, h2, _⟩ | ⟨_, _, h⟩
 ·exact absurd ⟨by omega, by omega⟩ h1
 ·rw [p1] at h2; cases h2
 ·rcases ans_int h with ⟨a1, a2, ao, n, cap, l, rfl, R, g, hvl, hn⟩ | ⟨a1, _⟩
  ·subst a2
   have hv' : val B32 l = hv 10 (cutS (bs t)).2 := hvl
   refine ⟨_, ao, n, cap, l, rfl, R, g, ?_, ?_, ?_, hn, hb⟩
   ·unfold txZ; rw [hv']; rfl
   ·exact neg_sg _ _
   ·refine mg_is R.dg (goodB_tr g) ?_
    unfold txZ; rw [show ∀ (b : Bool) (v : Nat), (sgn b v).natAbs = v from fun b v => by cases b <;> simp [sgn]]; exact hv'
  ·exact absurd p2 (by unfold Big at a1; show ¬ hv 10 (cutS (bs t)).2 < B32 ^ 40; exact Nat.not_lt.2 a1)
set_option maxHeartbeats 4000000 in
theorem plen_int (t : ByteArray) (ht : t.size <= 5000) (hp : printedB t = true) (w : World) : Calls Tryz.prog 116 #[.string t] w fun e w' => e = .returned (.int .i64 (if fixB (txZ t) = true then 0 else 2 + (((mg (txZ t).natAbs).length : Nat) : Int))) /\ Below w.heap.size w w' := by
 have C := hid (ptxt_parse t ht hp w)
 have CF : Hid (∀ (neg : Bool) (ao : Option Addr) (n cap : Nat) (l : List Nat) (W : World), Row .u32 B32 W ao n cap l -> goodB neg l = true -> Calls Tryz.prog 152 #[.agg #[.bool neg, .slice ao n cap]] W (PFixPost (sgn neg (val B32 l)) W)) := fun neg ao n cap l W R g => pfixed_any neg ao n cap l W R g
 clear ht hp
 cases hf : fixB (txZ t)
 ·have HF := hid hf
  clear hf
  go_enter Tryz.func116, Tryz.ntmps116
  go_wp2_with (first
   | (go_at_call 151; (with_reducible refine C.out.mono ?_); rintro e W1 ⟨neg, ao, n, cap, l, rfl, R, g, hz, hng, hl, hn40, b1⟩; have hlen := R.len; have hfits := R.fits; have hmost := R.most; have HBX := hid (Ba W1 (.cells #[.bool neg, .slice ao n cap] 134)); have hx := blk_new W1 #[.bool neg, .slice ao n cap] 134; have HX := hid hx; have c0 : (W1.alloc (.cells #[.bool neg, .slice ao n cap] 134)).cell? ⟨W1.heap.size, 0, none⟩ = some (.bool neg) := blk_cell hx 0; have c1 : (W1.alloc (.cells #[.bool neg, .slice ao n cap] 134)).cell? ⟨W1.heap.size, 1, none⟩ = some (.slice ao n cap) := blk_cell hx 1; have C2 := hid (CF.out neg ao n cap l _ (R.below HBX.out) g); rw [hz] at C2; unfold PFixPost at C2; rw [HF.out] at C2; have HB1 := hid (Bt b1 HBX.out); have HL := hid (show n = (mg (txZ t).natAbs).length by rw [<- hl]; exact hlen.symm); clear b1 R g hz hng hl hlen hx)
   | (go_at_call 152; (with_reducible refine C2.out.mono ?_); rintro e W2 ⟨x, rfl, _, b2⟩; have HB2 := hid (Bt HB1.out b2); have d1 : W2.cell? ⟨W1.heap.size, 1, none⟩ = some (.slice ao n cap) := blk_cell ((b2.block W1.heap.size (by rw [size_alloc]; omega)).trans HX.out) 1; unfold maxLen at hmost; clear b2))
  go_ret
  refine ⟨?_, HB2.out⟩
  rw [<- HL.out]
  rfl
 ·have HF := hid hf
  clear hf
  go_enter Tryz.func116, Tryz.ntmps116
  go_wp2_with (first
   | (go_at_call 151; (with_reducible refine C.out.mono ?_); rintro e W1 ⟨neg, ao, n, cap, l, rfl, R, g, hz, hng, hl, hn40, b1⟩; have HBX := hid (Ba W1 (.cells #[.bool neg, .slice ao n cap] 134)); have hx := blk_new W1 #[.bool neg, .slice ao n cap] 134; have c0 : (W1.alloc (.cells #[.bool neg, .slice ao n cap] 134)).cell? ⟨W1.heap.size, 0, none⟩ = some (.bool neg) := blk_cell hx 0; have c1 : (W1.alloc (.cells #[.bool neg, .slice ao n cap] 134)).cell? ⟨W1.heap.size, 1, none⟩ = some (.slice ao n cap) := blk_cell hx 1; have C2 := hid (CF.out neg ao n cap l _ (R.below HBX.out) g); rw [hz] at C2; unfold PFixPost at C2; rw [HF.out] at C2; have HB1 := hid (Bt b1 HBX.out); clear b1 R g hz hng hl hx)
   | (go_at_call 152; (with_reducible refine C2.out.mono ?_); rintro e W2 ⟨x, rfl, _, b2⟩; have HB2 := hid (Bt HB1.out b2); clear b2))
  go_ret
  exact ⟨rfl, HB2.out⟩
def sz (l : List ByteArray) : List Value := l.map Value.string
theorem sz_append (l r : List ByteArray) : sz (l ++ r) = sz l ++ sz r := by simp [sz]
theorem info_str : (Tryz.prog.info? 9).map (fun i => (i.zero, i.size, i.bytes)) = some (some (.string ⟨#[]⟩), 1, 16) := by kernel_rfl
def idM : List ByteArray -> ByteArray -> Nat
 | [], _ => 0
 | x :: l, s => if x = s then 0 else idM l s + 1
def idL (ls : List ByteArray) (s : ByteArray) : List ByteArray := if idM ls s < ls.length then ls else ls ++ [s]
theorem appS {P : Program} {w : World} {ops : Array Oper} {rest : List Oper} {o : Oper} {a : Act} {Q : Exit -> Act -> World -> Prop} (hgd : o.guard = none) (s x : Operand) (t : TypeId) (ho : o.op = .call { callee := .builtin .append, args := #[s, x], argTypes := #[t, t] })
  (base : Nat) (e : TypeId) (ht : P.underlying t = some (.slice e)) (hi : (P.info? e).map (fun i => (i.zero, i.size, i.bytes)) = some (some (.string ⟨#[]⟩), 1, 16))
  (v : Value) (n : Nat) (l : List ByteArray) (hs : a.eval s = v) (hown : w.ownsRow base e 1 v n (sz l))
  (g0 c : Nat) (d : ByteArray) (hx : a.eval x = .slice (some ⟨g0, 0, none⟩) 1 c) (hd : w.cell? ⟨g0, 0, none⟩ = some (.string d)) (hsm : n <= 10000000) (hbase : base <= w.heap.size)
  (h : ∀ g cap w', w'.ownsRow base e 1 (.slice (some ⟨g, 0, none⟩) (n + 1) cap) (n + 1) (sz (l ++ [d])) -> w.grownBy w' v.ownBlock -> (v.ownBlock = some g \/ g = w.heap.size) -> g < w'.heap.size -> wpList P ops Q rest (a.put o.dst (.slice (some ⟨g, 0, none⟩) (n + 1) cap)) w') :
  wpList P ops Q (o :: rest) a w := by
 obtain ⟨i0, hi0, hz0, hz1, hz2⟩ : ∃ i0, P.info? e = some i0 /\ i0.zero = some (.string ⟨#[]⟩) /\ i0.size = 1 /\ i0.bytes = 16 := by
  cases h : P.info? e with
  | none => rw [h] at hi; cases hi
  | some i => rw [h] at hi; simp at hi; exact ⟨i, rfl, hi.1, hi.2.1, hi.2.2⟩
 refine wpList_append_lies w hgd s x t ho base e i0 (.string ⟨#[]⟩) 1 16 ht hi0 hz0 hz1 hz2 rfl (by decide) v n (sz l) hs hown ⟨g0, 0, none⟩ 1 c [.string d] hx rfl ?_ ?_ (by decide) (by unfold maxLen; omega) (by omega) hbase w.heap.size rfl ?_
 ·intro j u hj
  match j, hj with
  | 0, hj => simp at hj; subst hj; simpa [Addr.add] using hd
 ·intro u hu; simp at hu; subst hu; rfl
 ·intro g cap w' h1 h2 h3 h4
  refine h g cap w' ?_ h2 h3 h4
  rw [sz_append]; exact h1
def plainWd (ls : List ByteArray) (d : Nd) : Int :=
 if d.kind = 1 then wordR 3 0 0 else if d.kind = 2 then wordR 3 (1 + d.num) 0 else if d.kind = 10 then wordR 3 3 0 else if d.kind = 11 then wordR 3 4 0
 else if d.kind = 4 then wordR 4 d.num 0 else if d.kind = 6 then wordR 5 ((idM ls d.text : Nat) : Int) 0 else wordR 1 (txZ d.text) 0
def plainN (ls : List ByteArray) (d : Nd) : List ByteArray := if d.kind = 6 then idL ls d.text else ls
theorem plainWd_u (ls : List ByteArray) (d : Nd) : U64 (plainWd ls d) := by
 unfold plainWd
 split
 ·exact wordR_rng _ _ _
 split
 ·exact wordR_rng _ _ _
 split
 ·exact wordR_rng _ _ _
 split
 ·exact wordR_rng _ _ _
 split
 ·exact wordR_rng _ _ _
 split <;> exact wordR_rng _ _ _
theorem idM_le : ∀ (ls : List ByteArray) (s : ByteArray), idM ls s <= ls.length
 | [], _ => Nat.le_refl _
 | x :: l, s => by
  unfold idM
  split
  ·exact Nat.zero_le _
  ·have := idM_le l s; simp; omega
def fieldsK (d : Nd) : Int := if d.kind = 3 then 5 else if d.kind = 5 then 3 else if d.kind = 9 then 4 else if d.kind = 7 then 1 else 2
def bytesL (t : ByteArray) (n : Nat) : List Int := (List.range n).map (fun i => wordR 1 (byteAt t i : Nat) 0)
def fieldsL (d : Nd) (ws : List Int) : List Int :=
 if d.kind = 3 then bigL (decide (txZ d.text < 0)) (mg (txZ d.text).natAbs) else if d.kind = 5 then (ltrs d.text).map (fun c => wordR 4 c 0)
 else if d.kind = 9 then bytesL d.text d.text.size else d.kids.map (fun k => ws.getD k.toNat 0)
theorem iz_get {l : List Int} {i : Nat} (h : i < l.length) : (iz l)[i]? = some (.int .i64 (l.getD i 0)) := by
 unfold iz; rw [List.getElem?_map, List.getD_eq_getElem?_getD, List.getElem?_eq_getElem h]; rfl
theorem irow_own {w : World} {B : Nat} {e : TypeId} {v : Value} {l : List Int} (h : w.ownsRow B e 1 v l.length (iz l)) (hb : ∀ z ∈ l, I64 z) : ∃ ao cap, v = .slice ao l.length cap /\ IRow w ao l.length cap l := by
 rcases h.2 with ⟨rfl, h0⟩ | ⟨g, cap, cur, rfl, h2, h3, h4, h5, h6, h7⟩
 ·have : l = [] := List.length_eq_zero_iff.1 h0
  subst this
  exact ⟨none, 0, rfl, rfl, Nat.le_refl _, by unfold maxLen; omega, fun _ => rfl, hb, .inl rfl⟩
 ·refine ⟨some ⟨g, 0, none⟩, cap, rfl, rfl, h4, h5, fun e => (by cases e), hb, .inr ⟨g, 0, rfl, (Array.getElem?_eq_some_iff.1 h3).1, fun i hi => ?_⟩⟩
  rw [Nat.zero_add, blk_cell h3]
  have : cur[i]? = (iz l)[i]? := by rw [<- h7, List.getElem?_take, if_pos (by omega)]; simp
  rw [this, iz_get hi]
theorem map_take {α : Type} {l : List Int} {q : Nat} (f : Int -> α) (h : q < l.length) : (l.take (q + 1)).map f = (l.take q).map f ++ [f (l.getD q 0)] := by
 rw [List.take_succ_eq_append_getElem h, List.map_append, List.getD_eq_getElem?_getD, List.getElem?_eq_getElem h]; rfl
theorem bytesL_succ (t : ByteArray) (q : Nat) : bytesL t (q + 1) = bytesL t q ++ [wordR 1 (byteAt t q : Nat) 0] := by
 unfold bytesL; rw [List.range_succ, List.map_append]; rfl
theorem bytesL_len (t : ByteArray) (q : Nat) : (bytesL t q).length = q := by simp [bytesL]
theorem fieldsL_u (d : Nd) {ws : List Int} (hw : ∀ z ∈ ws, U64 z) : ∀ z ∈ fieldsL d ws, U64 z := by
 intro z hz
 unfold fieldsL at hz
 split at hz
 ·exact bigL_u _ _ z hz
 split at hz
 ·obtain ⟨x, _, rfl⟩ := List.mem_map.1 hz; exact wordR_rng _ _ _
 split at hz
 ·unfold bytesL at hz; obtain ⟨x, _, rfl⟩ := List.mem_map.1 hz; exact wordR_rng _ _ _
 ·obtain ⟨k, _, rfl⟩ := List.mem_map.1 hz
  rw [List.getD_eq_getElem?_getD]
  by_cases h : k.toNat < ws.length
  ·rw [List.getElem?_eq_getElem h]; exact hw _ (List.getElem_mem _)
  ·rw [List.getElem?_eq_none (by omega)]; exact ⟨Int.le_refl _, by decide⟩
set_option maxHeartbeats 4000000 in
theorem pbig_any (neg : Bool) (ao : Option Addr) (n cap : Nat) (l : List Nat) (w : World) (R : Row .u32 B32 w ao n cap l) (hn : n <= 1000) :
  Calls Tryz.prog 153 #[.agg #[.bool neg, .slice ao n cap]] w fun e w' => ∃ v, e = .returned v /\ w'.ownsRow w.heap.size 70 1 v (n + 1) (uz (bigL neg l)) /\ Below w.heap.size w w' := by
 have HR := hid R
 have hln := R.len
 have hf := R.fits
 have hm := R.most
 unfold maxLen at hm
 have b0 := Ba w (.cells #[.bool neg, .slice ao n cap] 134)
 have HB0 := hid b0
 have hx := blk_new w #[.bool neg, .slice ao n cap] 134
 have HX := hid hx
 have HC : Hid (∀ W, Below (w.alloc (.cells #[.bool neg, .slice ao n cap] 134)).heap.size (w.alloc (.cells #[.bool neg, .slice ao n cap] 134)) W -> W.cell? ⟨w.heap.size, 0, none⟩ = some (.bool neg) /\ W.cell? ⟨w.heap.size, 1, none⟩ = some (.slice ao n cap) /\ Below w.heap.size w W) := fun W b => by
  have e := (b.block w.heap.size (by rw [size_alloc]; omega)).trans HX.out
  exact ⟨blk_cell e 0, blk_cell e 1, Bt HB0.out b⟩
 have CW : Hid (∀ x : Nat, x < 4294967296 -> ∀ W, Calls Tryz.prog 157 #[.int .i64 (x : Nat)] W fun e w' => e = .returned (.int .u64 (wordR 1 (x : Nat) 0)) /\ w' = W) := fun x hx W => pnumber_any x (by unfold Z64; omega) W
 have CW0 : Hid (∀ W, Calls Tryz.prog 157 #[.int .i64 0] W fun e w' => e = .returned (.int .u64 (wordR 1 0 0)) /\ w' = W) := fun W => pnumber_any 0 (by unfold Z64; omega) W
 have CW1 : Hid (∀ W, Calls Tryz.prog 157 #[.int .i64 1] W fun e w' => e = .returned (.int .u64 (wordR 1 1 0)) /\ w' = W) := fun W => pnumber_any 1 (by unfold Z64; omega) W
 obtain ⟨z0, hz0⟩ : ∃ z, z = wordR 1 0 0 := ⟨_, rfl⟩
 obtain ⟨z1, hz1⟩ : ∃ z, z = wordR 1 1 0 := ⟨_, rfl⟩
 rw [<- hz0] at CW0
 rw [<- hz1] at CW1
 obtain ⟨zs, hzs⟩ : ∃ z, z = if neg then z1 else z0 := ⟨_, rfl⟩
 have HBG : Hid (bigL neg [] = [zs]) := by
  unfold Hid bigL
  rw [hzs]
  cases neg
  ·simp [hz0]
  ·simp [hz1]
 obtain ⟨W0, hW0⟩ : ∃ W, W = w.alloc (.cells #[.bool neg, .slice ao n cap] 134) := ⟨_, rfl⟩
 have HW0 := hid hW0
 have HX0 := hid (HX.out)
 rw [<- hW0] at HC
 have c0 := (HC.out W0 (Below.refl _ _)).1
 have c1 := (HC.out (W0.alloc (.cells #[.int .u64 zs] 70)) (Ba W0 _)).2.1
 have HBSTART : Hid (Below W0.heap.size W0 (W0.alloc (.cells #[.int .u64 zs] 70))) := Ba W0 _
 have HSTART : Hid ((W0.alloc (.cells #[.int .u64 zs] 70)).ownsRow W0.heap.size 70 1 (.slice (some ⟨W0.heap.size, 0, none⟩) 1 1) (0 + 1) (uz (bigL neg (l.take 0)))) := by
  unfold Hid
  rw [List.take_zero, HBG.out]
  exact own_one (Below.refl _ _)
 have fin : Hid (∀ (v : Value) (wr : World) (q : Nat), wr.ownsRow W0.heap.size 70 1 v (q + 1) (uz (bigL neg (l.take q))) -> Below W0.heap.size W0 wr -> q = n -> wr.ownsRow w.heap.size 70 1 v (n + 1) (uz (bigL neg l)) /\ Below w.heap.size w wr) := fun v wr q h1 h2 e => by
  subst e
  rw [List.take_of_length_le (by omega)] at h1
  exact ⟨own_weak h1 (by rw [HW0.out, size_alloc]; omega), (HC.out wr h2).2.2⟩
 have HRW : Hid (∀ W, Below W0.heap.size W0 W -> Row .u32 B32 W ao n cap l) := fun W b => HR.out.below (HC.out W b).2.2
 have HNE : Hid (neg = false -> zs = z0) := fun e => by rw [hzs, e]; rfl
 have HNT : Hid (neg = true -> zs = z1) := fun e => by rw [hzs, e]; rfl
 have eW : Hid (w.alloc (.cells #[.bool neg, .slice ao n cap] 134) = W0) := HW0.out.symm
 clear R b0 hx hz0 hz1 hzs hW0 HW0 HX HX0 HB0
 have go : Calls Tryz.prog 153 #[.agg #[.bool neg, .slice ao n cap]] w fun e w' => ∃ v, e = .returned v /\ w'.ownsRow w.heap.size 70 1 v (n + 1) (uz (bigL neg l)) /\ Below w.heap.size w w' := by
  cases neg
  ·obtain rfl := HNE.out rfl
   go_enter Tryz.func153, Tryz.ntmps153
   go_wp2_with fail
   rw [eW.out]
   go_wp2_with (go_at_call 157; (with_reducible refine (CW0.out W0).mono ?_); rintro e W1 ⟨rfl, hw1⟩; rw [hw1]; clear hw1)
   clear c0 c1
   go_loopw [4, 6, 16] (fun v _ i wr => ∃ q : Nat, q <= n /\ i = .int .i64 q /\ Hid (wr.ownsRow W0.heap.size 70 1 v (q + 1) (uz (bigL false (l.take q))) /\ Below W0.heap.size W0 wr)) (fun _ _ i _ => n - (intOf i).toNat)
   case atStart => exact ⟨0, Nat.zero_le _, rfl, HSTART.out, HBSTART.out⟩
   case round =>
    obtain ⟨q, hq, rfl, hI⟩ := hrel
    obtain ⟨_, d1, _⟩ := HC.out wr hI.out.2
    have HOQ := hid hI.out.1
    have HBQ := hid hI.out.2
    clear hI
    by_cases hlt : q < n
    ·obtain ⟨b, o, rfl, hlb, hcc⟩ := (HRW.out wr HBQ.out).rd.some (by omega)
     have hck := hcc q (by omega)
     have hxb : l.getD q 0 < B32 := by rw [List.getD_eq_getElem?_getD, List.getElem?_eq_getElem (by omega)]; exact HR.out.dg _ (List.getElem_mem _)
     have C1 := hid (CW.out (l.getD q 0) hxb wr)
     have HT := hid (bigL_take false (l := l) (q := q) (by omega))
     obtain ⟨x, hx⟩ : ∃ x, x = l.getD q 0 := ⟨_, rfl⟩
     rw [<- hx] at hck C1 HT hxb
     have hxb' : x < 4294967296 := hxb
     obtain ⟨zx, hzx⟩ : ∃ z, z = wordR 1 ((x : Nat) : Int) 0 := ⟨_, rfl⟩
     have hzu : Hid (U64 zx) := by unfold Hid; rw [hzx]; exact wordR_rng _ _ _
     rw [<- hzx] at C1 HT
     have HO1 := hid (uown_on HOQ.out (Ba wr (.cells #[.int .u64 zx] 70)))
     have HU1 := hid (urow_one (blk_new wr #[.int .u64 zx] 70) hzu.out)
     have HBA := hid (HBQ.out.trans ((Ba wr (.cells #[.int .u64 zx] 70)).mono HBQ.out.size))
     have HSA := hid HBA.out.size
     clear hcc hx hzx hxb
     go_wp2_with (first
      | (go_at_call 157; (with_reducible refine C1.out.mono ?_); rintro e W1 ⟨rfl, hw1⟩; rw [hw1]; clear hw1)
      | (at_builtin; refine appU rfl _ _ 42 rfl W0.heap.size 70 Tryz.underlying42 info_word _ (q + 1) (bigL false (l.take q)) rfl HO1.out (some ⟨wr.heap.size, 0, none⟩) 1 1 [zx] rfl HU1.out (by omega) HSA.out ?_; intro v2 w2 ho2 hg2))
     have HE : Hid (Below W0.heap.size W0 w2) := HBA.out.grown hg2 HSA.out (fun b hb => (HO1.out.lt b hb).1)
     refine ⟨⟨q + 1, by omega, by go_num, ?_, HE.out⟩, by simp [intOf] <;> omega⟩
     rw [HT.out]; exact ho2
    ·obtain rfl : q = n := by omega
     go_wp2_with fail
     go_ret
     obtain ⟨f1, f2⟩ := fin.out _ _ _ HOQ.out HBQ.out rfl
     exact ⟨_, rfl, f1, f2⟩
  ·obtain rfl := HNT.out rfl
   go_enter Tryz.func153, Tryz.ntmps153
   go_wp2_with fail
   rw [eW.out]
   go_wp2_with (first
    | (go_at_call 157; (with_reducible refine (CW0.out W0).mono ?_); rintro e W1 ⟨rfl, hw1⟩; rw [hw1]; clear hw1)
    | (go_at_call 157; (with_reducible refine (CW1.out W0).mono ?_); rintro e W1 ⟨rfl, hw1⟩; rw [hw1]; clear hw1))
   clear c0 c1
   go_loopw [4, 6, 16] (fun v _ i wr => ∃ q : Nat, q <= n /\ i = .int .i64 q /\ Hid (wr.ownsRow W0.heap.size 70 1 v (q + 1) (uz (bigL true (l.take q))) /\ Below W0.heap.size W0 wr)) (fun _ _ i _ => n - (intOf i).toNat)
   case atStart => exact ⟨0, Nat.zero_le _, rfl, HSTART.out, HBSTART.out⟩
   case round =>
    obtain ⟨q, hq, rfl, hI⟩ := hrel
    obtain ⟨_, d1, _⟩ := HC.out wr hI.out.2
    have HOQ := hid hI.out.1
    have HBQ := hid hI.out.2
    clear hI
    by_cases hlt : q < n
    ·obtain ⟨b, o, rfl, hlb, hcc⟩ := (HRW.out wr HBQ.out).rd.some (by omega)
     have hck := hcc q (by omega)
     have hxb : l.getD q 0 < B32 := by rw [List.getD_eq_getElem?_getD, List.getElem?_eq_getElem (by omega)]; exact HR.out.dg _ (List.getElem_mem _)
     have C1 := hid (CW.out (l.getD q 0) hxb wr)
     have HT := hid (bigL_take true (l := l) (q := q) (by omega))
     obtain ⟨x, hx⟩ : ∃ x, x = l.getD q 0 := ⟨_, rfl⟩
     rw [<- hx] at hck C1 HT hxb
     have hxb' : x < 4294967296 := hxb
     obtain ⟨zx, hzx⟩ : ∃ z, z = wordR 1 ((x : Nat) : Int) 0 := ⟨_, rfl⟩
     have hzu : Hid (U64 zx) := by unfold Hid; rw [hzx]; exact wordR_rng _ _ _
     rw [<- hzx] at C1 HT
     have HO1 := hid (uown_on HOQ.out (Ba wr (.cells #[.int .u64 zx] 70)))
     have HU1 := hid (urow_one (blk_new wr #[.int .u64 zx] 70) hzu.out)
     have HBA := hid (HBQ.out.trans ((Ba wr (.cells #[.int .u64 zx] 70)).mono HBQ.out.size))
     have HSA := hid HBA.out.size
     clear hcc hx hzx hxb
     go_wp2_with (first
      | (go_at_call 157; (with_reducible refine C1.out.mono ?_); rintro e W1 ⟨rfl, hw1⟩; rw [hw1]; clear hw1)
      | (at_builtin; refine appU rfl _ _ 42 rfl W0.heap.size 70 Tryz.underlying42 info_word _ (q + 1) (bigL true (l.take q)) rfl HO1.out (some ⟨wr.heap.size, 0, none⟩) 1 1 [zx] rfl HU1.out (by omega) HSA.out ?_; intro v2 w2 ho2 hg2))
     have HE : Hid (Below W0.heap.size W0 w2) := HBA.out.grown hg2 HSA.out (fun b hb => (HO1.out.lt b hb).1)
     refine ⟨⟨q + 1, by omega, by go_num, ?_, HE.out⟩, by simp [intOf] <;> omega⟩
     rw [HT.out]; exact ho2
    ·obtain rfl : q = n := by omega
     go_wp2_with fail
     go_ret
     obtain ⟨f1, f2⟩ := fin.out _ _ _ HOQ.out HBQ.out rfl
     exact ⟨_, rfl, f1, f2⟩
 exact go
set_option maxHeartbeats 4000000 in
theorem pbytes_any (t : ByteArray) (ht : t.size <= 1000000) (w : World) :
  Calls Tryz.prog 123 #[.string t] w fun e w' => ∃ v, e = .returned v /\ w'.ownsRow w.heap.size 70 1 v t.size (uz (bytesL t t.size)) /\ Below w.heap.size w w' := by
 have CW : Hid (∀ x : Nat, x < 256 -> ∀ W, Calls Tryz.prog 157 #[.int .i64 (x : Nat)] W fun e w' => e = .returned (.int .u64 (wordR 1 (x : Nat) 0)) /\ w' = W) := fun x hx W => pnumber_any x (by unfold Z64; omega) W
 go_enter Tryz.func123, Tryz.ntmps123
 go_wp2_with fail
 go_loopw [3, 4, 7] (fun v _ i wr => ∃ q : Nat, q <= t.size /\ i = .int .i64 q /\ Hid (wr.ownsRow w.heap.size 70 1 v q (uz (bytesL t q)) /\ Below w.heap.size w wr)) (fun _ _ i _ => t.size - (intOf i).toNat)
 case atStart => exact ⟨0, Nat.zero_le _, rfl, World.ownsRow_nil _ _ _ _, Below.refl _ _⟩
 case round =>
  obtain ⟨q, hq, rfl, hI⟩ := hrel
  have HOQ := hid hI.out.1
  have HBQ := hid hI.out.2
  clear hI
  by_cases hlt : q < t.size
  ·have hck := byteAt_get hlt
   have hxb := byteAt_lt t q
   have C1 := hid (CW.out (byteAt t q) hxb wr)
   have HT := hid (bytesL_succ t q)
   obtain ⟨x, hx⟩ : ∃ x, x = byteAt t q := ⟨_, rfl⟩
   rw [<- hx] at hck C1 HT hxb
   obtain ⟨zx, hzx⟩ : ∃ z, z = wordR 1 ((x : Nat) : Int) 0 := ⟨_, rfl⟩
   have hzu : Hid (U64 zx) := by unfold Hid; rw [hzx]; exact wordR_rng _ _ _
   rw [<- hzx] at C1 HT
   have HO1 := hid (uown_on HOQ.out (Ba wr (.cells #[.int .u64 zx] 70)))
   have HU1 := hid (urow_one (blk_new wr #[.int .u64 zx] 70) hzu.out)
   have HBA := hid (HBQ.out.trans ((Ba wr (.cells #[.int .u64 zx] 70)).mono HBQ.out.size))
   have HSA := hid HBA.out.size
   clear hx hzx
   go_wp2_with (first
    | (go_at_call 157; (with_reducible refine C1.out.mono ?_); rintro e W1 ⟨rfl, hw1⟩; rw [hw1]; clear hw1)
    | (at_builtin; refine appU rfl _ _ 42 rfl w.heap.size 70 Tryz.underlying42 info_word _ q (bytesL t q) rfl HO1.out (some ⟨wr.heap.size, 0, none⟩) 1 1 [zx] rfl HU1.out (by omega) HSA.out ?_; intro v2 w2 ho2 hg2))
   have HE : Hid (Below w.heap.size w w2) := HBA.out.grown hg2 HSA.out (fun b hb => (HO1.out.lt b hb).1)
   refine ⟨⟨q + 1, by omega, by go_num, ?_, HE.out⟩, by simp [intOf] <;> omega⟩
   rw [HT.out]; exact ho2
  ·obtain rfl : q = t.size := by omega
   go_wp2_with fail
   go_ret
   exact ⟨_, rfl, HOQ.out, HBQ.out⟩
end Go.Proofs.YtadfihnffboelaaGreatDoor
namespace Go.Proofs
open Go.Shelf
def Tryz.lays119_ren : Go.Shelf.Ren := ⟨fun | 119 => 178 | n => n, fun | 21 => 21 | 4 => 4 | n => n, fun | n => n⟩
theorem Tryz.lays119 : Go.Proofs.Lays.n119 Tryz.prog Tryz.lays119_ren := {
 mixed := by kernel_rfl
 f119 := Tryz.func178.trans (congrArg some (by kernel_rfl))
 t4 := Tryz.underlying4
 a4 := Tryz.isAgg4
 z4 := Tryz.sizeOf4
 v4 := Tryz.zeroValue4
 t21 := Tryz.underlying21
 a21 := Tryz.isAgg21
 z21 := Tryz.sizeOf21
 v21 := Tryz.zeroValue21 }
def Tryz.lays195_ren : Go.Shelf.Ren := ⟨fun | 195 => 117 | n => n, fun | 9 => 9 | 3 => 3 | 0 => 0 | 4 => 4 | n => n, fun | n => n⟩
theorem Tryz.lays195 : Go.Proofs.Lays.n195 Tryz.prog Tryz.lays195_ren := {
 mixed := by kernel_rfl
 f195 := Tryz.func117.trans (congrArg some (by kernel_rfl))
 t0 := Tryz.underlying0
 a0 := Tryz.isAgg0
 z0 := Tryz.sizeOf0
 v0 := Tryz.zeroValue0
 t3 := Tryz.underlying3
 a3 := Tryz.isAgg3
 z3 := Tryz.sizeOf3
 v3 := Tryz.zeroValue3
 t4 := Tryz.underlying4
 a4 := Tryz.isAgg4
 z4 := Tryz.sizeOf4
 v4 := Tryz.zeroValue4
 t9 := Tryz.underlying9
 a9 := Tryz.isAgg9
 z9 := Tryz.sizeOf9
 v9 := Tryz.zeroValue9 }
def Tryz.lays196_ren : Go.Shelf.Ren := ⟨fun | 196 => 166 | 259 => 189 | n => n, fun | 9 => 9 | 4 => 4 | 3 => 3 | 5 => 5 | 12 => 12 | 119 => 230 | 0 => 0 | 46 => 178 | 139 => 233 | 138 => 232 | 53 => 69 | n => n, fun | 3 => 0 | 4 => 1 | n => n⟩
theorem Tryz.lays196 : Go.Proofs.Lays.n196 Tryz.prog Tryz.lays196_ren := {
 mixed := by kernel_rfl
 f196 := Tryz.func166.trans (congrArg some (by kernel_rfl))
 f259 := Tryz.func189.trans (congrArg some (by kernel_rfl))
 t0 := Tryz.underlying0
 a0 := Tryz.isAgg0
 z0 := Tryz.sizeOf0
 v0 := Tryz.zeroValue0
 t3 := Tryz.underlying3
 a3 := Tryz.isAgg3
 z3 := Tryz.sizeOf3
 v3 := Tryz.zeroValue3
 t4 := Tryz.underlying4
 a4 := Tryz.isAgg4
 z4 := Tryz.sizeOf4
 v4 := Tryz.zeroValue4
 t5 := Tryz.underlying5
 a5 := Tryz.isAgg5
 z5 := Tryz.sizeOf5
 v5 := Tryz.zeroValue5
 t9 := Tryz.underlying9
 a9 := Tryz.isAgg9
 z9 := Tryz.sizeOf9
 v9 := Tryz.zeroValue9
 t12 := Tryz.underlying12
 a12 := Tryz.isAgg12
 z12 := Tryz.sizeOf12
 v12 := Tryz.zeroValue12
 t46 := Tryz.underlying178
 a46 := Tryz.isAgg178
 z46 := Tryz.sizeOf178
 v46 := Tryz.zeroValue178
 t53 := Tryz.underlying69
 a53 := Tryz.isAgg69
 z53 := Tryz.sizeOf69
 v53 := Tryz.zeroValue69
 t119 := Tryz.underlying230
 a119 := Tryz.isAgg230
 z119 := Tryz.sizeOf230
 t138 := Tryz.underlying232
 a138 := Tryz.isAgg232
 z138 := Tryz.sizeOf232
 v138 := Tryz.zeroValue232
 t139 := Tryz.underlying233
 a139 := Tryz.isAgg233
 z139 := Tryz.sizeOf233
 v139 := Tryz.zeroValue233
 g3 := by kernel_rfl
 g4 := by kernel_rfl }
end Go.Proofs
