/-
  Walk: made, whole.
-/
import Derived.Test.YthgkonjglappjaaU6
import Derived.Test.YthgkonjglappjaaV12
import Derived.Test.YthgkonjglappjaaV9g
set_option linter.unusedVariables false
set_option linter.unusedSimpArgs false
set_option maxRecDepth 100000
namespace Go.Proofs.Ythgkonjglappjaa
open Go.RowKit

/-- 'append(words, z)' of a row that the call owns. -/
theorem appW {P : Program} {w : World} {ops : Array Oper} {rest : List Oper} {o : Oper} {a : Act} {Q : Exit → Act → World → Prop} (hgd : o.guard = none) (s x : Operand) (t : TypeId) (ho : o.op = .call { callee := .builtin .append, args := #[s, x], argTypes := #[t, t] })
    (base : Nat) (e : TypeId) (ht : P.underlying t = some (.slice e)) (hi : (P.info? e).map (fun i => (i.zero, i.size, i.bytes)) = some (some (.int .u64 0), 1, 8))
    (v : Value) (n : Nat) (l : List Int) (hs : a.eval s = v) (hown : w.ownsRow base e 1 v n (uz l))
    (ad : Addr) (c : Nat) (d : Int) (hx : a.eval x = .slice (some ad) 1 c) (hd : w.cell? ad = some (.int .u64 d)) (hsm : n ≤ 1000000) (hbase : base ≤ w.heap.size)
    (h : ∀ g cap w', w'.ownsRow base e 1 (.slice (some ⟨g, 0, none⟩) (n + 1) cap) (n + 1) (uz (l ++ [d])) → w.grownBy w' v.ownBlock → (v.ownBlock = some g ∨ g = w.heap.size) → g < w'.heap.size → wpList P ops Q rest (a.put o.dst (.slice (some ⟨g, 0, none⟩) (n + 1) cap)) w') :
    wpList P ops Q (o :: rest) a w := by
  obtain ⟨i0, hi0, hz0, hz1, hz2⟩ : ∃ i0, P.info? e = some i0 ∧ i0.zero = some (.int .u64 0) ∧ i0.size = 1 ∧ i0.bytes = 8 := by
    cases h : P.info? e with
    | none => rw [h] at hi; cases hi
    | some i => rw [h] at hi; simp at hi; exact ⟨i, rfl, hi.1, hi.2.1, hi.2.2⟩
  refine wpList_append_lies w hgd s x t ho base e i0 (.int .u64 0) 1 8 ht hi0 hz0 hz1 hz2 rfl (by decide) v n (uz l) hs hown ad 1 c [.int .u64 d] hx rfl ?_ ?_ (by decide) (by unfold maxLen; omega) (by omega) hbase w.heap.size rfl ?_
  · intro j u hj
    match j, hj with
    | 0, hj => simp at hj; subst hj; simpa [Addr.add] using hd
  · intro u hu; simp at hu; subst hu; rfl
  · intro g cap w' h1 h2 h3 h4
    refine h g cap w' ?_ h2 h3 h4
    rw [uz_append]; exact h1

/-- Both heaps, and a row of words in a box of its own, apart from them. -/
structure MS (B ga : Nat) (v : Value) (g : Nat) (os : List Ob) (l : List Int) (F : Nat → Prop) (vL : Value) (ls : List (Ob × Sl)) (vA : Value) (w : World) : Prop where
  mx : Mx B v g 4000 os os F vL ls w
  box : w.heap[ga]? = some (.cells #[vA] 27 (0, 0))
  own : w.ownsRow (ga + 1) 46 1 vA l.length (uz l)
  dj : ∀ b, b = ga ∨ vA.ownBlock = some b → ¬ F b ∧ ¬ RF g vL ls b
  bga : B ≤ ga
section
variable {B ga g : Nat} {v : Value} {os os' : List Ob} {l : List Int} {F F' : Nat → Prop} {vL vL' : Value} {ls ls' : List (Ob × Sl)} {vA : Value} {w w1 w2 : World}
theorem MS.lt (h : MS B ga v g os l F vL ls vA w) : ∀ b, b = ga ∨ vA.ownBlock = some b → b < w.heap.size := fun b hb => by
  rcases hb with rfl | hb
  · exact (Array.getElem?_eq_some_iff.1 h.box).1
  · exact (h.own.lt b hb).2
theorem MS.on (h : MS B ga v g os l F vL ls vA w) (hb : Below w.heap.size w w1) : MS B ga v g os l F vL ls vA w1 :=
  ⟨h.mx.on hb, (hb.block ga (h.lt ga (.inl rfl))).trans h.box, own_at h.own (fun b e => hb.block b (h.lt b (.inr e))), h.dj, h.bga⟩
/-- What both heaps' calls leave. -/
theorem MS.both (h : MS B ga v g os l F vL ls vA w) (m : Mx B v g 4000 os' os' F' vL' ls' w1) (fr : Fr g F vL ls F' vL' ls' w w1) : MS B ga v g os' l F' vL' ls' vA w1 := by
  have k : ∀ b, b = ga ∨ vA.ownBlock = some b → ¬ F' b ∧ ¬ RF g vL' ls' b ∧ w1.heap[b]? = w.heap[b]? := fun b hb => fr b (h.lt b hb) (h.dj b hb).1 (h.dj b hb).2
  exact ⟨m, (k ga (.inl rfl)).2.2.trans h.box, own_at h.own (fun b e => (k b (.inr e)).2.2), fun b hb => ⟨(k b hb).1, (k b hb).2.1⟩, h.bga⟩
theorem MS.cell (h : MS B ga v g os l F vL ls vA w) : w.cell? ⟨ga, 0, none⟩ = some vA := blk_cell h.box 0
theorem MS.row (h : MS B ga v g os l F vL ls vA w) (hu : ∀ z ∈ l, U64 z) : ∃ aa ca, vA = .slice aa l.length ca ∧ URow w aa l.length ca l := urow_own h.own hu
/-- A word is put behind the row. -/
theorem MS.push (h : MS B ga v g os l F vL ls vA w) {z : Int} {v' : Value} {w6 : World} (hw : Below w.heap.size w w1) (ho : w6.ownsRow (ga + 1) 46 1 v' (l.length + 1) (uz (l ++ [z]))) (hg : w1.grownBy w6 vA.ownBlock)
    (hn : v'.ownBlock = vA.ownBlock ∨ ∀ b, v'.ownBlock = some b → w1.heap.size ≤ b) :
    w6.heap[ga]? = some (.cells #[vA] 27 (0, 0)) ∧ MS B ga v g os (l ++ [z]) F vL ls v' (w6.setCell ⟨ga, 0, none⟩ v') ∧ Below B w1 (w6.setCell ⟨ga, 0, none⟩ v') := by
  have h1 := h.on hw
  have key : ∀ b, b < w1.heap.size → vA.ownBlock ≠ some b → w6.heap[b]? = w1.heap[b]? := fun b hb hne => hg.block b hb (fun e => hne e.symm)
  have hga : vA.ownBlock ≠ some ga := fun e => by have := (h1.own.lt ga e).1; omega
  have hb6 : w6.heap[ga]? = some (.cells #[vA] 27 (0, 0)) := (key ga (h1.lt ga (.inl rfl)) hga).trans h1.box
  have hF : ∀ b, F b → (w6.setCell ⟨ga, 0, none⟩ v').heap[b]? = w1.heap[b]? := fun b hb => by
    have n1 : b ≠ ga := fun e => (h.dj ga (.inl rfl)).1 (e ▸ hb)
    have n2 : vA.ownBlock ≠ some b := fun e => (h.dj b (.inr e)).1 hb
    exact (Below.heap_setCell _ _ _ _ n1).trans (key b (h1.mx.ph.ge b hb).2 n2)
  have hR : ∀ b, RF g vL ls b → (w6.setCell ⟨ga, 0, none⟩ v').heap[b]? = w1.heap[b]? := fun b hb => by
    have n1 : b ≠ ga := fun e => (h.dj ga (.inl rfl)).2 (e ▸ hb)
    have n2 : vA.ownBlock ≠ some b := fun e => (h.dj b (.inr e)).2 hb
    exact (Below.heap_setCell _ _ _ _ n1).trans (key b (h1.mx.rh.foot_ge b hb).2 n2)
  have hsz : w1.heap.size ≤ (w6.setCell ⟨ga, 0, none⟩ v').heap.size := by have := hg.size; simp [World.setCell]; omega
  refine ⟨hb6, ⟨h1.mx.keep hsz hF hR, ?_, ?_, ?_, h.bga⟩, ?_⟩
  · have := blk_set (i := 0) hb6 v'; rw [this]; rfl
  · rw [List.length_append, List.length_singleton]
    exact own_at ho (fun b hb => Below.heap_setCell _ _ _ _ (fun e => by have := (ho.lt b hb).1; simp at e; omega))
  · intro b hb
    rcases hb with rfl | hb
    · exact h.dj b (.inl rfl)
    · rcases hn with e | e
      · exact h.dj b (.inr (e ▸ hb))
      · have hlt := e b hb
        exact ⟨fun e' => by have := (h1.mx.ph.ge b e').2; omega, fun e' => by have := (h1.mx.rh.foot_ge b e').2; omega⟩
  · have hb1 : Below B w1 w6 := ⟨hg.os, hg.tape, hg.output, hg.size, fun b hb => hg.block b (by have := h1.mx.bw; omega) (fun e => by have := (h1.own.lt b e.symm).1; have := h.bga; omega)⟩
    exact hb1.setCell (p := ⟨ga, 0, none⟩) h.bga _
end
theorem fill_is {os : List Ob} {kind n : Int} (hk : 1 ≤ kind ∧ kind ≤ 22) (hn : 0 ≤ n ∧ n ≤ 4000) (hr : (usedL os : Int) + (1 + n) ≤ 4000) : fillM os 4000 kind n 2 = (wordR 2 (usedL os : Nat) 0, 0) ∧ fillO os 4000 kind n 2 = os ++ [⟨kind, List.replicate n.toNat 2⟩] := by
  have h2 : isHd 2 = false := by decide
  have e : fillM os 4000 kind n 2 = (wordR 2 (usedL os : Nat) 0, 0) := by
    unfold fillM
    rw [if_neg (by omega), if_neg (by rw [h2]; simp; omega)]
    unfold allocM
    rw [if_neg (by omega), if_neg (by simp [h2]), if_neg (by rw [List.length_replicate]; omega)]
  refine ⟨e, ?_⟩
  unfold fillO
  rw [e]; rfl
theorem blank_take {xs : List Oj} {q : Nat} (h : q < xs.length) : blankL (xs.take (q + 1)) = blankL (xs.take q) ++ [blankO (xs.getD q default)] := by
  unfold blankL
  rw [List.take_succ_eq_append_getElem h, List.map_append, List.getD_eq_getElem?_getD, List.getElem?_eq_getElem h]; rfl
theorem ats_take {xs : List Oj} {q : Nat} (h : q < xs.length) : (atsL xs).take (q + 1) = (atsL xs).take q ++ [wordR 2 (usedL (blankL (xs.take q)) : Nat) 0] := by
  rw [List.take_succ_eq_append_getElem (by rw [atsL_len]; exact h)]
  congr 2
  have := atsL_get h
  rw [List.getD_eq_getElem?_getD, List.getElem?_eq_getElem (by rw [atsL_len]; exact h)] at this
  rw [Option.getD_some] at this
  rw [this]
  unfold atO blankL
  rw [List.map_take]
end Go.Proofs.Ythgkonjglappjaa

set_option linter.unusedVariables false
set_option linter.unusedSimpArgs false
set_option maxRecDepth 100000
namespace Go.Proofs.Ythgkonjglappjaa
open Go.RowKit

theorem cell_same {w w' : World} {b o : Nat} (h : w'.heap[b]? = w.heap[b]?) : w'.cell? ⟨b, o, none⟩ = w.cell? ⟨b, o, none⟩ := by
  unfold World.cell?; simp only [h]
theorem results_tmp4 {fn : Func} {t u v x : Tmp} (h : fn.results = #[.tmp t, .tmp u, .tmp v, .tmp x]) (tmps : Array Value) (P : Program) (w : World) :
    (results fn tmps).run P w = .ok (.tuple #[tmps.getD t undef, tmps.getD u undef, tmps.getD v undef, tmps.getD x undef]) w := by
  simp [results, h]
set_option maxHeartbeats 32000000 in
theorem made_any (ao : Option Addr) (n cap : Nat) (xs : List Oj) (fo : Option Addr) (m fc : Nat) (fs : List Fd) (w : World) (R : ORow w ao n cap xs) (Q : FRow w fo m fc fs) (hfew : fewG xs fs = true) :
    Calls Try.prog 10 #[.slice ao n cap, .slice fo m fc] w fun e w' => ∃ v F g vL ls ra rc, e = .returned (.tuple #[v, .pointer (some ⟨g, 0, none⟩), .slice ra m rc, .bool true]) ∧ Mx w.heap.size v g 4000 (madeL xs) (madeL xs) F vL ls w' ∧ URow w' ra m rc (fs.map (saysM (atsL xs))) ∧ (∀ a, ra = some a → w.heap.size ≤ a.block ∧ ¬ F a.block ∧ ¬ RF g vL ls a.block) ∧ Below w.heap.size w w' := by
  have HR := hid R
  have HQ := hid Q
  have hn := R.len
  have hf := R.fits
  have hm := R.most
  have hn2 := Q.len
  have hf2 := Q.fits
  have hm2 := Q.most
  unfold maxLen at hm hm2
  subst hn hn2
  obtain ⟨hf60, hr60, hf30⟩ := few_parts_g hfew
  have hus := small_used hf60 hf30
  have HF30 := hid hf30
  have C1 := hid (pnew_any 4000 (by unfold Z64; omega) w)
  have C2 := hid (rnew_any 4000 (by unfold Z64; omega))
  have hbad : ¬ ((4000 : Int) < 1 ∨ (4194304 : Int) < 4000) := by omega
  simp only [if_neg hbad] at C1 C2
  clear R Q hbad hfew hf30
  go_enter Try.func10, Try.ntmps10
  go_wp2_with (first
    | (go_at_call 27; (refine C1.out.mono ?_); rintro e W1 ⟨v, F, rfl, hp1, b1⟩; obtain ⟨gh, rfl⟩ := hp1.ptr; have HP1 := hid hp1; have HB1 := hid b1; clear hp1 b1)
    | (go_at_call 28; (refine (C2.out _).mono ?_); rintro e W2 ⟨g, rfl, hg, hr2, b2⟩; have HR2 := hid hr2; have HB2 := hid b2; have HG := hid hg; clear hr2 b2 hg))
  have HM0 : Hid (Mx w.heap.size (.pointer (some ⟨gh, 0, none⟩)) g 4000 [] [] F (.slice none 0 0) [] W2) :=
    ⟨HP1.out.keep (fun b hb => HB2.out.block b (HP1.out.ge b hb).2), HR2.out.weak HB1.out.size, rfl, fun b hb hr => by
      have h1 := (HP1.out.ge b hb).2
      have h2 := (HR2.out.foot_ge b hr).1
      omega, os_nil, os_nil, Nat.le_trans HB1.out.size HB2.out.size⟩
  have HB12 := hid (Bt HB1.out HB2.out)
  have HS0 : Hid (MS w.heap.size W2.heap.size (.pointer (some ⟨gh, 0, none⟩)) g [] [] F (.slice none 0 0) [] (.slice none 0 0) (W2.alloc (.cells #[.slice none 0 0] 27))) :=
    ⟨HM0.out.on (Ba _ _), blk_new _ _ _, World.ownsRow_nil _ _ _ _, fun b hb => by
      rcases hb with rfl | hb
      · exact ⟨fun e => by have := (HM0.out.ph.ge _ e).2; omega, fun e => by have := (HM0.out.rh.foot_ge _ e).2; omega⟩
      · exact absurd hb (by intro e; cases e), HB12.out.size⟩
  have HBS := hid (Bt HB12.out (Ba W2 (.cells #[.slice none 0 0] 27)))
  clear HP1 HR2 HB1 HB2 HG HM0 C1 C2
  obtain ⟨ga, hga⟩ : ∃ x, x = W2.heap.size := ⟨_, rfl⟩
  rw [← hga] at HS0 ⊢
  have HGA : Hid (w.heap.size ≤ ga) := by rw [hga]; exact HB12.out.size
  clear hga HB12
  generalize W2.alloc (.cells #[.slice none 0 0] 27) = W3 at *
  go_loopw [13] (fun i wr => ∃ q : Nat, q ≤ xs.length ∧ i = .int .i64 q ∧ Hid (∃ F vL ls vA, MS w.heap.size ga (.pointer (some ⟨gh, 0, none⟩)) g (blankL (xs.take q)) ((atsL xs).take q) F vL ls vA wr ∧ Below w.heap.size w wr)) (fun i _ => xs.length - (intOf i).toNat)
  case atStart => exact ⟨0, Nat.zero_le _, rfl, _, _, _, _, HS0.out, HBS.out⟩
  case round =>
    clear HS0 HBS
    obtain ⟨q, hq, rfl, hI⟩ := hrel
    obtain ⟨F1, vL, ls, vA, hS, hB⟩ := hI.out
    obtain ⟨aA, nA, cA, rfl⟩ : ∃ aA nA cA, vA = .slice aA nA cA := by rcases hS.own.2 with ⟨h, _⟩ | ⟨g, cap, cur, h, _⟩ <;> exact ⟨_, _, _, h⟩
    have HS := hid hS
    have HB := hid hB
    clear hI hS hB
    by_cases hlt : q < xs.length
    · obtain ⟨b, o, rfl, hlb0, _⟩ := HR.out.some (by omega)
      obtain ⟨b', o', hbo, hlb, hcc⟩ := (HR.out.on HB.out).some (by omega)
      cases hbo
      obtain ⟨d0, fa, fn, fcc, d1, hF⟩ := hcc q hlt
      have hqx : q < xs.length := by omega
      have hxm := getD_in_oj hqx
      have hfl := hF.len
      have hff := hF.fits
      have hfm := hF.most
      unfold maxLen at hfm
      have hx30 := HF30.out _ hxm
      have hzk := HR.out.ok _ hxm
      have HBK := hid (blank_take hqx)
      have HAT := hid (ats_take hqx)
      have HAL : Hid (((atsL xs).take q).length = q) := by unfold Hid; rw [List.length_take, atsL_len]; omega
      have HOB : Hid (blankO (xs.getD q default) = ⟨kindO (xs.getD q default).kind, List.replicate (xs.getD q default).l.length 2⟩) := rfl
      obtain ⟨x, hx⟩ : ∃ x, x = xs.getD q default := ⟨_, rfl⟩
      rw [← hx] at d0 hfl hx30 hzk HBK HOB
      clear hcc hF hxm hx
      obtain ⟨xk, xl⟩ := x
      simp only at d0 hfl hx30 hzk HOB
      have hkr := kindO_rng xk
      have hut : usedL (blankL (xs.take q)) ≤ 1860 := by
        have := used_take_le (blankL xs) q
        unfold atO blankL at this
        rw [← List.map_take] at this
        unfold blankL; unfold blankL at hus; omega
      obtain ⟨hfi1, hfi2⟩ := fill_is (os := blankL (xs.take q)) (kind := kindO xk) (n := (fn : Int)) hkr (by omega) (by omega)
      have hok : OsOk (blankL (xs.take q)) := blank_ok _
      have hok2 : OsOk (blankL (xs.take (q + 1))) := blank_ok _
      have e2 : blankL (xs.take q) ++ [⟨kindO xk, List.replicate (fn : Int).toNat 2⟩] = blankL (xs.take (q + 1)) := by
        rw [HBK.out, HOB.out, hfl]; rfl
      rw [e2] at hfi2
      obtain ⟨K, hK⟩ : ∃ K, K = kindO xk := ⟨_, rfl⟩
      rw [← hK] at hfi1 hfi2 hkr
      have CP : Hid (Calls Try.prog 29 #[.pointer (some ⟨gh, 0, none⟩), .int .i64 K, .int .i64 (fn : Nat), .int .u64 2] wr fun e w' => e = .returned (.tuple #[.int .u64 (wordR 2 (usedL (blankL (xs.take q)) : Nat) 0), .int .i64 0]) ∧ PPost w.heap.size (.pointer (some ⟨gh, 0, none⟩)) 4000 F1 wr (wordsL (blankL (xs.take (q + 1)))) w') := by
        have := pfill_any hok K (fn : Int) 2 (by unfold Z64; omega) (by unfold Z64; omega) (by unfold U64; omega) wr HS.out.mx.ph HS.out.mx.bw
        rw [fillP_is (by decide), fillQ_is (by decide), hfi1, hfi2] at this
        exact this
      have CR : Hid (∀ (F' : Nat → Prop) wx, Mx w.heap.size (.pointer (some ⟨gh, 0, none⟩)) g 4000 (blankL (xs.take (q + 1))) (blankL (xs.take q)) F' vL ls wx → Calls Try.prog 30 #[.pointer (some ⟨g, 0, none⟩), .int .i64 K, .int .i64 (fn : Nat), .int .u64 2] wx fun e w' => e = .returned (.tuple #[.int .u64 (wordR 2 (usedL (blankL (xs.take q)) : Nat) 0), .int .i64 0]) ∧ RPost w.heap.size g 4000 vL ls wx (blankL (xs.take (q + 1))) w') := fun F' wx hmx => by
        have := rfill_any K (fn : Int) 2 (by unfold Z64; omega) (by unfold Z64; omega) (by unfold U64; omega) wx hmx.rh hmx.bw
        rw [hmx.mp, hfi1, hfi2] at this
        exact this
      have HK := hid hK
      obtain ⟨P, hP⟩ : ∃ P, P = wordR 2 (usedL (blankL (xs.take q)) : Nat) 0 := ⟨_, rfl⟩
      rw [← hP] at CP CR HAT
      have HPU : Hid (U64 P) := by unfold Hid; rw [hP]; exact wordR_rng _ _ _
      have HOK2 := hid hok2
      have ht22 : (Int.tmod xk 22).natAbs < 22 := by rw [Int.natAbs_tmod]; exact Nat.mod_lt _ (by omega)
      have hr22 := (round_at (n := 22) (by omega) xk)
      have hk22 : Int.tmod xk 22 % 22 + 1 = K := by
        have e1 : Int.tmod (Int.tmod xk 22 + 22) 22 = (Int.tmod xk 22 + 22) % 22 := Int.tmod_eq_emod_of_nonneg (by omega)
        have e2 : K = Int.tmod (Int.tmod xk 22 + 22) 22 + 1 := hK
        rw [e2, e1]; omega
      have hw1 : IntKind.i64.wrap (Int.tmod xk 22) = Int.tmod xk 22 := by rw [IntKind.wrap_i64]; omega
      have hw3 : wrap64 (Int.tmod xk 22) = Int.tmod xk 22 := by unfold wrap64; omega
      have hw2 : IntKind.i64.wrap (Int.tmod xk 22 + 22) = Int.tmod xk 22 + 22 := by rw [IntKind.wrap_i64]; omega
      have hw4 : wrap64 (Int.tmod xk 22 + 22) = Int.tmod xk 22 + 22 := by unfold wrap64; omega
      clear hfi1 hfi2 hok hok2 e2 hP hK hr22
      have ep : (P == P) = true := by simp
      have hbw : Hid (b < w.heap.size) := hlb0
      go_wp2_with (first
        | (go_at_call 29; (try rw [hk22]); (with_reducible refine CP.out.mono ?_); rintro e W4 ⟨rfl, hp4⟩; obtain ⟨F4, m4, f4, bl4⟩ := HS.out.mx.p HOK2.out hp4; have HM4 := hid m4; have HF4 := hid f4; have HL4 := hid bl4; have j1 := (bl4.cell (p := ⟨b, o + q * 2 + 1, none⟩) hbw.out).trans d1; clear hp4 m4 f4 bl4)
        | (go_at_call 30; (with_reducible refine (CR.out F4 W4 HM4.out).mono ?_); rintro e W5 ⟨rfl, hp5⟩; obtain ⟨vL5, ls5, m5, f5, bl5⟩ := HM4.out.r HOK2.out hp5; have HS5 := hid (HS.out.both m5 ((Fr.p HF4.out).trans HL4.out.size (Fr.r f5))); have HB5 := hid ((HB.out.trans HL4.out).trans bl5); have c5 := HS5.out.cell; have HO5 : Hid ((W5.alloc (.cells #[.int .u64 P] 46)).ownsRow (ga + 1) 46 1 (.slice aA nA cA) q (uz ((atsL xs).take q))) := (by have := own_at HS5.out.own (fun b e => (Ba W5 (.cells #[.int .u64 P] 46)).block b (HS5.out.lt b (.inr e))); rw [HAL.out] at this; exact this); have HZ5 : Hid (ga + 1 ≤ (W5.alloc (.cells #[.int .u64 P] 46)).heap.size) := (by have := HS5.out.lt ga (.inl rfl); unfold Hid; rw [size_alloc]; omega); have HN5 : Hid ((W5.alloc (.cells #[.int .u64 P] 46)).cell? ⟨W5.heap.size, 0, none⟩ = some (.int .u64 P)) := blk_cell (blk_new W5 #[.int .u64 P] 46) 0; clear hp5 m5 f5 bl5)
        | (at_builtin; refine appW rfl _ _ 27 rfl (ga + 1) 46 Try.underlying27 info_word _ q ((atsL xs).take q) rfl HO5.out ⟨W5.heap.size, 0, none⟩ 1 P rfl HN5.out (by omega) HZ5.out ?_; intro g6 c6 w6 ho hg hloc hlt6; have HP6 := hid (HS5.out.push (Ba W5 (.cells #[.int .u64 P] 46)) (by rw [HAL.out]; exact ho) hg (by rcases hloc with e | e; exact .inl e.symm; exact .inr (fun b' hb' => Nat.le_of_eq (e.symm.trans (Option.some.inj hb'))))); have q1 := blk_free HP6.out.1 0; have q2 : w6.cell? ⟨ga, 0, none⟩ = some (.slice aA nA cA) := blk_cell HP6.out.1 0; clear ho hg hloc hlt6))
      have hms := HP6.out.2.1
      have hbl := HP6.out.2.2
      rw [← HAT.out] at hms
      refine ⟨⟨q + 1, by omega, by go_num, _, _, _, _, hms, ?_⟩, by simp [intOf] <;> omega⟩
      exact (HB5.out.trans ((Ba W5 (.cells #[.int .u64 P] 46)).mono HS5.out.mx.bw)).trans hbl
    · obtain rfl : q = xs.length := by omega
      have hms := HS.out
      rw [List.take_of_length_le (by omega), List.take_of_length_le (by rw [atsL_len]; omega)] at hms
      rw [← part_zero] at hms
      have HMS := hid hms
      clear hms HS
      obtain ⟨aA2, cA2, hvA, _⟩ := HMS.out.row atsL_u64
      rw [atsL_len] at hvA
      cases hvA
      go_wp2_with fail
      go_loopw [20] (fun vi wr => ∃ i : Nat, i ≤ xs.length ∧ vi = .int .i64 i ∧ Hid (∃ F vL ls, MS w.heap.size ga (.pointer (some ⟨gh, 0, none⟩)) g (partL xs i 0) (atsL xs) F vL ls (.slice aA xs.length cA) wr ∧ Below w.heap.size w wr)) (fun vi _ => xs.length - (intOf vi).toNat)
      case atStart => exact ⟨0, Nat.zero_le _, rfl, _, _, _, HMS.out, HB.out⟩
      case round =>
        clear HMS HB
        obtain ⟨i, hi, rfl, hI⟩ := hrel
        obtain ⟨F2, vL2, ls2, hS2, hB2⟩ := hI.out
        have HMS2 := hid hS2
        have HB2 := hid hB2
        clear hI hS2 hB2
        by_cases hlt2 : i < xs.length
        · go_wp2_with fail
          go_loopw [21] (fun vk wr => ∃ k : Nat, k ≤ (xs.getD i default).l.length ∧ vk = .int .i64 k ∧ Hid (∃ F vL ls, MS w.heap.size ga (.pointer (some ⟨gh, 0, none⟩)) g (partL xs i k) (atsL xs) F vL ls (.slice aA xs.length cA) wr ∧ Below w.heap.size w wr)) (fun vk _ => (xs.getD i default).l.length - (intOf vk).toNat)
          case atStart => exact ⟨0, Nat.zero_le _, rfl, _, _, _, HMS2.out, HB2.out⟩
          case round =>
            clear HMS2 HB2
            obtain ⟨k, hk, rfl, hI⟩ := hrel
            obtain ⟨F3, vL3, ls3, hS3, hB3⟩ := hI.out
            have HMS3 := hid hS3
            have HB3 := hid hB3
            clear hI hS3 hB3
            obtain ⟨b, o, rfl, hlb0, _⟩ := HR.out.some (by omega)
            obtain ⟨b', o', hbo, hlb, hcc⟩ := (HR.out.on HB3.out).some (by omega)
            cases hbo
            obtain ⟨d0, fa, fn, fcc, d1, hF⟩ := hcc i (by omega)
            have hfl := hF.len
            have hff := hF.fits
            have hfm := hF.most
            unfold maxLen at hfm
            have hx30 := HF30.out _ (getD_in_oj hlt2)
            clear hcc d0
            rw [hfl] at hk ⊢
            by_cases hlk : k < fn
            · obtain ⟨fb, fo', rfl, hfb, hfc⟩ := hF.some (by omega)
              obtain ⟨c0, c1, c2⟩ := hfc k hlk
              have hfok := hF.ok _ (getD_in_fd (l := (xs.getD i default).l) (i := k) (by omega))
              obtain ⟨aA', cA', hvA, hUA⟩ := HMS3.out.row atsL_u64
              rw [atsL_len] at hvA hUA
              cases hvA
              have CSY := hid (says_any ((xs.getD i default).l.getD k default) hfok ga aA xs.length cA (atsL xs) wr HMS3.out.cell hUA (by omega))
              have hus2 : usedL (blankL xs) ≤ 1099511627776 := by omega
              have hps := part_set (xs := xs) (i := i) (k := k) hlt2 (by omega) hus2
              have hzu := says_u64 atsL_u64 hfok (ats := atsL xs)
              obtain ⟨gr, og, rfl, hgr, hgc⟩ := hUA.some (by omega)
              have hgi := hgc i hlt2
              have hPU := atsL_u64 _ (getD_in_f (l := atsL xs) (i := i) (by rw [atsL_len]; exact hlt2))
              obtain ⟨P, hP⟩ : ∃ P, P = (atsL xs).getD i 0 := ⟨_, rfl⟩
              rw [← hP] at hgi hps hPU
              obtain ⟨f, hff0⟩ : ∃ f, f = (xs.getD i default).l.getD k default := ⟨_, rfl⟩
              rw [← hff0] at c0 c1 c2 CSY hps hzu
              clear hP hff0 hfok hfc hgc hUA
              obtain ⟨z, hz⟩ : ∃ z, z = saysM (atsL xs) f := ⟨_, rfl⟩
              rw [← hz] at CSY hps hzu
              clear hz
              obtain ⟨fis, fto, ffw⟩ := f
              simp only at c0 c1 c2 CSY
              have HPS := hid hps
              have HPU := hid hPU
              have HZU := hid hzu
              have HGI := hid hgi
              have HOW : Hid (∀ b, b = ga ∨ b = gr → (b = ga ∨ (Value.slice (some ⟨gr, og, none⟩) xs.length cA).ownBlock = some b)) := fun b hb => by
                rcases hb with e | e
                · exact .inl e
                · exact .inr (by rw [e]; rfl)
              have HCC : Hid (∀ os F vL ls wx, MS w.heap.size ga (.pointer (some ⟨gh, 0, none⟩)) g os (atsL xs) F vL ls (.slice (some ⟨gr, og, none⟩) xs.length cA) wx → wx.cell? ⟨ga, 0, none⟩ = some (.slice (some ⟨gr, og, none⟩) xs.length cA) ∧ wx.cell? ⟨gr, og + i, none⟩ = some (.int .u64 P)) := fun os F vL ls wx h => by
                refine ⟨h.cell, ?_⟩
                obtain ⟨a2, c2', hv2, hU2⟩ := h.row atsL_u64
                rw [atsL_len] at hv2 hU2
                cases hv2
                obtain ⟨b2, o2, e2, _, hg2⟩ := hU2.some (by omega)
                cases e2
                have h1 := hg2 i hlt2
                obtain ⟨a3, c3, hv3, hU3⟩ := HMS3.out.row atsL_u64
                rw [atsL_len] at hv3 hU3
                cases hv3
                obtain ⟨b3, o3, e3, _, hg3⟩ := hU3.some (by omega)
                cases e3
                have h2 := (hg3 i hlt2).symm.trans HGI.out
                rw [h1, ← Option.some.inj h2]
              clear hps hPU hzu hgi hF hgr
              go_wp2_with (go_at_call 31; (with_reducible refine CSY.out.mono ?_); rintro e W4 ⟨rfl, b4⟩; have HMS4 := hid (HMS3.out.on b4); have HB4 := hid (HB3.out.trans (b4.mono HMS3.out.mx.bw)); clear b4)
              have HMSd : Hid (MS w.heap.size ga (.pointer (some ⟨gh, 0, none⟩)) g (partL xs i k) (atsL xs) F3 vL3 ls3 (.slice (some ⟨gr, og, none⟩) xs.length cA) W4.drew) := HMS4.out.on (Bd W4 1)
              have HS4 := hid (HCC.out _ _ _ _ _ HMSd.out)
              have HOK : Hid (OsOk (partL xs i (k + 1))) := by
                have := set_ok (p := P) (kind := 0) (i := k) HMS4.out.mx.okP HZU.out
                rw [HPS.out] at this; exact this
              have HLT : Hid (∀ b, b = ga ∨ b = gr → b < W4.drew.heap.size) := fun b hb => HMSd.out.lt b (HOW.out b hb)
              have HNF : Hid (∀ b, b = ga ∨ b = gr → ¬ F3 b ∧ ¬ RF g vL3 ls3 b) := fun b hb => HMSd.out.dj b (HOW.out b hb)
              have CP : Hid (∀ wx, Mx w.heap.size (.pointer (some ⟨gh, 0, none⟩)) g 4000 (partL xs i k) (partL xs i k) F3 vL3 ls3 wx → Calls Try.prog 33 #[.pointer (some ⟨gh, 0, none⟩), .int .u64 P, .int .i64 0, .int .i64 (k : Nat), .int .u64 z] wx fun e w' => e = .returned (.int .i64 0) ∧ PPost w.heap.size (.pointer (some ⟨gh, 0, none⟩)) 4000 F3 wx (wordsL (partL xs i (k + 1))) w') := fun wx hm => by
                have := pset_any hm.okP P 0 k z HPU.out (by unfold Z64; omega) (by unfold Z64; omega) HZU.out wx hm.ph hm.bw
                rw [HPS.out] at this; exact this
              have CR : Hid (∀ (F' : Nat → Prop) wx, Mx w.heap.size (.pointer (some ⟨gh, 0, none⟩)) g 4000 (partL xs i (k + 1)) (partL xs i k) F' vL3 ls3 wx → Calls Try.prog 34 #[.pointer (some ⟨g, 0, none⟩), .int .u64 P, .int .i64 0, .int .i64 (k : Nat), .int .u64 z] wx fun e w' => e = .returned (.int .i64 0) ∧ RPost w.heap.size g 4000 vL3 ls3 wx (partL xs i (k + 1)) w') := fun F' wx hm => by
                refine (rset_any P 0 k z HPU.out (by unfold Z64; omega) (by unfold Z64; omega) HZU.out wx hm.rh).mono ?_
                rintro e w' ⟨rfl, ls', q1, q2, q3, q4⟩
                rw [hm.mp, HPS.out] at q2 ⊢
                exact ⟨rfl, vL3, ls', q1, q2, fun b hb => .inl ((q3 b).1 hb), q4⟩
              have hS0 : W4.drew.cell? ⟨ga, 0, none⟩ = some (.slice (some ⟨gr, og, none⟩) xs.length cA) ∧ W4.drew.cell? ⟨gr, og + i, none⟩ = some (.int .u64 P) := HS4.out
              refine wp_region_held_drew (S := fun wx => wx.cell? ⟨ga, 0, none⟩ = some (.slice (some ⟨gr, og, none⟩) xs.length cA) ∧ wx.cell? ⟨gr, og + i, none⟩ = some (.int .u64 P)) (by kernel_rfl) hS0 (fun hHeld => ?_)
              refine htake 0 (some 116) (.pointer (some ⟨gh, 0, none⟩)) rfl rfl (by kernel_rfl) (by kernel_rfl) (by kernel_rfl) (fun _ _ _ h => h) (Or.inl ⟨by rfl, fun wx hSw => ?_⟩) (by assumption) ?_
              · go_simp
              simp only [Act.put, List.setIfInBounds_toArray, List.set_cons_zero, List.set_cons_succ]
              refine htake 1 (some 117) (.slice (some ⟨gr, og, none⟩) xs.length cA) rfl rfl (by kernel_rfl) (by kernel_rfl) (by kernel_rfl) (fun _ _ _ h => h) (Or.inl ⟨by rfl, fun wx hSw => ?_⟩) (by assumption) ?_
              · obtain ⟨s1, s2⟩ := hSw; go_simp
              simp only [Act.put, List.setIfInBounds_toArray, List.set_cons_zero, List.set_cons_succ]
              refine htake 2 (some 118) (.int .i64 (i : Nat)) rfl rfl (by kernel_rfl) (by kernel_rfl) (by kernel_rfl) (fun _ _ _ h => h) (Or.inl ⟨by rfl, fun wx hSw => ?_⟩) (by assumption) ?_
              · go_simp
              simp only [Act.put, List.setIfInBounds_toArray, List.set_cons_zero, List.set_cons_succ]
              refine htake 3 (some 119) (.pointer (some ⟨gr, og + i, none⟩)) rfl rfl (by kernel_rfl) (by kernel_rfl) (by kernel_rfl) (fun _ _ _ h => h) (Or.inl ⟨by rfl, fun wx hSw => ?_⟩) (by assumption) ?_
              · go_simp
              simp only [Act.put, List.setIfInBounds_toArray, List.set_cons_zero, List.set_cons_succ]
              refine htake 4 (some 120) (.int .u64 P) rfl rfl (by kernel_rfl) (by kernel_rfl) (by kernel_rfl) (fun _ _ _ h => h) (Or.inl ⟨by rfl, fun wx hSw => ?_⟩) (by assumption) ?_
              · obtain ⟨s1, s2⟩ := hSw; go_simp
              simp only [Act.put, List.setIfInBounds_toArray, List.set_cons_zero, List.set_cons_succ]
              refine htake 5 (some 121) (.int .i64 (k : Nat)) rfl rfl (by kernel_rfl) (by kernel_rfl) (by kernel_rfl) (fun _ _ _ h => h) (Or.inl ⟨by rfl, fun wx hSw => ?_⟩) (by assumption) ?_
              · go_simp
              simp only [Act.put, List.setIfInBounds_toArray, List.set_cons_zero, List.set_cons_succ]
              refine htake 6 (some 122) (.int .u64 z) rfl rfl (by kernel_rfl) (by kernel_rfl) (by kernel_rfl) (fun _ _ _ h => h) (Or.inl ⟨by rfl, fun wx hSw => ?_⟩) (by assumption) ?_
              · go_simp
              simp only [Act.put, List.setIfInBounds_toArray, List.set_cons_zero, List.set_cons_succ]
              refine htake 8 (some 124) (.pointer (some ⟨g, 0, none⟩)) rfl rfl (by kernel_rfl) (by kernel_rfl) (by kernel_rfl) (fun _ _ _ h => h) (Or.inl ⟨by rfl, fun wx hSw => ?_⟩) (by assumption) ?_
              · go_simp
              simp only [Act.put, List.setIfInBounds_toArray, List.set_cons_zero, List.set_cons_succ]
              refine htake 9 (some 125) (.slice (some ⟨gr, og, none⟩) xs.length cA) rfl rfl (by kernel_rfl) (by kernel_rfl) (by kernel_rfl) (fun _ _ _ h => h) (Or.inl ⟨by rfl, fun wx hSw => ?_⟩) (by assumption) ?_
              · obtain ⟨s1, s2⟩ := hSw; go_simp
              simp only [Act.put, List.setIfInBounds_toArray, List.set_cons_zero, List.set_cons_succ]
              refine htake 10 (some 126) (.int .i64 (i : Nat)) rfl rfl (by kernel_rfl) (by kernel_rfl) (by kernel_rfl) (fun _ _ _ h => h) (Or.inl ⟨by rfl, fun wx hSw => ?_⟩) (by assumption) ?_
              · go_simp
              simp only [Act.put, List.setIfInBounds_toArray, List.set_cons_zero, List.set_cons_succ]
              refine htake 11 (some 127) (.pointer (some ⟨gr, og + i, none⟩)) rfl rfl (by kernel_rfl) (by kernel_rfl) (by kernel_rfl) (fun _ _ _ h => h) (Or.inl ⟨by rfl, fun wx hSw => ?_⟩) (by assumption) ?_
              · go_simp
              simp only [Act.put, List.setIfInBounds_toArray, List.set_cons_zero, List.set_cons_succ]
              refine htake 12 (some 128) (.int .u64 P) rfl rfl (by kernel_rfl) (by kernel_rfl) (by kernel_rfl) (fun _ _ _ h => h) (Or.inl ⟨by rfl, fun wx hSw => ?_⟩) (by assumption) ?_
              · obtain ⟨s1, s2⟩ := hSw; go_simp
              simp only [Act.put, List.setIfInBounds_toArray, List.set_cons_zero, List.set_cons_succ]
              refine htake 13 (some 129) (.int .i64 (k : Nat)) rfl rfl (by kernel_rfl) (by kernel_rfl) (by kernel_rfl) (fun _ _ _ h => h) (Or.inl ⟨by rfl, fun wx hSw => ?_⟩) (by assumption) ?_
              · go_simp
              simp only [Act.put, List.setIfInBounds_toArray, List.set_cons_zero, List.set_cons_succ]
              refine htake 14 (some 130) (.int .u64 z) rfl rfl (by kernel_rfl) (by kernel_rfl) (by kernel_rfl) (fun _ _ _ h => h) (Or.inl ⟨by rfl, fun wx hSw => ?_⟩) (by assumption) ?_
              · go_simp
              simp only [Act.put, List.setIfInBounds_toArray, List.set_cons_zero, List.set_cons_succ]
              clear hHeld hS0
              refine hone 7 _ rfl (by kernel_rfl) (fun K hK => ?_)
              go_simp
              go_at_call 33
              with_reducible refine (CP.out _ HMSd.out.mx).mono ?_
              rintro e W5 ⟨rfl, hp5⟩
              obtain ⟨F5, m5, f5, bl5⟩ := HMSd.out.mx.p HOK.out hp5
              have kc : ∀ (b j : Nat), b = ga ∨ b = gr → W5.cell? ⟨b, j, none⟩ = W4.drew.cell? ⟨b, j, none⟩ := fun b j hb => cell_same (f5 b (HLT.out b hb) (HNF.out b hb).1).2
              have hS5 : W5.cell? ⟨ga, 0, none⟩ = some (.slice (some ⟨gr, og, none⟩) xs.length cA) ∧ W5.cell? ⟨gr, og + i, none⟩ = some (.int .u64 P) := ⟨(kc ga 0 (.inl rfl)).trans HS4.out.1, (kc gr (og + i) (.inr rfl)).trans HS4.out.2⟩
              have HM5 := hid m5
              have HL5 := hid bl5
              have HF5 := hid f5
              refine hK.out _ _ hS5 (fun _ => ?_)
              clear hK K m5 f5 bl5 hp5 kc hS5
              try simp only [Act.put, List.setIfInBounds_toArray, List.set_cons_zero, List.set_cons_succ]
              refine hone 15 _ rfl (by kernel_rfl) (fun K hK => ?_)
              go_simp
              go_at_call 34
              refine (CR.out F5 W5 HM5.out).mono ?_
              rintro e W6 ⟨rfl, hp6⟩
              obtain ⟨vL6, ls6, m6, f6, bl6⟩ := HM5.out.r HOK.out hp6
              have HS6 := hid (HMSd.out.both m6 ((Fr.p HF5.out).trans HL5.out.size (Fr.r f6)))
              have HB6 := hid (((HB4.out.trans ((Bd W4 1).mono HMS4.out.mx.bw)).trans HL5.out).trans bl6)
              have hS6 := HCC.out _ _ _ _ _ HS6.out
              refine hK.out _ _ hS6 (fun _ => ?_)
              clear hK K m6 f6 bl6 hp6
              try simp only [Act.put, List.setIfInBounds_toArray, List.set_cons_zero, List.set_cons_succ]
              refine hone 16 _ rfl (by kernel_rfl) (fun K hK => ?_)
              go_simp
              refine hK.out _ _ hS6 (fun _ => ?_)
              clear hK K hS6
              refine wpAnyH_done (by kernel_rfl) ?_ _
              try simp only [Act.put, List.setIfInBounds_toArray, List.set_cons_zero, List.set_cons_succ]
              go_wp2_with fail
              exact ⟨⟨k + 1, by omega, by go_num, F5, vL6, ls6, HS6.out, HB6.out⟩, by simp [intOf] <;> omega⟩
            · obtain rfl : k = fn := by omega
              go_wp2_with fail
              refine ⟨⟨i + 1, by omega, by go_num, F3, vL3, ls3, ?_, HB3.out⟩, by simp [intOf] <;> omega⟩
              rw [← part_next hlt2, hfl]; exact HMS3.out
        · obtain rfl : i = xs.length := by omega
          obtain ⟨WQ, rfl⟩ : ∃ x, x = wr := ⟨_, rfl⟩
          rw [part_all] at HMS2
          obtain ⟨aA', cA', hvA, hUA⟩ := HMS2.out.row atsL_u64
          rw [atsL_len] at hvA hUA
          cases hvA
          have HUA := hid hUA
          have HCA := hid HMS2.out.cell
          clear hUA
          go_wp2_with fail
          go_loopw [23, 24] (fun r i wy => ∃ k : Nat, k ≤ fs.length ∧ i = .int .i64 k ∧ Hid (wy.ownsRow WQ.heap.size 46 1 r k (uz ((fs.take k).map (saysM (atsL xs)))) ∧ Below WQ.heap.size WQ wy)) (fun _ i _ => fs.length - (intOf i).toNat)
          case atStart => exact ⟨0, Nat.zero_le _, rfl, World.ownsRow_nil _ _ _ _, Below.refl _ _⟩
          case round =>
            obtain ⟨k, hk, rfl, hI⟩ := hrel
            obtain ⟨ho, hb⟩ := hI.out
            obtain ⟨aF, nF, cF, rfl⟩ : ∃ aF nF cF, u23 = .slice aF nF cF := by rcases ho.2 with ⟨h, _⟩ | ⟨g, cap, cur, h, _⟩ <;> exact ⟨_, _, _, h⟩
            obtain rfl : nF = k := by rcases ho.2 with ⟨h, h'⟩ | ⟨g, cap, cur, h, _⟩ <;> cases h <;> first | rfl | omega
            have HOR := hid ho
            have HBQ := hid hb
            clear hI ho hb
            by_cases hlk : nF < fs.length
            · obtain ⟨bb, o, rfl, hlb, hcc⟩ := ((HQ.out.on HB2.out).on HBQ.out).some (by omega)
              obtain ⟨c0, c1, c2⟩ := hcc nF hlk
              have hfok := HQ.out.ok _ (getD_in_fd (l := fs) (i := nF) (by omega))
              have CSY : Hid (∀ wx, Below WQ.heap.size WQ wx → _) := fun wx hb => says_any (fs.getD nF default) hfok ga aA xs.length cA (atsL xs) wx ((hb.cell (p := ⟨ga, 0, none⟩) (cell_lt HCA.out)).trans HCA.out) (HUA.out.on hb) (by omega)
              have HZU := hid (says_u64 atsL_u64 hfok (ats := atsL xs))
              have HMT : Hid ((fs.take (nF + 1)).map (saysM (atsL xs)) = (fs.take nF).map (saysM (atsL xs)) ++ [saysM (atsL xs) (fs.getD nF default)]) := by
                unfold Hid
                rw [List.take_succ_eq_append_getElem (by omega), List.map_append, List.getD_eq_getElem?_getD, List.getElem?_eq_getElem (by omega)]; rfl
              obtain ⟨f, hff0⟩ : ∃ f, f = fs.getD nF default := ⟨_, rfl⟩
              rw [← hff0] at c0 c1 c2 CSY HZU HMT
              clear hff0 hfok hcc
              obtain ⟨mv, hmv⟩ : ∃ z, z = saysM (atsL xs) f := ⟨_, rfl⟩
              rw [← hmv] at CSY HZU HMT
              clear hmv
              obtain ⟨fis, fto, ffw⟩ := f
              simp only at c0 c1 c2 CSY
              go_wp2_with (first
                | (go_at_call 31; (with_reducible refine (CSY.out _ HBQ.out).mono ?_); rintro e wm ⟨rfl, bm⟩; have HBM := hid (HBQ.out.trans (bm.mono HBQ.out.size)); have HBN := hid (HBM.out.trans ((Ba wm (.cells #[.int .u64 mv] 46)).mono HBM.out.size)); have HO1 := hid (uown_on (uown_on HOR.out bm) (Ba wm (.cells #[.int .u64 mv] 46))); have HU1 := hid (urow_one (blk_new wm #[.int .u64 mv] 46) HZU.out); clear bm)
                | (at_builtin; refine appU rfl _ _ 27 rfl WQ.heap.size 46 Try.underlying27 info_word _ nF ((fs.take nF).map (saysM (atsL xs))) rfl HO1.out (some ⟨wm.heap.size, 0, none⟩) 1 1 [mv] rfl HU1.out (by omega) HBN.out.size ?_; intro v6 w6 ho hg))
              have HE6 : Hid (Below WQ.heap.size WQ w6) := HBN.out.grown hg HBN.out.size (fun k hk => (HO1.out.lt k hk).1)
              have HO6 : Hid (w6.ownsRow WQ.heap.size 46 1 v6 (nF + 1) (uz ((fs.take (nF + 1)).map (saysM (atsL xs))))) := by rw [HMT.out]; exact ho
              exact ⟨⟨nF + 1, by omega, by go_num, HO6.out, HE6.out⟩, by simp [intOf] <;> omega⟩
            · obtain rfl : nF = fs.length := by omega
              go_wp2_with fail
              (try simp only [Exit.inBlock, Exit.then]); refine bodyPost_ret (results_tmp4 rfl _ _ _) rfl ?_
              have ho := HOR.out
              rw [List.take_of_length_le (by omega)] at ho
              have hlm : (fs.map (saysM (atsL xs))).length = fs.length := List.length_map _
              rw [← hlm] at ho
              obtain ⟨ra, rc, hv, hU⟩ := urow_own ho (fun z hz => by obtain ⟨z', hz', rfl⟩ := List.mem_map.1 hz; exact says_u64 atsL_u64 (HQ.out.ok z' hz'))
              rw [hlm] at hv hU
              cases hv
              refine ⟨_, F2, g, vL2, ls2, aF, cF, rfl, HMS2.out.mx.on HBQ.out, hU, fun a ha => ?_, HB2.out.trans (HBQ.out.mono HMS2.out.mx.bw)⟩
              have h1 := (HOR.out.lt a.block (by rw [ha]; rfl)).1
              refine ⟨Nat.le_trans HMS2.out.mx.bw h1, fun e => ?_, fun e => ?_⟩
              · have := (HMS2.out.mx.ph.ge _ e).2; omega
              · have := (HMS2.out.mx.rh.foot_ge _ e).2; omega
end Go.Proofs.Ythgkonjglappjaa
