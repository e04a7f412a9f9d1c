/-
  Walk: ArithDoes.
-/
import Derived.Test.YtdekkieajffblaaGreatAX2
import Derived.Test.YtdekkieajffblaaGreatAD2
set_option linter.unusedVariables false
set_option linter.unusedSimpArgs false
set_option maxRecDepth 100000
namespace Go.Proofs.YtdekkieajffblaaGreat
open Go.RowKit

theorem five_on {W wx wy : World} {p : Nat} {a0 a1 a2 a3 a4 : Value}
    (h : wx.cell? ⟨p, 0, none⟩ = some a0 ∧ wx.cell? ⟨p, 1, none⟩ = some a1 ∧ wx.cell? ⟨p, 2, none⟩ = some a2 ∧ wx.cell? ⟨p, 3, none⟩ = some a3 ∧ wx.cell? ⟨p, 4, none⟩ = some a4 ∧ Below W.heap.size W wx) (hb : Below wx.heap.size wx wy) :
    wy.cell? ⟨p, 0, none⟩ = some a0 ∧ wy.cell? ⟨p, 1, none⟩ = some a1 ∧ wy.cell? ⟨p, 2, none⟩ = some a2 ∧ wy.cell? ⟨p, 3, none⟩ = some a3 ∧ wy.cell? ⟨p, 4, none⟩ = some a4 ∧ Below W.heap.size W wy := by
  obtain ⟨h0, h1, h2, h3, h4, h7⟩ := h
  exact ⟨(hb.cell (p := ⟨p, 0, none⟩) (cell_lt h0)).trans h0, (hb.cell (p := ⟨p, 1, none⟩) (cell_lt h0)).trans h1, (hb.cell (p := ⟨p, 2, none⟩) (cell_lt h0)).trans h2, (hb.cell (p := ⟨p, 3, none⟩) (cell_lt h0)).trans h3, (hb.cell (p := ⟨p, 4, none⟩) (cell_lt h0)).trans h4, Bt h7 hb⟩
theorem five_bel {W wx : World} {p : Nat} {a0 a1 a2 a3 a4 : Value} (h : wx.cell? ⟨p, 0, none⟩ = some a0 ∧ wx.cell? ⟨p, 1, none⟩ = some a1 ∧ wx.cell? ⟨p, 2, none⟩ = some a2 ∧ wx.cell? ⟨p, 3, none⟩ = some a3 ∧ wx.cell? ⟨p, 4, none⟩ = some a4 ∧ Below W.heap.size W wx) : Below W.heap.size W wx := h.2.2.2.2.2
theorem lay_zero {os : List Ob} {N z : Int} (h : (layM os N z).2 ≠ 0) : (layM os N z).1 = 0 := by
  rw [layM_is] at h ⊢
  split
  · rename_i h1
    rw [if_pos h1] at h; exact absurd rfl h
  · rename_i h1
    rw [if_neg h1] at h
    split
    · rfl
    · rename_i h2
      rw [if_neg h2] at h; exact absurd rfl h
theorem do_zero {os : List Ob} {N op p q : Int} (h : (doM os N op p q).2 ≠ 0) : (doM os N op p q).1 = 0 := by
  unfold doM at h ⊢
  split
  · rename_i h1
    rw [if_pos h1] at h
    exact lay_zero h
  · rfl
theorem doM_u (os : List Ob) (N op p q : Int) : U64 (doM os N op p q).1 := by
  unfold doM
  split
  · exact layM_u _ _ _
  · show U64 0; unfold U64; omega
theorem cmp_both (os : List Ob) (p q : Int) : ((numM os p).isSome && (numM os q).isSome) = true → cmpM os p q = cmpZ ((numM os p).getD 0) ((numM os q).getD 0) ∧ (bothZ os p q).2.2 = 0 := fun h => by
  have e : bothZ os p q = ((numM os p).getD 0, (numM os q).getD 0, 0) := by unfold bothZ; rw [if_pos h]
  unfold cmpM
  rw [e]
  exact ⟨by rw [if_pos rfl], rfl⟩
theorem cmp_none (os : List Ob) (p q : Int) : ((numM os p).isSome && (numM os q).isSome) = false → cmpM os p q = 0 ∧ (bothZ os p q).2.2 = 70 := fun h => by
  have e : bothZ os p q = (0, 0, 70) := by unfold bothZ; rw [h]; rfl
  unfold cmpM
  rw [e]
  exact ⟨rfl, rfl⟩
theorem rnew_ok (n : Int) (h1 : 1 ≤ n) (h2 : n ≤ 4194304) (w : World) : Calls Tryz.prog 7 #[.int .i64 n] w fun e w' => ∃ g, e = .returned (.tuple #[.pointer (some ⟨g, 0, none⟩), .int .i64 0]) ∧ w.heap.size ≤ g ∧ RH w.heap.size g n (.slice none 0 0) [] w' ∧ Below w.heap.size w w' := by
  refine (rnew_any n (by unfold Z64; omega) w).mono ?_
  intro e w' h
  rw [if_neg (by omega)] at h
  exact h
set_option maxHeartbeats 16000000 in
theorem arithDoes_walk (N : Int) (ao : Option Addr) (n cap : Nat) (l : List (Bool × List Nat)) (ao' : Option Addr) (n' cap' : Nat) (la : List Ak) (w : World) (hN1 : -9223372036854775808 ≤ N) (hN2 : N ≤ 9223372036854775807) (R : ZRow w ao n cap l) (R' : ARow w ao' n' cap' la) :
    Calls Tryz.prog 3 #[.int .i64 N, .slice ao n cap, .slice ao' n' cap'] w fun e w' => e = .returned (.bool true) ∧ Below w.heap.size w w' := by
  have hf := R.fits
  have hmx := R.most
  have hln := R.len
  have hf' := R'.fits
  have hmx' := R'.most
  have hln' := R'.len
  unfold maxLen at hmx hmx'
  have HR := hid R
  have HR' := hid R'
  have CA := hid (fun W : World => arawake_any W)
  clear R R'
  by_cases hc1 : N < 1
  · go_enter Tryz.func3, Tryz.ntmps3
    go_wp2_with (go_at_call 5; (with_reducible refine (CA.out _).mono ?_); rintro e We ⟨rfl, ve⟩; have HBe := hid ve; clear ve)
    go_ret
    exact ⟨rfl, HBe.out⟩
  by_cases hc2 : 500 < N
  · go_enter Tryz.func3, Tryz.ntmps3
    go_wp2_with (go_at_call 5; (with_reducible refine (CA.out _).mono ?_); rintro e We ⟨rfl, ve⟩; have HBe := hid ve; clear ve)
    go_ret
    exact ⟨rfl, HBe.out⟩
  by_cases hc3 : 30 < n
  · go_enter Tryz.func3, Tryz.ntmps3
    go_wp2_with (go_at_call 5; (with_reducible refine (CA.out _).mono ?_); rintro e We ⟨rfl, ve⟩; have HBe := hid ve; clear ve)
    go_ret
    exact ⟨rfl, HBe.out⟩
  by_cases hc4 : 60 < n'
  · go_enter Tryz.func3, Tryz.ntmps3
    go_wp2_with (go_at_call 5; (with_reducible refine (CA.out _).mono ?_); rintro e We ⟨rfl, ve⟩; have HBe := hid ve; clear ve)
    go_ret
    exact ⟨rfl, HBe.out⟩
  have CG := hid (zgood_any ao n cap l w HR.out (by omega))
  by_cases hg : l.all goodZ = true
  case neg =>
    have hg' : l.all goodZ = false := by cases h : l.all goodZ <;> simp_all only [not_true, not_false_iff]
    rw [hg'] at CG
    clear hg hg'
    go_enter Tryz.func3, Tryz.ntmps3
    go_wp2_with (first
      | (go_at_call 4; (with_reducible refine CG.out.mono ?_); rintro e W1 ⟨rfl, v1⟩; have HB2 := hid v1; clear v1)
      | (go_at_call 5; (with_reducible refine (CA.out _).mono ?_); rintro e W2 ⟨rfl, v2⟩; have HB3 := hid (Bt HB2.out v2); clear v2))
    go_ret
    exact ⟨rfl, HB3.out⟩
  rw [hg] at CG
  have HG := hid hg
  clear hg
  go_enter Tryz.func3, Tryz.ntmps3
  go_wp2_with fail
  (with_reducible refine CG.out.mono ?_)
  rintro e W1 ⟨rfl, b1⟩
  have HB1 := hid b1
  clear b1 CG
  go_wp2_with fail
  (with_reducible refine (pnew_ok N (by omega) (by omega) W1).mono ?_)
  rintro e W2 ⟨v, F, rfl, hP, b2⟩
  have HP2 := hid hP
  have HB2 := hid b2
  obtain ⟨gh, rfl⟩ := hP.ptr
  clear hP b2
  go_wp2_with fail
  (with_reducible refine (rnew_ok N (by omega) (by omega) W2).mono ?_)
  rintro e W3 ⟨g, rfl, hgg, hRH, b3⟩
  have HAX0 : Hid (AX W1.heap.size W1 gh g N [] [] (.slice none 0 0) [] (fun _ => False) W3) := by
    refine ⟨⟨F, .slice none 0 0, [], ⟨HP2.out.onb b3, hRH.weak HB2.out.size, rfl, fun b hF hR => ?_, os_nil, os_nil, Nat.le_trans HB2.out.size b3.size⟩, fun b e => (by rcases e with e | e; cases e; exact e.elim)⟩, World.ownsRow_nil _ _ _ _, (fun z hz => (by cases hz)), HB2.out.trans (b3.mono HB2.out.size), (fun b e => e.elim)⟩
    have h1 := (HP2.out.ge b hF).2
    rcases hR with e | e | ⟨x, hx, _⟩
    · omega
    · cases e
    · cases hx
  obtain ⟨B, hB⟩ : ∃ B, B = W1.heap.size := ⟨_, rfl⟩
  rw [← hB] at HAX0
  have HBB := hid hB
  have HBW : Hid (∀ X, Below B W1 X → Below w.heap.size w X) := fun X h => by rw [HBB.out] at h; exact Bt HB1.out h
  clear hgg hRH b3 HP2 HB2 hB
  go_wp2_with fail
  go_loopw [11, 12] (fun vW i wr => ∃ q : Nat, q ≤ n ∧ i = .int .i64 q ∧ Hid (∃ os ws, AX B W1 gh g N os os vW ws (fun _ => False) wr ∧ AllBig os ∧ ws.length ≤ q)) (fun _ i _ => n - (intOf i).toNat)
  case atStart => exact ⟨0, Nat.zero_le _, rfl, [], [], HAX0.out, all_nil, Nat.le_refl _⟩
  case round =>
    obtain ⟨q, hq, rfl, hI⟩ := hrel
    obtain ⟨os, ws, hA, hL, hW⟩ := hI.out
    obtain ⟨aw, cw, hvw, hU⟩ := hA.urow
    subst hvw
    obtain ⟨nw, hnw⟩ : ∃ k, k = ws.length := ⟨_, rfl⟩
    rw [← hnw] at hA hW hU ⊢
    have HNW := hid hnw
    have HA := hid hA
    have HL := hid hL
    have huf := hU.fits
    have hum := hU.most
    unfold maxLen at hum
    clear hI hA hL hnw hU
    by_cases hlt : q < n
    · obtain ⟨b, o, rfl, hlb, hc⟩ := (HR.out.below HB1.out).some (by omega)
      obtain ⟨c0, a, m, c, c1, hrow⟩ := hc q hlt
      have hgz : goodZ (l.getD q default) = true := List.all_eq_true.1 HG.out _ (by rw [List.getD_eq_getElem?_getD, List.getElem?_eq_getElem (by omega)]; exact List.getElem_mem _)
      obtain ⟨⟨s, lm⟩, hx⟩ : ∃ x, x = l.getD q default := ⟨_, rfl⟩
      rw [← hx] at c0 hrow hgz
      have c0 : W1.cell? ⟨b, o + q * 2, none⟩ = some (.bool s) := c0
      have hrow : Row .u32 B32 W1 a m c lm := hrow
      have hint : IsInt W1 (.agg #[.bool s, .slice a m c]) (sgn s (val B32 lm)) := ⟨s, lm, ⟨a, m, c, rfl, hrow⟩, hgz, rfl⟩
      obtain ⟨z, hz⟩ : ∃ z, z = sgn s (val B32 lm) := ⟨_, rfl⟩
      rw [← hz] at hint
      have hsmall : ¬ Big z.natAbs := hint.parts.2.2.1
      have HC : Hid (∀ X, Below B W1 X → X.cell? ⟨b, o + q * 2, none⟩ = some (.bool s) ∧ X.cell? ⟨b, o + q * 2 + 1, none⟩ = some (.slice a m c) ∧ IsInt X (.agg #[.bool s, .slice a m c]) z) := fun X hX => by
        rw [HBB.out] at hX
        exact ⟨(hX.cell (p := ⟨b, o + q * 2, none⟩) hlb).trans c0, (hX.cell (p := ⟨b, o + q * 2 + 1, none⟩) hlb).trans c1, hint.below hX⟩
      have HL' := hid (layO_all HL.out N hsmall)
      have hpu := layM_u os N z
      have HPU := hid hpu
      clear hc hx hrow hint hz hgz c0 c1 hsmall hpu
      obtain ⟨c0, c1, hI1⟩ := HC.out wr HA.out.bel
      have C1 := hid (HA.out.lay _ z hI1)
      clear hI1
      obtain ⟨pw, hpw⟩ : ∃ p, p = (layM os N z).1 := ⟨_, rfl⟩
      obtain ⟨e1, he1⟩ : ∃ p, p = (layM os N z).2 := ⟨_, rfl⟩
      obtain ⟨os', hos'⟩ : ∃ p, p = layO os N z := ⟨_, rfl⟩
      rw [← hpw, ← he1, ← hos'] at C1
      rw [← hpw] at HPU
      rw [← hos'] at HL'
      have HPE : Hid ((layM os N z).1 = pw ∧ (layM os N z).2 = e1 ∧ layO os N z = os') := ⟨hpw.symm, he1.symm, hos'.symm⟩
      clear hpw he1 hos'
      go_wp2_with fail
      (with_reducible refine C1.out.mono ?_)
      rintro e V1 ⟨rfl, hA1, _⟩
      clear c0 c1
      obtain ⟨c0, c1, hI2⟩ := HC.out V1 hA1.bel
      have C2 := hid (hA1.rlay _ z hI2)
      rw [HPE.out.1, HPE.out.2.1, HPE.out.2.2] at C2
      clear hA1 hI2
      go_wp2_with fail
      (with_reducible refine C2.out.mono ?_)
      rintro e V2 ⟨rfl, hA2, _⟩
      have HA2 := hid hA2
      clear hA2 c0 c1
      have hb1 : (pw != pw) = false := by simp
      have hb2 : (e1 != e1) = false := by simp
      by_cases hee : e1 = 0
      · subst hee
        have HA3 := hid (HA2.out.on (Ba V2 (.cells #[.int .u64 pw] 35)))
        have HO1 := hid HA3.out.row
        rw [← HNW.out] at HO1
        have HSA := hid HA3.out.bw
        have HC1 : Hid ((V2.alloc (.cells #[.int .u64 pw] 35)).cell? ⟨V2.heap.size, 0, none⟩ = some (.int .u64 pw)) := blk_cell (blk_new V2 #[.int .u64 pw] 35) 0
        go_wp2_with (at_builtin; refine bappK .u64 8 (by decide) rfl _ _ 33 rfl B 35 Tryz.underlying33 info_word _ nw ws rfl HO1.out ⟨V2.heap.size, 0, none⟩ 1 pw rfl HC1.out (by omega) HSA.out ?_; intro g2 cap2 w2 ho2 hg2 hl2 hlt2; have HA4 := hid (HA3.out.push HPU.out HNW.out.symm ho2 hg2 hl2); clear ho2 hg2 hl2 hlt2)
        refine ⟨⟨q + 1, by omega, by go_num, os', ws ++ [pw], HA4.out, HL'.out, ?_⟩, by simp [intOf] <;> omega⟩
        rw [List.length_append, ← HNW.out]; simp; omega
      · have hb3 : (e1 == 0) = false := by simpa using hee
        go_wp2_with fail
        refine ⟨⟨q + 1, by omega, by go_num, os', ws, HA2.out, HL'.out, ?_⟩, by simp [intOf] <;> omega⟩
        rw [← HNW.out]; omega
    · obtain rfl : q = n := by omega
      go_wp2_with fail
      have HAX1 : Hid (AX B W1 gh g N os os (.slice aw nw cw) ws (fun _ => False) wr) := HA.out
      have hnw60 : nw ≤ 30 := by omega
      clear HAX0
      go_loopw [11, 17] (fun vW i wr => ∃ q : Nat, q ≤ n' ∧ i = .int .i64 q ∧ Hid (∃ os ws, AX B W1 gh g N os os vW ws (fun _ => False) wr ∧ AllBig os ∧ ws.length ≤ 30 + q)) (fun _ i _ => n' - (intOf i).toNat)
      case atStart => exact ⟨0, Nat.zero_le _, rfl, os, ws, HAX1.out, HL.out, by rw [← HNW.out]; omega⟩
      case round =>
        clear HAX1 HA HL HNW huf hum hnw60 hW
        obtain ⟨qi, hq, rfl, hI⟩ := hrel
        obtain ⟨os, ws, hA, hL, hW⟩ := hI.out
        obtain ⟨aw, cw, hvw, hU⟩ := hA.urow
        subst hvw
        obtain ⟨nw, hnw⟩ : ∃ k, k = ws.length := ⟨_, rfl⟩
        rw [← hnw] at hA hW hU ⊢
        have HNW := hid hnw
        have HA := hid hA
        have HL := hid hL
        have HUR := hid hU
        have huf := hU.fits
        have hum := hU.most
        unfold maxLen at hum
        clear hI hA hL hnw hU
        by_cases hlt : qi < n'
        · have HBw := hid (HBW.out wr HA.out.bel)
          obtain ⟨ab, ai, hao, hab, hcc⟩ : ∃ b o, ao' = some ⟨b, o, none⟩ ∧ b < w.heap.size ∧ ∀ i, i < la.length → AkAt w b (o + i * 5) (la.getD i default) := by
            rcases HR'.out.rd with e | h
            · have := HR'.out.len; rw [e] at this; simp at this; omega
            · exact h
          subst hao
          have hok := HR'.out.ok (la.getD qi default) (by rw [List.getD_eq_getElem?_getD, List.getElem?_eq_getElem (by omega)]; exact List.getElem_mem _)
          obtain ⟨m0, m1, m2, m3, m4⟩ := hcc qi (by omega)
          obtain ⟨⟨op, xa, xb, raw, xw⟩, hdd⟩ : ∃ x, x = la.getD qi default := ⟨_, rfl⟩
          rw [← hdd] at hok m0 m1 m2 m3 m4
          have hxa : Z64 xa := hok.a
          have hxb : Z64 xb := hok.b
          have hop : Z64 op := hok.op
          have hup := wordM_u hok HA.out.uw xa
          have huq := wordM_u hok HA.out.uw xb
          have m0 : wr.cell? ⟨ab, ai + qi * 5, none⟩ = some (.int .i64 op) := (HBw.out.cell (p := ⟨ab, ai + qi * 5, none⟩) hab).trans m0
          have m1 : wr.cell? ⟨ab, ai + qi * 5 + 1, none⟩ = some (.int .i64 xa) := (HBw.out.cell (p := ⟨ab, ai + qi * 5 + 1, none⟩) hab).trans m1
          have m2 : wr.cell? ⟨ab, ai + qi * 5 + 2, none⟩ = some (.int .i64 xb) := (HBw.out.cell (p := ⟨ab, ai + qi * 5 + 2, none⟩) hab).trans m2
          have m3 : wr.cell? ⟨ab, ai + qi * 5 + 3, none⟩ = some (.bool raw) := (HBw.out.cell (p := ⟨ab, ai + qi * 5 + 3, none⟩) hab).trans m3
          have m4 : wr.cell? ⟨ab, ai + qi * 5 + 4, none⟩ = some (.int .u64 xw) := (HBw.out.cell (p := ⟨ab, ai + qi * 5 + 4, none⟩) hab).trans m4
          have hblk := blk_new wr #[.int .i64 op, .int .i64 xa, .int .i64 xb, .bool raw, .int .u64 xw] 43
          have HAK := hid (HA.out.box (.cells #[.int .i64 op, .int .i64 xa, .int .i64 xb, .bool raw, .int .u64 xw] 43))
          have HURK := hid (HUR.out.on (Ba wr (.cells #[.int .i64 op, .int .i64 xa, .int .i64 xb, .bool raw, .int .u64 xw] 43)))
          have hgl : wr.heap.size < (wr.alloc (.cells #[.int .i64 op, .int .i64 xa, .int .i64 xb, .bool raw, .int .u64 xw] 43)).heap.size := by rw [size_alloc]; omega
          have HK : Hid ((wr.alloc (.cells #[.int .i64 op, .int .i64 xa, .int .i64 xb, .bool raw, .int .u64 xw] 43)).cell? ⟨wr.heap.size, 0, none⟩ = some (.int .i64 op) ∧ (wr.alloc (.cells #[.int .i64 op, .int .i64 xa, .int .i64 xb, .bool raw, .int .u64 xw] 43)).cell? ⟨wr.heap.size, 1, none⟩ = some (.int .i64 xa) ∧ (wr.alloc (.cells #[.int .i64 op, .int .i64 xa, .int .i64 xb, .bool raw, .int .u64 xw] 43)).cell? ⟨wr.heap.size, 2, none⟩ = some (.int .i64 xb) ∧ (wr.alloc (.cells #[.int .i64 op, .int .i64 xa, .int .i64 xb, .bool raw, .int .u64 xw] 43)).cell? ⟨wr.heap.size, 3, none⟩ = some (.bool raw) ∧ (wr.alloc (.cells #[.int .i64 op, .int .i64 xa, .int .i64 xb, .bool raw, .int .u64 xw] 43)).cell? ⟨wr.heap.size, 4, none⟩ = some (.int .u64 xw) ∧ Below (wr.alloc (.cells #[.int .i64 op, .int .i64 xa, .int .i64 xb, .bool raw, .int .u64 xw] 43)).heap.size (wr.alloc (.cells #[.int .i64 op, .int .i64 xa, .int .i64 xb, .bool raw, .int .u64 xw] 43)) (wr.alloc (.cells #[.int .i64 op, .int .i64 xa, .int .i64 xb, .bool raw, .int .u64 xw] 43))) := ⟨blk_cell hblk 0, blk_cell hblk 1, blk_cell hblk 2, blk_cell hblk 3, blk_cell hblk 4, Below.refl _ _⟩
          have HGL := hid hgl
          have CW : Hid (∀ (k : Int) (X : World), Z64 k → URow X aw nw cw ws → Calls Tryz.prog 10 #[.agg #[.int .i64 op, .int .i64 xa, .int .i64 xb, .bool raw, .int .u64 xw], .slice aw nw cw, .int .i64 k] X fun e w' => e = .returned (.int .u64 (wordM ⟨op, xa, xb, raw, xw⟩ ws k)) ∧ Below X.heap.size X w') := fun k X hk U => askword_any ⟨op, xa, xb, raw, xw⟩ aw nw cw ws k hk X U (by omega)
          have HXA := hid hxa
          have HXB := hid hxb
          have HPp := hid hup
          have HPq := hid huq
          unfold Z64 at hop
          clear hcc hok hdd hxa hxb hup huq hblk hab hgl
          go_wp2_with fail
          clear m0 m1 m2 m3 m4
          obtain ⟨gk, hgk⟩ : ∃ k, k = wr.heap.size := ⟨_, rfl⟩
          rw [← hgk] at HK HAK HGL ⊢
          generalize wr.alloc (.cells #[.int .i64 op, .int .i64 xa, .int .i64 xb, .bool raw, .int .u64 xw] 43) = Wk at *
          clear hgk
          have C1 : Hid (∀ X, Below Wk.heap.size Wk X → Calls Tryz.prog 10 #[.agg #[.int .i64 op, .int .i64 xa, .int .i64 xb, .bool raw, .int .u64 xw], .slice aw nw cw, .int .i64 xa] X fun e w' => e = .returned (.int .u64 (wordM ⟨op, xa, xb, raw, xw⟩ ws xa)) ∧ Below X.heap.size X w') := fun X h => CW.out xa X HXA.out (HURK.out.on h)
          have C2 : Hid (∀ X, Below Wk.heap.size Wk X → Calls Tryz.prog 10 #[.agg #[.int .i64 op, .int .i64 xa, .int .i64 xb, .bool raw, .int .u64 xw], .slice aw nw cw, .int .i64 xb] X fun e w' => e = .returned (.int .u64 (wordM ⟨op, xa, xb, raw, xw⟩ ws xb)) ∧ Below X.heap.size X w') := fun X h => CW.out xb X HXB.out (HURK.out.on h)
          obtain ⟨p, hp⟩ : ∃ x, x = wordM ⟨op, xa, xb, raw, xw⟩ ws xa := ⟨_, rfl⟩
          obtain ⟨q, hqq⟩ : ∃ x, x = wordM ⟨op, xa, xb, raw, xw⟩ ws xb := ⟨_, rfl⟩
          rw [← hp] at C1 HPp
          rw [← hqq] at C2 HPq
          clear hp hqq
          have tok1 : True := trivial
          go_region_held3 (fun wx => wx.cell? ⟨gk, 0, none⟩ = some (.int .i64 op) ∧ wx.cell? ⟨gk, 1, none⟩ = some (.int .i64 xa) ∧ wx.cell? ⟨gk, 2, none⟩ = some (.int .i64 xb) ∧ wx.cell? ⟨gk, 3, none⟩ = some (.bool raw) ∧ wx.cell? ⟨gk, 4, none⟩ = some (.int .u64 xw) ∧ Below Wk.heap.size Wk wx)
            (first | exact five_on HK.out (Bd Wk 1) | exact five_on (by assumption) (by assumption))
            (first
              | (go_at_call 10; have _t := tok1; (with_reducible refine (C1.out _ ?_).mono ?_); (exact five_bel (p := gk) (a0 := .int .i64 op) (a1 := .int .i64 xa) (a2 := .int .i64 xb) (a3 := .bool raw) (a4 := .int .u64 xw) (by assumption)); rintro e wa ⟨rfl, ba⟩; clear tok1)
              | (go_at_call 10; (with_reducible refine (C2.out _ ?_).mono ?_); (exact five_bel (p := gk) (a0 := .int .i64 op) (a1 := .int .i64 xa) (a2 := .int .i64 xb) (a3 := .bool raw) (a4 := .int .u64 xw) (by assumption)); rintro e wb ⟨rfl, bb⟩))
          rename_i hHeld
          obtain ⟨k0, _, _, _, _, hbl⟩ := hHeld
          have HA0 := hid (HAK.out.on hbl)
          have HGK0 := hid (Nat.lt_of_lt_of_le HGL.out hbl.size)
          have HKO0 := hid k0
          clear hbl ba bb HK HAK HURK CW C1 C2 HGL
          generalize wb = X0 at *
          have C3 := hid (HA0.out.room HL.out op p q HPp.out HPq.out)
          obtain ⟨rm, hrm⟩ : ∃ x, x = needZ (resZ os op p q).1 := ⟨_, rfl⟩
          rw [← hrm] at C3
          have HRM := hid hrm
          clear hrm
          go_wp2_with fail
          (with_reducible refine C3.out.mono ?_)
          rintro e X1 ⟨rfl, v1⟩
          have HA1 := hid (HA0.out.on v1)
          have HKO1 := hid ((v1.cell (p := ⟨gk, 0, none⟩) HGK0.out).trans HKO0.out)
          have HGK1 := hid (Nat.lt_of_lt_of_le HGK0.out v1.size)
          clear v1 k0 HA0 HKO0 HGK0 C3
          obtain ⟨zp, hzp⟩ : ∃ z, z = (numM os p).getD 0 := ⟨_, rfl⟩
          obtain ⟨zq, hzq⟩ : ∃ z, z = (numM os q).getD 0 := ⟨_, rfl⟩
          obtain ⟨bp, hbp⟩ : ∃ z, z = (numM os p).isSome := ⟨_, rfl⟩
          obtain ⟨bq, hbq⟩ : ∃ z, z = (numM os q).isSome := ⟨_, rfl⟩
          have HCB : Hid ((bp && bq) = true → cmpM os p q = cmpZ zp zq ∧ (bothZ os p q).2.2 = 0) := by rw [hzp, hzq, hbp, hbq]; exact cmp_both os p q
          have HCN : Hid ((bp && bq) = false → cmpM os p q = 0 ∧ (bothZ os p q).2.2 = 70) := by rw [hbp, hbq]; exact cmp_none os p q
          have C4 := hid (HA1.out.number HL.out p HPp.out)
          rw [← hzp, ← hbp] at C4
          have HZP := hid hzp
          have HZQ := hid hzq
          have HBP := hid hbp
          have HBQ := hid hbq
          clear hzp hzq hbp hbq
          go_wp2_with fail
          (with_reducible refine C4.out.mono ?_)
          rintro e X2 ⟨su, au, nu, cu, rfl, iu, v2⟩
          have u2 := Bt v2 (Ba X2 (.cells #[.bool su, .slice au nu cu] 40))
          have HU2 := hid (Box.new 40 X2 su au nu cu)
          have IU2 := hid (iu.below (Ba X2 (.cells #[.bool su, .slice au nu cu] 40)))
          have HA2 := hid (HA1.out.on u2)
          have HKO2 := hid ((u2.cell (p := ⟨gk, 0, none⟩) HGK1.out).trans HKO1.out)
          have HGK2 := hid (Nat.lt_of_lt_of_le HGK1.out u2.size)
          clear v2 u2 iu HA1 HKO1 HGK1 C4
          have C5 := hid (HA2.out.rnumber HL.out p HPp.out)
          rw [← HZP.out, ← HBP.out] at C5
          go_wp2_with fail
          obtain ⟨gu, hgu⟩ : ∃ k, k = X2.heap.size := ⟨_, rfl⟩
          rw [← hgu] at HU2 ⊢
          generalize X2.alloc (.cells #[.bool su, .slice au nu cu] 40) = X2' at *
          clear hgu
          (with_reducible refine C5.out.mono ?_)
          rintro e X3 ⟨sv, av, nv, cv, rfl, iv, v3⟩
          have u3 := Bt v3 (Ba X3 (.cells #[.bool sv, .slice av nv cv] 40))
          have HV3 := hid (Box.new 40 X3 sv av nv cv)
          have IV3 := hid (iv.below (Ba X3 (.cells #[.bool sv, .slice av nv cv] 40)))
          have HU3 := hid (HU2.out.on u3)
          have IU3 := hid (IU2.out.below u3)
          have HA3 := hid (HA2.out.on u3)
          have HKO3 := hid ((u3.cell (p := ⟨gk, 0, none⟩) HGK2.out).trans HKO2.out)
          have HGK3 := hid (Nat.lt_of_lt_of_le HGK2.out u3.size)
          clear v3 u3 iv HA2 HKO2 HGK2 C5 HU2 IU2
          have C6 := hid (HA3.out.cmp HL.out p q HPp.out HPq.out)
          obtain ⟨cm, hcm⟩ : ∃ x, x = cmpM os p q := ⟨_, rfl⟩
          obtain ⟨ce, hce⟩ : ∃ x, x = (bothZ os p q).2.2 := ⟨_, rfl⟩
          rw [← hcm, ← hce] at C6 HCB HCN
          clear hcm hce
          go_wp2_with fail
          obtain ⟨gv, hgv⟩ : ∃ k, k = X3.heap.size := ⟨_, rfl⟩
          rw [← hgv] at HV3 ⊢
          generalize X3.alloc (.cells #[.bool sv, .slice av nv cv] 40) = X3' at *
          clear hgv
          (with_reducible refine C6.out.mono ?_)
          rintro e X4 ⟨rfl, v4⟩
          have HA4 := hid (HA3.out.on v4)
          have HU4 := hid (HU3.out.on v4)
          have HV4 := hid (HV3.out.on v4)
          have IU4 := hid (IU3.out.below v4)
          have IV4 := hid (IV3.out.below v4)
          have HKO4 := hid ((v4.cell (p := ⟨gk, 0, none⟩) HGK3.out).trans HKO3.out)
          have HGK4 := hid (Nat.lt_of_lt_of_le HGK3.out v4.size)
          clear v4 HA3 HKO3 HGK3 C6 HU3 HV3 IU3 IV3
          have C7 := hid (HA4.out.rnumber HL.out q HPq.out)
          rw [← HZQ.out, ← HBQ.out] at C7
          go_wp2_with fail
          (with_reducible refine C7.out.mono ?_)
          rintro e X5 ⟨sz, az, nz, cz, rfl, iz, v5⟩
          have u5 := Bt v5 (Ba X5 (.cells #[.bool sz, .slice az nz cz] 40))
          have HZ5 := hid (Box.new 40 X5 sz az nz cz)
          have IZ5 := hid (iz.below (Ba X5 (.cells #[.bool sz, .slice az nz cz] 40)))
          have HA5 := hid (HA4.out.on u5)
          have HU5 := hid (HU4.out.on u5)
          have HV5 := hid (HV4.out.on u5)
          have IU5 := hid (IU4.out.below u5)
          have IV5 := hid (IV4.out.below u5)
          have HKO5 := hid ((u5.cell (p := ⟨gk, 0, none⟩) HGK4.out).trans HKO4.out)
          have HGK5 := hid (Nat.lt_of_lt_of_le HGK4.out u5.size)
          clear v5 u5 iz HA4 HKO4 HGK4 C7 HU4 HV4 IU4 IV4
          by_cases hbo : (bp && bq) = true
          · obtain ⟨hx1, hx2⟩ := HCB.out hbo
            rw [Bool.and_eq_true] at hbo
            obtain ⟨rfl, rfl⟩ := hbo
            have C8 := hid (rcmp_is _ _ zp zq _ IV5.out IZ5.out)
            rw [← hx1] at C8
            subst hx2
            clear hx1
            obtain ⟨y0, y1⟩ := HV5.out.c
            obtain ⟨y2, y3⟩ := HZ5.out.c
            go_wp2_with fail
            clear y0 y1 y2 y3
            obtain ⟨gz, hgz⟩ : ∃ k, k = X5.heap.size := ⟨_, rfl⟩
            rw [← hgz]
            generalize X5.alloc (.cells #[.bool sz, .slice az nz cz] 40) = X5' at *
            clear hgz
            (with_reducible refine C8.out.mono ?_)
            rintro e X6 ⟨rfl, v6⟩
            have HA6 := hid (HA5.out.on v6)
            have HU6 := hid (HU5.out.on v6)
            have HV6 := hid (HV5.out.on v6)
            have IU6 := hid (IU5.out.below v6)
            have IV6 := hid (IV5.out.below v6)
            have HKO6 := hid ((v6.cell (p := ⟨gk, 0, none⟩) HGK5.out).trans HKO5.out)
            have HGK6 := hid (Nat.lt_of_lt_of_le HGK5.out v6.size)
            clear v6 HA5 HKO5 HGK5 C8 HU5 HV5 IU5 IV5
            have k0 := HKO6.out
            have C9 := hid (HA6.out.rroom HL.out op p q HPp.out HPq.out)
            rw [← HRM.out] at C9
            go_wp2_with fail
            clear k0
            (with_reducible refine C9.out.mono ?_)
            rintro e X7 ⟨rfl, v7⟩
            have HA7 := hid (HA6.out.on v7)
            have hko := (v7.cell (p := ⟨gk, 0, none⟩) HGK6.out).trans HKO6.out
            have y1 := (HU6.out.on v7).c
            have y2 := (HV6.out.on v7).c
            have IU7 := hid (IU6.out.below v7)
            have IV7 := hid (IV6.out.below v7)
            have HU7 := hid (HU6.out.on v7)
            have HKO7 := hid hko
            have HGK7 := hid (Nat.lt_of_lt_of_le HGK6.out v7.size)
            obtain ⟨c0, c1⟩ := y1
            obtain ⟨c2, c3⟩ := y2
            clear v7 hko
            have hbr : (rm != rm) = false := by simp
            go_wp2_with fail
            clear c0 c1 c2 c3
            (with_reducible refine (zsame_true _ _ zp X7 IU7.out IV7.out).mono ?_)
            rintro e X8 ⟨rfl, v8⟩
            have HA8 := hid (HA7.out.on v8)
            have k0 := (v8.cell (p := ⟨gk, 0, none⟩) HGK7.out).trans HKO7.out
            have HGK8 := hid (Nat.lt_of_lt_of_le HGK7.out v8.size)
            clear v8
            have hc1 : (cm != cm) = false := by simp
            have HK0 := hid k0
            go_wp2_with fail
            (with_reducible refine (HA8.out.do_ HL.out op p q HPp.out HPq.out).mono ?_)
            rintro e X9 ⟨rfl, hA9, hk9⟩
            have HA9 := hid hA9
            have k9 : X9.cell? ⟨gk, 0, none⟩ = some (.int .i64 op) := (World.cell?_of_block (w := X8) (a := ⟨gk, 0, none⟩) (hk9 gk rfl)).trans HK0.out
            clear hA9 hk9 k0
            have hdz := do_zero (os := os) (N := N) (op := op) (p := p) (q := q)
            have hdu := doM_u os N op p q
            have HL9 := hid (doO_all HL.out N op p q)
            have C10 := hid (HA9.out.rdo HL.out op p q HPp.out HPq.out)
            obtain ⟨sw, hsw⟩ : ∃ x, x = (doM os N op p q).1 := ⟨_, rfl⟩
            obtain ⟨fe, hfe⟩ : ∃ x, x = (doM os N op p q).2 := ⟨_, rfl⟩
            obtain ⟨os', hos'⟩ : ∃ x, x = doO os N op p q := ⟨_, rfl⟩
            rw [← hsw, ← hfe] at C10 hdz
            rw [← hsw] at hdu
            rw [← hos'] at C10 HL9
            rw [← hsw, ← hfe]
            have HDZ := hid hdz
            have HDU := hid hdu
            clear hdz hdu hsw hfe hos'
            go_wp2_with fail
            (with_reducible refine C10.out.mono ?_)
            rintro e X10 ⟨rfl, hA10, _⟩
            have HA10 := hid hA10
            clear hA10 k9
            have hb1 : (sw != sw) = false := by simp
            have hb2 : (fe != fe) = false := by simp
            obtain ⟨uu, huu⟩ : ∃ u, u = usedL os' := ⟨_, rfl⟩
            have C11 := hid HA10.out.used
            rw [← huu] at C11
            go_wp2_with fail
            (with_reducible refine C11.out.mono ?_)
            rintro e X11 ⟨rfl, v11⟩
            have HA11 := hid (HA10.out.on v11)
            have C12 := hid HA11.out.rused
            rw [← huu] at C12
            clear v11 huu
            go_wp2_with fail
            (with_reducible refine C12.out.mono ?_)
            rintro e X12 ⟨rfl, v12⟩
            have HA12 := hid (HA11.out.on v12).drop
            clear v12
            have hb4 : ((uu : Int) != (uu : Int)) = false := by simp
            by_cases hee : fe = 0
            · subst hee
              have HA3 := hid (HA12.out.on (Ba X12 (.cells #[.int .u64 sw] 35)))
              have HO1 := hid HA3.out.row
              rw [← HNW.out] at HO1
              have HSA := hid HA3.out.bw
              have HC1 : Hid ((X12.alloc (.cells #[.int .u64 sw] 35)).cell? ⟨X12.heap.size, 0, none⟩ = some (.int .u64 sw)) := blk_cell (blk_new X12 #[.int .u64 sw] 35) 0
              go_wp2_with (at_builtin; refine bappK .u64 8 (by decide) rfl _ _ 33 rfl B 35 Tryz.underlying33 info_word _ nw ws rfl HO1.out ⟨X12.heap.size, 0, none⟩ 1 sw rfl HC1.out (by omega) HSA.out ?_; intro g2 cap2 w2 ho2 hg2 hl2 hlt2; have HA4 := hid (HA3.out.push HDU.out HNW.out.symm ho2 hg2 hl2); clear ho2 hg2 hl2 hlt2)
              refine ⟨⟨qi + 1, by omega, by go_num, os', ws ++ [sw], HA4.out, HL9.out, ?_⟩, by simp [intOf] <;> omega⟩
              rw [List.length_append, ← HNW.out]; simp; omega
            · have hb3 : (fe == 0) = false := by simpa using hee
              have hb5 : (fe != 0) = true := by simpa using hee
              have hz0 := HDZ.out hee
              subst hz0
              go_wp2_with fail
              refine ⟨⟨qi + 1, by omega, by go_num, os', ws, HA12.out, HL9.out, ?_⟩, by simp [intOf] <;> omega⟩
              rw [← HNW.out]; omega
          · have hbo' : (bp && bq) = false := by simpa using hbo
            obtain ⟨hx1, hx2⟩ := HCN.out hbo'
            subst hx1 hx2
            clear hbo
            cases bp
            · have k0 := HKO5.out
              have C9 := hid (HA5.out.rroom HL.out op p q HPp.out HPq.out)
              rw [← HRM.out] at C9
              go_wp2_with fail
              clear k0
              obtain ⟨gz, hgz⟩ : ∃ k, k = X5.heap.size := ⟨_, rfl⟩
              rw [← hgz]
              generalize X5.alloc (.cells #[.bool sz, .slice az nz cz] 40) = X5' at *
              clear hgz
              (with_reducible refine C9.out.mono ?_)
              rintro e X7 ⟨rfl, v7⟩
              have HA7 := hid (HA5.out.on v7)
              have hko := (v7.cell (p := ⟨gk, 0, none⟩) HGK5.out).trans HKO5.out
              have y1 := (HU5.out.on v7).c
              have y2 := (HV5.out.on v7).c
              have IU7 := hid (IU5.out.below v7)
              have IV7 := hid (IV5.out.below v7)
              have HU7 := hid (HU5.out.on v7)
              have HKO7 := hid hko
              have HGK7 := hid (Nat.lt_of_lt_of_le HGK5.out v7.size)
              obtain ⟨c0, c1⟩ := y1
              obtain ⟨c2, c3⟩ := y2
              clear v7 hko
              have hbr : (rm != rm) = false := by simp
              go_wp2_with fail
              clear c0 c1 c2 c3
              (with_reducible refine (zsame_true _ _ zp X7 IU7.out IV7.out).mono ?_)
              rintro e X8 ⟨rfl, v8⟩
              have HA8 := hid (HA7.out.on v8)
              have k0 := (v8.cell (p := ⟨gk, 0, none⟩) HGK7.out).trans HKO7.out
              have HGK8 := hid (Nat.lt_of_lt_of_le HGK7.out v8.size)
              clear v8
              have hc1 : True := trivial
              have HK0 := hid k0
              go_wp2_with fail
              (with_reducible refine (HA8.out.do_ HL.out op p q HPp.out HPq.out).mono ?_)
              rintro e X9 ⟨rfl, hA9, hk9⟩
              have HA9 := hid hA9
              have k9 : X9.cell? ⟨gk, 0, none⟩ = some (.int .i64 op) := (World.cell?_of_block (w := X8) (a := ⟨gk, 0, none⟩) (hk9 gk rfl)).trans HK0.out
              clear hA9 hk9 k0
              have hdz := do_zero (os := os) (N := N) (op := op) (p := p) (q := q)
              have hdu := doM_u os N op p q
              have HL9 := hid (doO_all HL.out N op p q)
              have C10 := hid (HA9.out.rdo HL.out op p q HPp.out HPq.out)
              obtain ⟨sw, hsw⟩ : ∃ x, x = (doM os N op p q).1 := ⟨_, rfl⟩
              obtain ⟨fe, hfe⟩ : ∃ x, x = (doM os N op p q).2 := ⟨_, rfl⟩
              obtain ⟨os', hos'⟩ : ∃ x, x = doO os N op p q := ⟨_, rfl⟩
              rw [← hsw, ← hfe] at C10 hdz
              rw [← hsw] at hdu
              rw [← hos'] at C10 HL9
              rw [← hsw, ← hfe]
              have HDZ := hid hdz
              have HDU := hid hdu
              clear hdz hdu hsw hfe hos'
              go_wp2_with fail
              (with_reducible refine C10.out.mono ?_)
              rintro e X10 ⟨rfl, hA10, _⟩
              have HA10 := hid hA10
              clear hA10 k9
              have hb1 : (sw != sw) = false := by simp
              have hb2 : (fe != fe) = false := by simp
              obtain ⟨uu, huu⟩ : ∃ u, u = usedL os' := ⟨_, rfl⟩
              have C11 := hid HA10.out.used
              rw [← huu] at C11
              go_wp2_with fail
              (with_reducible refine C11.out.mono ?_)
              rintro e X11 ⟨rfl, v11⟩
              have HA11 := hid (HA10.out.on v11)
              have C12 := hid HA11.out.rused
              rw [← huu] at C12
              clear v11 huu
              go_wp2_with fail
              (with_reducible refine C12.out.mono ?_)
              rintro e X12 ⟨rfl, v12⟩
              have HA12 := hid (HA11.out.on v12).drop
              clear v12
              have hb4 : ((uu : Int) != (uu : Int)) = false := by simp
              by_cases hee : fe = 0
              · subst hee
                have HA3 := hid (HA12.out.on (Ba X12 (.cells #[.int .u64 sw] 35)))
                have HO1 := hid HA3.out.row
                rw [← HNW.out] at HO1
                have HSA := hid HA3.out.bw
                have HC1 : Hid ((X12.alloc (.cells #[.int .u64 sw] 35)).cell? ⟨X12.heap.size, 0, none⟩ = some (.int .u64 sw)) := blk_cell (blk_new X12 #[.int .u64 sw] 35) 0
                go_wp2_with (at_builtin; refine bappK .u64 8 (by decide) rfl _ _ 33 rfl B 35 Tryz.underlying33 info_word _ nw ws rfl HO1.out ⟨X12.heap.size, 0, none⟩ 1 sw rfl HC1.out (by omega) HSA.out ?_; intro g2 cap2 w2 ho2 hg2 hl2 hlt2; have HA4 := hid (HA3.out.push HDU.out HNW.out.symm ho2 hg2 hl2); clear ho2 hg2 hl2 hlt2)
                refine ⟨⟨qi + 1, by omega, by go_num, os', ws ++ [sw], HA4.out, HL9.out, ?_⟩, by simp [intOf] <;> omega⟩
                rw [List.length_append, ← HNW.out]; simp; omega
              · have hb3 : (fe == 0) = false := by simpa using hee
                have hb5 : (fe != 0) = true := by simpa using hee
                have hz0 := HDZ.out hee
                subst hz0
                go_wp2_with fail
                refine ⟨⟨qi + 1, by omega, by go_num, os', ws, HA12.out, HL9.out, ?_⟩, by simp [intOf] <;> omega⟩
                rw [← HNW.out]; omega
            · obtain rfl : bq = false := by simpa using hbo'
              have k0 := HKO5.out
              have C9 := hid (HA5.out.rroom HL.out op p q HPp.out HPq.out)
              rw [← HRM.out] at C9
              go_wp2_with fail
              clear k0
              obtain ⟨gz, hgz⟩ : ∃ k, k = X5.heap.size := ⟨_, rfl⟩
              rw [← hgz]
              generalize X5.alloc (.cells #[.bool sz, .slice az nz cz] 40) = X5' at *
              clear hgz
              (with_reducible refine C9.out.mono ?_)
              rintro e X7 ⟨rfl, v7⟩
              have HA7 := hid (HA5.out.on v7)
              have hko := (v7.cell (p := ⟨gk, 0, none⟩) HGK5.out).trans HKO5.out
              have y1 := (HU5.out.on v7).c
              have y2 := (HV5.out.on v7).c
              have IU7 := hid (IU5.out.below v7)
              have IV7 := hid (IV5.out.below v7)
              have HU7 := hid (HU5.out.on v7)
              have HKO7 := hid hko
              have HGK7 := hid (Nat.lt_of_lt_of_le HGK5.out v7.size)
              obtain ⟨c0, c1⟩ := y1
              obtain ⟨c2, c3⟩ := y2
              clear v7 hko
              have hbr : (rm != rm) = false := by simp
              go_wp2_with fail
              clear c0 c1 c2 c3
              (with_reducible refine (zsame_true _ _ zp X7 IU7.out IV7.out).mono ?_)
              rintro e X8 ⟨rfl, v8⟩
              have HA8 := hid (HA7.out.on v8)
              have k0 := (v8.cell (p := ⟨gk, 0, none⟩) HGK7.out).trans HKO7.out
              have HGK8 := hid (Nat.lt_of_lt_of_le HGK7.out v8.size)
              clear v8
              have hc1 : True := trivial
              have HK0 := hid k0
              go_wp2_with fail
              (with_reducible refine (HA8.out.do_ HL.out op p q HPp.out HPq.out).mono ?_)
              rintro e X9 ⟨rfl, hA9, hk9⟩
              have HA9 := hid hA9
              have k9 : X9.cell? ⟨gk, 0, none⟩ = some (.int .i64 op) := (World.cell?_of_block (w := X8) (a := ⟨gk, 0, none⟩) (hk9 gk rfl)).trans HK0.out
              clear hA9 hk9 k0
              have hdz := do_zero (os := os) (N := N) (op := op) (p := p) (q := q)
              have hdu := doM_u os N op p q
              have HL9 := hid (doO_all HL.out N op p q)
              have C10 := hid (HA9.out.rdo HL.out op p q HPp.out HPq.out)
              obtain ⟨sw, hsw⟩ : ∃ x, x = (doM os N op p q).1 := ⟨_, rfl⟩
              obtain ⟨fe, hfe⟩ : ∃ x, x = (doM os N op p q).2 := ⟨_, rfl⟩
              obtain ⟨os', hos'⟩ : ∃ x, x = doO os N op p q := ⟨_, rfl⟩
              rw [← hsw, ← hfe] at C10 hdz
              rw [← hsw] at hdu
              rw [← hos'] at C10 HL9
              rw [← hsw, ← hfe]
              have HDZ := hid hdz
              have HDU := hid hdu
              clear hdz hdu hsw hfe hos'
              go_wp2_with fail
              (with_reducible refine C10.out.mono ?_)
              rintro e X10 ⟨rfl, hA10, _⟩
              have HA10 := hid hA10
              clear hA10 k9
              have hb1 : (sw != sw) = false := by simp
              have hb2 : (fe != fe) = false := by simp
              obtain ⟨uu, huu⟩ : ∃ u, u = usedL os' := ⟨_, rfl⟩
              have C11 := hid HA10.out.used
              rw [← huu] at C11
              go_wp2_with fail
              (with_reducible refine C11.out.mono ?_)
              rintro e X11 ⟨rfl, v11⟩
              have HA11 := hid (HA10.out.on v11)
              have C12 := hid HA11.out.rused
              rw [← huu] at C12
              clear v11 huu
              go_wp2_with fail
              (with_reducible refine C12.out.mono ?_)
              rintro e X12 ⟨rfl, v12⟩
              have HA12 := hid (HA11.out.on v12).drop
              clear v12
              have hb4 : ((uu : Int) != (uu : Int)) = false := by simp
              by_cases hee : fe = 0
              · subst hee
                have HA3 := hid (HA12.out.on (Ba X12 (.cells #[.int .u64 sw] 35)))
                have HO1 := hid HA3.out.row
                rw [← HNW.out] at HO1
                have HSA := hid HA3.out.bw
                have HC1 : Hid ((X12.alloc (.cells #[.int .u64 sw] 35)).cell? ⟨X12.heap.size, 0, none⟩ = some (.int .u64 sw)) := blk_cell (blk_new X12 #[.int .u64 sw] 35) 0
                go_wp2_with (at_builtin; refine bappK .u64 8 (by decide) rfl _ _ 33 rfl B 35 Tryz.underlying33 info_word _ nw ws rfl HO1.out ⟨X12.heap.size, 0, none⟩ 1 sw rfl HC1.out (by omega) HSA.out ?_; intro g2 cap2 w2 ho2 hg2 hl2 hlt2; have HA4 := hid (HA3.out.push HDU.out HNW.out.symm ho2 hg2 hl2); clear ho2 hg2 hl2 hlt2)
                refine ⟨⟨qi + 1, by omega, by go_num, os', ws ++ [sw], HA4.out, HL9.out, ?_⟩, by simp [intOf] <;> omega⟩
                rw [List.length_append, ← HNW.out]; simp; omega
              · have hb3 : (fe == 0) = false := by simpa using hee
                have hb5 : (fe != 0) = true := by simpa using hee
                have hz0 := HDZ.out hee
                subst hz0
                go_wp2_with fail
                refine ⟨⟨qi + 1, by omega, by go_num, os', ws, HA12.out, HL9.out, ?_⟩, by simp [intOf] <;> omega⟩
                rw [← HNW.out]; omega
        · obtain rfl : qi = n' := by omega
          go_wp2_with fail
          have HLE := hid HA.out.le
          go_loopw [35] (fun i wr' => ∃ q : Nat, q ≤ usedL os ∧ i = .int .i64 q ∧ Hid (AX B W1 gh g N os os (.slice aw nw cw) ws (fun _ => False) wr')) (fun i _ => usedL os - (intOf i).toNat)
          case atStart => exact ⟨0, Nat.zero_le _, rfl, HA.out⟩
          case round =>
            obtain ⟨q3, hq3, rfl, hI3⟩ := hrel
            have hle := HLE.out
            have C1 := hid hI3.out.words
            obtain ⟨uu, huu⟩ : ∃ u, u = usedL os := ⟨_, rfl⟩
            rw [← huu] at C1 hq3 hle ⊢
            have HUU := hid huu
            have hub : uu ≤ 4194304 := by omega
            clear hle huu
            go_wp2_with fail
            (with_reducible refine C1.out.mono ?_)
            rintro e Z1 ⟨a1, k1, rfl, hU1, v1⟩
            have HB1' := hid (hI3.out.on v1)
            have hf1 := hU1.fits
            have hm1 := hU1.most
            unfold maxLen at hm1
            clear v1 hU1
            by_cases hlt3 : q3 < uu
            · have C2 := hid (HB1'.out.word (k := q3) (by rw [← HUU.out]; exact hlt3))
              obtain ⟨yy, hyy⟩ : ∃ y, y = (wordsL os).getD q3 0 := ⟨_, rfl⟩
              rw [← hyy] at C2
              have HYY := hid hyy
              clear hyy
              go_wp2_with fail
              (with_reducible refine C2.out.mono ?_)
              rintro e Z2 ⟨rfl, v2⟩
              have HB2' := hid (HB1'.out.on v2)
              have C3 := hid HB2'.out.words
              rw [← HUU.out] at C3
              clear v2
              go_wp2_with fail
              (with_reducible refine C3.out.mono ?_)
              rintro e Z3 ⟨a3, k3, rfl, hU3, v3⟩
              have HB3' := hid (HB2'.out.on v3)
              obtain ⟨b3, o3, rfl, hl3, hc3⟩ := hU3.some (by omega)
              have ck := hc3 q3 hlt3
              have hf3 := hU3.fits
              have hm3 := hU3.most
              unfold maxLen at hm3
              rw [← HYY.out] at ck
              have hbn : (yy != yy) = false := by simp
              clear v3 hU3 hc3
              go_wp2_with fail
              refine ⟨⟨q3 + 1, by omega, by go_num, HB3'.out⟩, by simp [intOf] <;> omega⟩
            · obtain rfl : q3 = uu := by omega
              go_wp2_with (go_at_call 5; (with_reducible refine (CA.out _).mono ?_); rintro e We ⟨rfl, ve⟩; have HBe := hid (Bt (HBW.out _ HB1'.out.bel) ve); clear ve)
              go_ret
              exact ⟨rfl, HBe.out⟩
end Go.Proofs.YtdekkieajffblaaGreat
