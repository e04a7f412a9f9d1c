/-
  Walk, of the document's store: Number.
-/
import Derived.Test.YtdekkieajffblaaGreatST4
import Derived.Test.YtdekkieajffblaaGreatX1
import Derived.Test.YtdekkieajffblaaGreatW4
set_option linter.unusedVariables false
set_option linter.unusedSimpArgs false
set_option maxRecDepth 100000
namespace Go.Proofs.YtdekkieajffblaaGreat
open Go.RowKit

theorem numMag_take {l : List Int} {q : Nat} (h0 : 0 < q) (h : q < l.length) : numMag (l.take (q + 1)) = numMag (l.take q) ++ [(nN (l.getD q 0)).toNat] := by
  unfold numMag
  rw [List.take_succ_eq_append_getElem h, List.drop_append_of_le_length (by rw [List.length_take]; omega), List.map_append, List.getD_eq_getElem?_getD, List.getElem?_eq_getElem h]; rfl
theorem numMag_one (l : List Int) : numMag (l.take 1) = [] := by unfold numMag; cases l <;> simp
theorem all_take1 (p : Int → Bool) {l : List Int} {q : Nat} (h : q < l.length) : (l.take (q + 1)).all p = ((l.take q).all p && p (l.getD q 0)) := by
  rw [List.take_succ_eq_append_getElem h, List.all_append, List.getD_eq_getElem?_getD, List.getElem?_eq_getElem h]; simp
theorem all_false1 (p : Int → Bool) {l : List Int} {q : Nat} (h : q < l.length) (hp : p (l.getD q 0) = false) : l.all p = false := by
  rw [List.all_eq_false]
  exact ⟨l.getD q 0, by rw [List.getD_eq_getElem?_getD, List.getElem?_eq_getElem h]; exact List.getElem_mem _, by rw [hp]; decide⟩
theorem ofR_z (x : Int) (hx : U64 x) : Z64 (nK x) ∧ Z64 (nN x) ∧ Z64 (ofR x).2.2 := by
  unfold nK nN ofR Z64
  unfold U64 at hx
  split
  · unfold ofRaw
    have hs : -9223372036854775808 ≤ sgnW x / 8 ∧ sgnW x / 8 ≤ 9223372036854775807 := by unfold sgnW; split <;> omega
    split
    · simp only; omega
    split
    · simp only; omega
    split
    · split
      · simp only; omega
      split
      · simp only; omega
      · simp only; omega
    split
    · simp only; omega
    · simp only; omega
  · simp only; omega
/-- An integer that is made, and the cell that will hold the answer. -/
structure NI (w W0 : World) (g2 gx : Nat) (neg : Bool) (v : Value) (lm : List Nat) (wr : World) : Prop where
  res : wr.heap[g2]? = some (.cells #[.bool false, .slice none 0 0] 40 (0, 0))
  box : wr.heap[gx]? = some (.cells #[.bool neg, v] 40 (0, 0))
  row : wr.ownsRow W0.heap.size 92 1 v lm.length (cs .u32 lm)
  dg : Dg B32 lm
  bel : Below w.heap.size w wr
  s2 : w.heap.size ≤ g2 ∧ g2 < W0.heap.size
  sx : w.heap.size ≤ gx ∧ gx < W0.heap.size
  ne : g2 ≠ gx
  s0 : W0.heap.size ≤ wr.heap.size
section
variable {w W0 wr w' : World} {g2 gx : Nat} {neg : Bool} {v : Value} {lm : List Nat}
theorem NI.on (h : NI w W0 g2 gx neg v lm wr) (hb : Below wr.heap.size wr w') : NI w W0 g2 gx neg v lm w' := by
  have hs := h.s0
  exact ⟨(hb.block g2 (by have := h.s2; omega)).trans h.res, (hb.block gx (by have := h.sx; omega)).trans h.box, uown_on h.row hb, h.dg, Bt h.bel hb, h.s2, h.sx, h.ne, Nat.le_trans h.s0 hb.size⟩
theorem NI.setNeg (h : NI w W0 g2 gx neg v lm wr) (neg' : Bool) : NI w W0 g2 gx neg' v lm (wr.setCell ⟨gx, 0, none⟩ (.bool neg')) := by
  refine ⟨(Below.heap_setCell _ _ _ _ h.ne).trans h.res, ?_, own_at h.row (fun b e => Below.heap_setCell _ _ _ _ (by have := (h.row.lt b e).1; have := h.sx; show b ≠ gx; omega)), h.dg, h.bel.setCell (p := ⟨gx, 0, none⟩) h.sx.1 _, h.s2, h.sx, h.ne, by simpa [World.setCell] using h.s0⟩
  rw [blk_set (i := 0) h.box]; rfl
theorem NI.push {v' : Value} {d n : Nat} (h : NI w W0 g2 gx neg v lm wr) (hd : d < B32) (hn : lm.length = n) (hb : Below W0.heap.size wr w') (ho : w'.ownsRow W0.heap.size 92 1 v' (n + 1) (cs .u32 (lm ++ [d]))) : w'.heap[gx]? = some (.cells #[.bool neg, v] 40 (0, 0)) ∧ NI w W0 g2 gx neg v' (lm ++ [d]) (w'.setCell ⟨gx, 1, none⟩ v') := by
  have hbx := (hb.block gx h.sx.2).trans h.box
  refine ⟨hbx, (Below.heap_setCell _ _ _ _ h.ne).trans ((hb.block g2 h.s2.2).trans h.res), ?_, ?_, h.dg.append (Dg.one hd), ?_, h.s2, h.sx, h.ne, ?_⟩
  · rw [blk_set (i := 1) hbx]; rfl
  · rw [List.length_append, hn]
    exact own_at ho (fun b e => Below.heap_setCell _ _ _ _ (by have := (ho.lt b e).1; have := h.sx; show b ≠ gx; omega))
  · exact (h.bel.trans (hb.mono (by have := h.s2; omega))).setCell (p := ⟨gx, 1, none⟩) h.sx.1 _
  · have := hb.size; have := h.s0; simp [World.setCell]; omega
end
end Go.Proofs.YtdekkieajffblaaGreat

set_option linter.unusedVariables false
set_option linter.unusedSimpArgs false
set_option maxRecDepth 100000
namespace Go.Proofs.YtdekkieajffblaaGreat
open Go.RowKit

def NumPost (l : List Int) (w : World) (e : Ending) (w' : World) : Prop := ∃ neg ao n cap, e = .returned (.tuple #[.agg #[.bool neg, .slice ao n cap], .bool (bigB l)]) ∧ (bigB l = true → neg = numNeg l ∧ Row .u32 B32 w' ao n cap (numMag l)) ∧ Below w.heap.size w w'
set_option maxHeartbeats 8000000 in
theorem number_any (al : Option Addr) (nl cl : Nat) (l : List Int) (w : World) (hL : URow w al nl cl l) (hsm : nl ≤ 100000) :
    Calls Tryz.prog 41 #[.slice al nl cl] w (NumPost l w) := by
  have HL := hid hL
  have hl1 := hL.len
  have hl2 := hL.fits
  have hl3 := hL.most
  unfold maxLen at hl3
  have HLU := hid hL.bd
  have HBB : Hid (bigB l = (decide (0 < l.length) && (l.all limbB && (decide (nN (l.getD 0 0) ≤ 1) && (goodB (numNeg l) (numMag l) && !fixB (sgn (numNeg l) (val B32 (numMag l)))))))) := rfl
  obtain ⟨bb, hbb⟩ : ∃ b, b = bigB l := ⟨_, rfl⟩
  have HBE := hid hbb
  rw [← hbb] at HBB
  have x0 := blk_new w #[.bool false, .slice none 0 0] 40
  have b0 := Ba w (.cells #[.bool false, .slice none 0 0] 40)
  have x1 := blk_new (w.alloc (.cells #[.bool false, .slice none 0 0] 40)) #[.bool false, .slice none 0 0] 40
  have b1 := Ba (w.alloc (.cells #[.bool false, .slice none 0 0] 40)) (.cells #[.bool false, .slice none 0 0] 40)
  clear hL hbb
  go_enter Tryz.func41, Tryz.ntmps41
  go_wp2_with fail
  obtain ⟨W0, hW0⟩ : ∃ W, W = (w.alloc (.cells #[.bool false, .slice none 0 0] 40)).alloc (.cells #[.bool false, .slice none 0 0] 40) := ⟨_, rfl⟩
  have hs0 : W0.heap.size = w.heap.size + 1 + 1 := by rw [hW0, size_alloc, size_alloc]
  rw [size_alloc] at x1
  rw [← hW0] at x1 b1 ⊢
  have HN0 : Hid (NI w W0 w.heap.size (w.heap.size + 1) false (.slice none 0 0) [] W0) := ⟨(b1.block w.heap.size (by rw [size_alloc]; omega)).trans x0, x1, World.ownsRow_nil _ _ _ _, Dg.nil _, Bt b0 b1, ⟨Nat.le_refl _, by omega⟩, ⟨by omega, by omega⟩, by omega, Nat.le_refl _⟩
  obtain ⟨g2, hg2⟩ : ∃ g, g = w.heap.size := ⟨_, rfl⟩
  obtain ⟨gx, hgx⟩ : ∃ g, g = w.heap.size + 1 := ⟨_, rfl⟩
  rw [← hgx, ← hg2] at HN0 ⊢
  have exitF : Hid (∀ wr neg v lm, NI w W0 g2 gx neg v lm wr → bb = false → NumPost l w (.returned (.tuple #[.agg #[.bool false, .slice none 0 0], .bool false])) ((wr.setCell ⟨g2, 0, none⟩ (.bool false)).setCell ⟨g2, 1, none⟩ (.slice none 0 0))) := fun wr neg v lm h e => by
    unfold NumPost
    rw [← HBE.out, e]
    exact ⟨_, _, _, _, rfl, fun h => by simp at h, store2_below h.bel h.s2.1⟩
  clear x0 x1 b0 b1 hs0 hW0 hg2 hgx
  go_loopw [5] (fun i wr => ∃ q : Nat, q ≤ nl ∧ i = .int .i64 q ∧ Hid (∃ v, NI w W0 g2 gx (decide (0 < q) && numNeg l) v (numMag (l.take q)) wr ∧ (l.take q).all limbB = true ∧ (0 < q → nN (l.getD 0 0) ≤ 1))) (fun i _ => nl - (intOf i).toNat)
  case atStart => exact ⟨0, Nat.zero_le _, rfl, _, by simpa [numMag] using HN0.out, rfl, fun h => by omega⟩
  case round =>
    obtain ⟨q, hq, rfl, hI⟩ := hrel
    obtain ⟨v, hN, hall, hfst⟩ := hI.out
    have HN := hid hN
    have HALL := hid hall
    have HFST := hid hfst
    have hU := HL.out.on hN.bel
    clear hI hN hall hfst
    by_cases hlt : q < nl
    · have hql : q < l.length := by omega
      obtain ⟨b, o, rfl, hlb, hcc⟩ := hU.some (by omega)
      have hck := hcc q hlt
      have hxu : U64 (l.getD q 0) := by rw [List.getD_eq_getElem?_getD, List.getElem?_eq_getElem hql]; exact HLU.out _ (List.getElem_mem _)
      obtain ⟨⟨z1, z2⟩, ⟨z3, z4⟩, ⟨z5, z6⟩⟩ := ofR_z _ hxu
      have CO := hid (rof_any _ hxu wr)
      have HAT := hid (all_take1 limbB hql)
      rw [HALL.out, Bool.true_and] at HAT
      have HAF : Hid (limbB (l.getD q 0) = false → bb = false) := fun h => by rw [HBB.out, all_false1 limbB hql h]; simp
      have HAF0 : Hid (q = 0 → 1 < nN (l.getD q 0) → bb = false) := fun h0 h => by
        subst h0
        rw [HBB.out, decide_eq_false (show ¬ nN (l.getD 0 0) ≤ 1 by omega)]; simp
      have HNG : Hid (q = 0 → numNeg l = decide (nN (l.getD q 0) = 1)) := fun h0 => by subst h0; rfl
      have HF0 : Hid (q = 0 → nN (l.getD q 0) ≤ 1 → nN (l.getD 0 0) ≤ 1) := fun h0 h => by subst h0; exact h
      have HMT : Hid (0 < q → numMag (l.take (q + 1)) = numMag (l.take q) ++ [(nN (l.getD q 0)).toNat]) := fun h0 => numMag_take h0 hql
      have HLB : Hid (limbB (l.getD q 0) = (decide (nK (l.getD q 0) = 1) && (decide (0 ≤ nN (l.getD q 0)) && decide (nN (l.getD q 0) < 4294967296)))) := rfl
      unfold SVal at CO
      change Hid (Calls Tryz.prog 39 #[.int .u64 (l.getD q 0)] wr fun e w' => e = .returned (.agg #[.int .i64 (nK (l.getD q 0)), .int .i64 (nN (l.getD q 0)), .int .i64 (ofR (l.getD q 0)).2.2]) ∧ Below wr.heap.size wr w') at CO
      obtain ⟨tt, htt⟩ : ∃ t, t = (ofR (l.getD q 0)).2.2 := ⟨_, rfl⟩
      rw [← htt] at CO z5 z6
      obtain ⟨k, hk⟩ : ∃ k, k = nK (l.getD q 0) := ⟨_, rfl⟩
      obtain ⟨m, hm⟩ : ∃ k, k = nN (l.getD q 0) := ⟨_, rfl⟩
      obtain ⟨lb, hlb2⟩ : ∃ k, k = limbB (l.getD q 0) := ⟨_, rfl⟩
      rw [← hk] at CO z1 z2 HLB
      rw [← hm] at CO z3 z4 HAF0 HNG HF0 HMT HLB
      rw [← hlb2] at HAT HAF HLB
      obtain ⟨x, hx⟩ : ∃ x, x = l.getD q 0 := ⟨_, rfl⟩
      rw [← hx] at CO hck hxu
      clear hcc hU hk hm hlb2 hx htt
      have HOF : Hid (∀ W6, Below wr.heap.size wr W6 → NI w W0 g2 gx (decide (0 < q) && numNeg l) v (numMag (l.take q)) (W6.alloc (.cells #[.int .i64 k, .int .i64 m, .int .i64 tt] 78)) ∧ (W6.alloc (.cells #[.int .i64 k, .int .i64 m, .int .i64 tt] 78)).cell? ⟨W6.heap.size, 0, none⟩ = some (.int .i64 k) ∧ (W6.alloc (.cells #[.int .i64 k, .int .i64 m, .int .i64 tt] 78)).cell? ⟨W6.heap.size, 1, none⟩ = some (.int .i64 m)) := fun W6 b6 => by
        have hb := blk_new W6 #[.int .i64 k, .int .i64 m, .int .i64 tt] 78
        exact ⟨(HN.out.on b6).on (Ba W6 _), blk_cell hb 0, blk_cell hb 1⟩
      have HRES : Hid (∀ wr neg v lm, NI w W0 g2 gx neg v lm wr → wr.cell? ⟨g2, 0, none⟩ = some (.bool false) ∧ wr.cell? ⟨g2, 1, none⟩ = some (.slice none 0 0) ∧ wr.frozen? ⟨g2, 0, none⟩ = false ∧ wr.frozen? ⟨g2, 1, none⟩ = false) := fun wr neg v lm h => ⟨blk_cell h.res 0, blk_cell h.res 1, blk_free h.res 0, blk_free h.res 1⟩
      by_cases k1 : ¬ k = 1
      · have e1 : (k != 1) = true := by simpa using k1
        have hbf : Hid (bb = false) := HAF.out (by rw [HLB.out, decide_eq_false k1]; rfl)
        go_wp2_with (go_at_call 39; (with_reducible refine CO.out.mono ?_); rintro e W6 ⟨rfl, b6⟩; obtain ⟨hN6, o0, o1⟩ := HOF.out W6 b6; have HN6 := hid hN6; obtain ⟨r0, r1, r2, r3⟩ := HRES.out _ _ _ _ hN6; clear hN6 b6)
        have hst := store2 (v1 := .bool false) (v2 := .slice none 0 0) HN6.out.res
        have t0 := blk_cell hst 0
        have t1 := blk_cell hst 1
        refine bodyPost_ret (v := .tuple #[.agg #[.bool false, .slice none 0 0], .bool false]) ?_ rfl ?_
        · simp [results, Tryz.results41, go_sem, t0, t1]
        · exact exitF.out _ _ _ _ HN6.out hbf.out
      have k1 : k = 1 := Classical.not_not.1 k1
      subst k1
      have e1 : ((1 : Int) != 1) = false := by decide
      by_cases k2 : m < 0
      · have e2 : decide (m < 0) = true := decide_eq_true k2
        have hbf : Hid (bb = false) := HAF.out (by rw [HLB.out, decide_eq_false (show ¬ 0 ≤ m by omega)]; simp)
        go_wp2_with (go_at_call 39; (with_reducible refine CO.out.mono ?_); rintro e W6 ⟨rfl, b6⟩; obtain ⟨hN6, o0, o1⟩ := HOF.out W6 b6; have HN6 := hid hN6; obtain ⟨r0, r1, r2, r3⟩ := HRES.out _ _ _ _ hN6; clear hN6 b6)
        have hst := store2 (v1 := .bool false) (v2 := .slice none 0 0) HN6.out.res
        have t0 := blk_cell hst 0
        have t1 := blk_cell hst 1
        refine bodyPost_ret (v := .tuple #[.agg #[.bool false, .slice none 0 0], .bool false]) ?_ rfl ?_
        · simp [results, Tryz.results41, go_sem, t0, t1]
        · exact exitF.out _ _ _ _ HN6.out hbf.out
      have e2 : decide (m < 0) = false := decide_eq_false k2
      by_cases k3 : 4294967296 ≤ m
      · have e3 : decide (4294967296 ≤ m) = true := decide_eq_true k3
        have hbf : Hid (bb = false) := HAF.out (by rw [HLB.out, decide_eq_false (show ¬ m < 4294967296 by omega)]; simp)
        go_wp2_with (go_at_call 39; (with_reducible refine CO.out.mono ?_); rintro e W6 ⟨rfl, b6⟩; obtain ⟨hN6, o0, o1⟩ := HOF.out W6 b6; have HN6 := hid hN6; obtain ⟨r0, r1, r2, r3⟩ := HRES.out _ _ _ _ hN6; clear hN6 b6)
        have hst := store2 (v1 := .bool false) (v2 := .slice none 0 0) HN6.out.res
        have t0 := blk_cell hst 0
        have t1 := blk_cell hst 1
        refine bodyPost_ret (v := .tuple #[.agg #[.bool false, .slice none 0 0], .bool false]) ?_ rfl ?_
        · simp [results, Tryz.results41, go_sem, t0, t1]
        · exact exitF.out _ _ _ _ HN6.out hbf.out
      have e3 : decide (4294967296 ≤ m) = false := decide_eq_false k3
      have HLT : Hid ((l.take (q + 1)).all limbB = true) := by
        unfold Hid; rw [HAT.out, HLB.out, decide_eq_true (show 0 ≤ m by omega), decide_eq_true (show m < 4294967296 by omega)]; rfl
      by_cases q0 : q = 0
      · subst q0
        rw [Nat.add_zero] at hck
        by_cases k4 : 1 < m
        · have e4 : decide (1 < m) = true := decide_eq_true k4
          have hbf : Hid (bb = false) := HAF0.out rfl k4
          go_wp2_with (go_at_call 39; (with_reducible refine CO.out.mono ?_); rintro e W6 ⟨rfl, b6⟩; obtain ⟨hN6, o0, o1⟩ := HOF.out W6 b6; have HN6 := hid hN6; obtain ⟨r0, r1, r2, r3⟩ := HRES.out _ _ _ _ hN6; clear hN6 b6)
          have hst := store2 (v1 := .bool false) (v2 := .slice none 0 0) HN6.out.res
          have t0 := blk_cell hst 0
          have t1 := blk_cell hst 1
          refine bodyPost_ret (v := .tuple #[.agg #[.bool false, .slice none 0 0], .bool false]) ?_ rfl ?_
          · simp [results, Tryz.results41, go_sem, t0, t1]
          · exact exitF.out _ _ _ _ HN6.out hbf.out
        have e4 : decide (1 < m) = false := decide_eq_false k4
        go_wp2_with (go_at_call 39; (with_reducible refine CO.out.mono ?_); rintro e W6 ⟨rfl, b6⟩; obtain ⟨hN6, o0, o1⟩ := HOF.out W6 b6; have HN6 := hid hN6; have y0 : (W6.alloc (.cells #[.int .i64 1, .int .i64 m, .int .i64 tt] 78)).cell? ⟨gx, 0, none⟩ = some (.bool (decide (0 < 0) && numNeg l)) := blk_cell hN6.box 0; have y1 := blk_free hN6.box 0; clear hN6 b6)
        have HEQ : Hid ((m == 1) = (decide (0 < 0 + 1) && numNeg l)) := by
          unfold Hid; rw [HNG.out (by simp)]; by_cases h : m = 1 <;> simp [h]
        have H7 := hid (HN6.out.setNeg (m == 1))
        refine ⟨⟨1, by omega, by go_num, v, ?_, HLT.out, fun _ => HF0.out (by simp) (by omega)⟩, by simp [intOf] <;> omega⟩
        have h7 := H7.out
        rw [HEQ.out] at h7
        have e8 : numMag (l.take 0) = numMag (l.take (0 + 1)) := by rw [Nat.zero_add, numMag_one]; rfl
        rw [e8] at h7
        rw [← HEQ.out] at h7 ⊢
        exact h7
      · have e5 : ((q : Int) == 0) = false := by simp; omega
        obtain ⟨mn, hmn⟩ : ∃ n : Nat, m = (n : Int) := ⟨m.toNat, by omega⟩
        subst hmn
        have hmb : mn < B32 := by show mn < 4294967296; omega
        have hmb2 : mn < 4294967296 := hmb
        have HMB := hid hmb
        have HM := hid (HMT.out (by omega))
        rw [Int.toNat_natCast] at HM
        have hln : (numMag (l.take q)).length ≤ 1000000 := by unfold numMag; rw [List.length_map, List.length_drop, List.length_take]; omega
        obtain ⟨lm, hlm⟩ : ∃ x, x = numMag (l.take q) := ⟨_, rfl⟩
        rw [← hlm] at HM hln HOF
        have HFQ : Hid (decide (0 < q) = decide (0 < q + 1)) := by unfold Hid; rw [decide_eq_true (show 0 < q by omega), decide_eq_true (show 0 < q + 1 by omega)]
        obtain ⟨ng, hng⟩ : ∃ x, x = (decide (0 < q) && numNeg l) := ⟨_, rfl⟩
        rw [← hng] at HOF
        have HNGQ := hid hng
        have HQ1 := hid (HFST.out (by omega))
        obtain ⟨lmn, hlmn⟩ : ∃ n, n = lm.length := ⟨_, rfl⟩
        have HLMN := hid hlmn
        have hln2 : lmn ≤ 1000000 := by omega
        clear hlm hmb hng hlmn hln
        go_wp2_with (first
          | (go_at_call 39; (with_reducible refine CO.out.mono ?_); rintro e W6 ⟨rfl, b6⟩; obtain ⟨hN6, o0, o1⟩ := HOF.out W6 b6; have y1 : (W6.alloc (.cells #[.int .i64 1, .int .i64 mn, .int .i64 tt] 78)).cell? ⟨gx, 1, none⟩ = some v := blk_cell hN6.box 1; have HN6 := hid hN6; have HN7 := hid (hN6.on (Ba _ (.cells #[.int .u32 (mn : Nat)] 92))); have HR7 := hid HN7.out.row; rw [← HLMN.out] at HR7; have hx7 := cell_new (W6.alloc (.cells #[.int .i64 1, .int .i64 mn, .int .i64 tt] 78)) (.int .u32 (mn : Nat)) 92; rw [size_alloc] at hx7; have HX7 := hid hx7; clear hx7; have HS7 := hid HN7.out.s0; clear hN6 b6)
          | (at_builtin; refine app1 rfl _ _ 38 rfl W0.heap.size 92 .u32 4 (by decide) Tryz.underlying38 info_u32 _ lmn lm rfl HR7.out ⟨W6.heap.size + 1, 0, none⟩ 1 mn rfl HX7.out (by omega) HS7.out ?_; intro g8 cap8 w8 ho8 hb8; obtain ⟨bx, h9⟩ := HN7.out.push HMB.out HLMN.out.symm hb8 ho8; have d1 : w8.cell? ⟨gx, 1, none⟩ = some v := blk_cell bx 1; have f1 := blk_free bx 1; have H9 := hid h9; clear bx h9 ho8 hb8 y1))
        refine ⟨⟨q + 1, by omega, by go_num, .slice (some ⟨g8, 0, none⟩) (lmn + 1) cap8, ?_, HLT.out, fun _ => HQ1.out⟩, by simp [intOf] <;> omega⟩
        rw [HM.out, ← HFQ.out, ← HNGQ.out]
        exact H9.out
    · obtain rfl : q = nl := by omega
      rw [List.take_of_length_le (by omega)] at HN HALL
      clear hU
      have HRES : Hid (∀ wr neg v lm, NI w W0 g2 gx neg v lm wr → wr.cell? ⟨g2, 0, none⟩ = some (.bool false) ∧ wr.cell? ⟨g2, 1, none⟩ = some (.slice none 0 0) ∧ wr.frozen? ⟨g2, 0, none⟩ = false ∧ wr.frozen? ⟨g2, 1, none⟩ = false ∧ wr.cell? ⟨gx, 0, none⟩ = some (.bool neg) ∧ wr.cell? ⟨gx, 1, none⟩ = some v) := fun wr neg v lm h => ⟨blk_cell h.res 0, blk_cell h.res 1, blk_free h.res 0, blk_free h.res 1, blk_cell h.box 0, blk_cell h.box 1⟩
      by_cases q0 : q = 0
      · have hbf : Hid (bb = false) := by unfold Hid; rw [HBB.out, decide_eq_false (show ¬ 0 < l.length by omega)]; rfl
        have e0 : ((q : Int) == 0) = true := by simp [q0]
        obtain ⟨r0, r1, r2, r3, r4, r5⟩ := HRES.out _ _ _ _ HN.out
        clear q0
        go_wp2_with fail
        have hst := store2 (v1 := .bool false) (v2 := .slice none 0 0) HN.out.res
        have t0 := blk_cell hst 0
        have t1 := blk_cell hst 1
        refine bodyPost_ret (v := .tuple #[.agg #[.bool false, .slice none 0 0], .bool false]) ?_ rfl ?_
        · simp [results, Tryz.results41, go_sem, t0, t1]
        · exact exitF.out _ _ _ _ HN.out hbf.out
      · have e0 : ((q : Int) == 0) = false := by simp; omega
        rw [decide_eq_true (show 0 < q by omega), Bool.true_and] at HN
        have HB2 : Hid (bb = (goodB (numNeg l) (numMag l) && !fixB (sgn (numNeg l) (val B32 (numMag l))))) := by
          have h1 := HFST.out (by omega)
          unfold Hid; rw [HBB.out, HALL.out, decide_eq_true (show 0 < l.length by omega), decide_eq_true h1]; rfl
        obtain ⟨ao, cap, hv, hO⟩ := own_of HN.out.row HN.out.dg
        subst hv
        have HRW : Hid (∀ W, Below wr.heap.size wr W → Row .u32 B32 W ao (numMag l).length cap (numMag l)) := fun W b => hO.row.below b
        have hr1 := hO.row.fits
        have hr2 := hO.row.most
        unfold maxLen at hr2
        have CG := hid (rgood_any (numNeg l) ao (numMag l).length cap (numMag l) wr hO.row)
        have CF : Hid (∀ W, Below wr.heap.size wr W → goodB (numNeg l) (numMag l) = true → Calls Tryz.prog 28 #[.agg #[.bool (numNeg l), .slice ao (numMag l).length cap]] W fun e w' => FixPost (sgn (numNeg l) (val B32 (numMag l))) W e w') := fun W b hg => fixed_any _ ao _ cap _ W (HRW.out W b) hg
        obtain ⟨r0, r1, r2, r3, r4, r5⟩ := HRES.out _ _ _ _ HN.out
        unfold FixPost at CF
        obtain ⟨gb, hgb⟩ : ∃ x, x = goodB (numNeg l) (numMag l) := ⟨_, rfl⟩
        obtain ⟨fb, hfb⟩ : ∃ x, x = fixB (sgn (numNeg l) (val B32 (numMag l))) := ⟨_, rfl⟩
        rw [← hgb] at CG CF HB2
        rw [← hfb] at CF HB2
        have HNE : Hid (∃ ng, ng = numNeg l) := ⟨_, rfl⟩
        obtain ⟨ng, hng⟩ := HNE.out
        obtain ⟨ll, hll⟩ : ∃ x, x = (numMag l).length := ⟨_, rfl⟩
        rw [← hng] at CG CF r4 HN
        rw [← hll] at CG CF r5 hr1 HN HRW
        have HNG2 := hid hng
        clear q0 hO hgb hfb hng hll HNE
        cases gb
        · have hbf : Hid (bb = false) := HB2.out
          go_wp2_with (go_at_call 24; (with_reducible refine CG.out.mono ?_); rintro e W6 ⟨rfl, b6⟩; have HN6 := hid (HN.out.on b6); clear r0 r1 r2 r3 r4 r5; obtain ⟨r0, r1, r2, r3, r4, r5⟩ := HRES.out _ _ _ _ HN6.out; clear b6)
          have hst := store2 (v1 := .bool false) (v2 := .slice none 0 0) HN6.out.res
          have t0 := blk_cell hst 0
          have t1 := blk_cell hst 1
          refine bodyPost_ret (v := .tuple #[.agg #[.bool false, .slice none 0 0], .bool false]) ?_ rfl ?_
          · simp [results, Tryz.results41, go_sem, t0, t1]
          · exact exitF.out _ _ _ _ HN6.out hbf.out
        · have HB3 : Hid (bb = !fb) := HB2.out.trans (by simp)
          go_wp2_with (first
            | (go_at_call 24; (with_reducible refine CG.out.mono ?_); rintro e W6 ⟨rfl, b6⟩; have HN6 := hid (HN.out.on b6); have HB6 := hid b6; have C6 := hid (CF.out W6 b6 rfl); clear r0 r1 r2 r3 r4 r5; obtain ⟨r0, r1, r2, r3, r4, r5⟩ := HRES.out _ _ _ _ HN6.out; clear b6)
            | (go_at_call 28; (with_reducible refine C6.out.mono ?_); rintro e W7 ⟨v7, rfl, _, b7⟩; have HN7 := hid (HN6.out.on b7); have HB7 := hid (Bt HB6.out b7); clear r0 r1 r2 r3 r4 r5; obtain ⟨r0, r1, r2, r3, r4, r5⟩ := HRES.out _ _ _ _ HN7.out; clear b7))
          have hst := store2 (v1 := .bool ng) (v2 := .slice ao ll cap) HN7.out.res
          have t0 := blk_cell hst 0
          have t1 := blk_cell hst 1
          refine bodyPost_ret (v := .tuple #[.agg #[.bool ng, .slice ao ll cap], .bool (!fb)]) ?_ rfl ?_
          · simp [results, Tryz.results41, go_sem, t0, t1]
          · unfold NumPost
            rw [← HBE.out, HB3.out]
            refine ⟨ng, ao, ll, cap, rfl, fun _ => ⟨HNG2.out, ?_⟩, store2_below HN7.out.bel HN7.out.s2.1⟩
            have hrow := own_at (w' := (W7.setCell ⟨g2, 0, none⟩ (.bool ng)).setCell ⟨g2, 1, none⟩ (.slice ao ll cap)) HN7.out.row (fun b e => store2_far (by have := (HN7.out.row.lt b e).1; have := HN7.out.s2; omega))
            obtain ⟨ao', cap', hv', hO'⟩ := own_of hrow HN7.out.dg
            have hlen := HRW.out W7 HB7.out
            rw [hlen.len] at hv' hO'
            cases hv'
            exact hO'.row
end Go.Proofs.YtdekkieajffblaaGreat
