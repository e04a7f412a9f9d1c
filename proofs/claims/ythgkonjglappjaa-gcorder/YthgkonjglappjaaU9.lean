/-
  Walks: same, words.
-/
import Derived.Test.YthgkonjglappjaaU8
import Derived.Test.YthgkonjglappjaaU34
set_option linter.unusedVariables false
set_option linter.unusedSimpArgs false
set_option maxRecDepth 100000
namespace Go.Proofs.Ythgkonjglappjaa
open Go.RowKit

set_option maxHeartbeats 8000000 in
theorem samew_any (ao : Option Addr) (n cap : Nat) (la : List Int) (bo : Option Addr) (m cb : Nat) (lb : List Int) (w : World) (R : URow w ao n cap la) (Q : URow w bo m cb lb) :
    Calls Try.prog 13 #[.slice ao n cap, .slice bo m cb] w fun e w' => e = .returned (.bool (decide (la = lb))) ∧ Below w.heap.size w w' := by
  have HR := hid R
  have HQ := hid Q
  have hn := R.len
  have hf := R.fits
  have hm := R.most
  have hn2 := Q.len
  have hf2 := Q.fits
  have hm2 := Q.most
  unfold maxLen at hm hm2
  clear R Q
  by_cases h1 : n = m
  · subst h1
    have e0 : ((n : Int) == (n : Int)) = true := by simp
    go_enter Try.func13, Try.ntmps13
    go_wp2_with fail
    go_loopw [5] (fun i wr => ∃ q : Nat, q ≤ n ∧ i = .int .i64 q ∧ Hid (∀ k, k < q → la.getD k 0 = lb.getD k 0) ∧ Hid (Below w.heap.size w wr)) (fun i _ => n - (intOf i).toNat)
    case atStart => exact ⟨0, Nat.zero_le _, rfl, fun k hk => by omega, Below.refl _ _⟩
    case round =>
      obtain ⟨q, hq, rfl, hI, hbw⟩ := hrel
      by_cases hlt : q < n
      · obtain ⟨b, o, rfl, hlb, hcc⟩ := HR.out.some (by omega)
        obtain ⟨b2, o2, rfl, hlb2, hcc2⟩ := HQ.out.some (by omega)
        have c1 := (hbw.out.cell (p := ⟨b, o + q, none⟩) hlb).trans (hcc q hlt)
        have c2 := (hbw.out.cell (p := ⟨b2, o2 + q, none⟩) hlb2).trans (hcc2 q hlt)
        have hq0 : (q : Int) < (n : Int) := by omega
        have hq1 : (0 : Int) ≤ (q : Int) := by omega
        obtain ⟨x, hx⟩ : ∃ x, x = la.getD q 0 := ⟨_, rfl⟩
        obtain ⟨y, hy⟩ : ∃ y, y = lb.getD q 0 := ⟨_, rfl⟩
        rw [← hx] at c1
        rw [← hy] at c2
        have HX := hid hx
        have HY := hid hy
        clear hcc hcc2 hx hy
        by_cases hxy : x = y
        · subst hxy
          have ex : (x == x) = true := by simp
          go_wp2_with fail
          go_quiet (fail)
          go_wp2_with fail
          refine ⟨⟨q + 1, by omega, by go_num, fun k hk => ?_, Bt hbw.out (Bd _ _)⟩, by simp [intOf] <;> omega⟩
          by_cases e : k = q
          · subst e; rw [← HX.out, ← HY.out]
          · exact hI.out k (by omega)
        · have ex : (x == y) = false := by simpa using hxy
          have hne : Hid (decide (la = lb) = false) := decide_eq_false (fun e => hxy (by rw [HX.out, HY.out, e]))
          clear hxy
          go_wp2_with fail
          go_quiet (fail)
          go_wp2_with fail
          go_ret
          rw [hne.out]
          exact ⟨rfl, Bt hbw.out (Bd _ _)⟩
      · obtain rfl : q = n := by omega
        have hne : Hid (decide (la = lb) = true) := decide_eq_true (list_eq (by omega) (fun k hk => hI.out k (by omega)))
        go_wp2_with fail
        go_ret
        rw [hne.out]
        exact ⟨rfl, hbw.out⟩
  · have e0 : ((n : Int) == (m : Int)) = false := by simp; omega
    have hne : Hid (decide (la = lb) = false) := decide_eq_false (fun e => h1 (by rw [← hn, ← hn2, e]))
    go_enter Try.func13, Try.ntmps13
    go_wp2_with fail
    go_ret
    rw [hne.out]
    exact ⟨rfl, Below.refl _ _⟩
set_option maxHeartbeats 8000000 in
theorem words_any {B : Nat} {v : Value} {N : Int} {ws : List Int} {F : Nat → Prop} (w : World) (h : PH B v N ws F w) (hsm : ws.length ≤ 4194304) :
    Calls Try.prog 14 #[v] w fun e w' => ∃ ao cap, e = .returned (.slice ao ws.length cap) ∧ URow w' ao ws.length cap ws ∧ (∀ a, ao = some a → w.heap.size ≤ a.block) ∧ Below w.heap.size w w' := by
  have H := hid h
  obtain ⟨gh, rfl⟩ := h.ptr
  have CU : Hid (∀ wx, Below w.heap.size w wx → Calls Try.prog 26 #[.pointer (some ⟨gh, 0, none⟩)] wx fun e w' => e = .returned (.int .i64 (ws.length : Nat)) ∧ Below wx.heap.size wx w') := fun wx hb => pused_any wx (H.out.keep (fun b hf => hb.block b (H.out.ge b hf).2))
  have CW : Hid (∀ q : Nat, q < ws.length → ∀ wx, Below w.heap.size w wx → Calls Try.prog 39 #[.pointer (some ⟨gh, 0, none⟩), .int .i64 (q : Nat)] wx fun e w' => e = .returned (.int .u64 (ws.getD q 0)) ∧ Below wx.heap.size wx w') := fun q hq wx hb => by
    have := pword_any (q : Int) (by unfold Z64; omega) wx (H.out.keep (fun b hf => hb.block b (H.out.ge b hf).2))
    rw [if_pos (by omega), Int.toNat_natCast] at this
    exact this
  have HWU := hid h.u
  clear h
  go_enter Try.func14, Try.ntmps14
  go_wp2_with fail
  go_loopw [3, 4] (fun r i wr => ∃ q : Nat, q ≤ ws.length ∧ i = .int .i64 q ∧ Hid (wr.ownsRow w.heap.size 46 1 r q (uz (ws.take q)) ∧ Below w.heap.size w wr)) (fun _ i _ => ws.length - (intOf i).toNat)
  case atStart => exact ⟨0, Nat.zero_le _, rfl, World.ownsRow_nil _ _ _ _, Below.refl _ _⟩
  case round =>
    obtain ⟨q, hq, rfl, hI⟩ := hrel
    obtain ⟨ho, hb⟩ := hI.out
    obtain ⟨aF, nF, cF, rfl⟩ : ∃ aF nF cF, u3 = .slice aF nF cF := by rcases ho.2 with ⟨h, _⟩ | ⟨g, cap, cur, h, _⟩ <;> exact ⟨_, _, _, h⟩
    obtain rfl : nF = q := by rcases ho.2 with ⟨h, h'⟩ | ⟨g, cap, cur, h, _⟩ <;> cases h <;> first | rfl | omega
    have HOR := hid ho
    have HBQ := hid hb
    have C1 := hid (CU.out wr hb)
    clear hI ho hb
    by_cases hlt : nF < ws.length
    · have CZ := hid (CW.out nF hlt)
      have HZU := hid (HWU.out _ (getD_in_f hlt))
      have HMT : Hid (ws.take (nF + 1) = ws.take nF ++ [ws.getD nF 0]) := by
        unfold Hid
        rw [List.take_succ_eq_append_getElem hlt, List.getD_eq_getElem?_getD, List.getElem?_eq_getElem hlt]; rfl
      obtain ⟨mv, hmv⟩ : ∃ z, z = ws.getD nF 0 := ⟨_, rfl⟩
      rw [← hmv] at CZ HZU HMT
      clear hmv
      go_wp2_with (first
        | (go_at_call 26; (with_reducible refine C1.out.mono ?_); rintro e wa ⟨rfl, ba⟩; have HBA := hid (Bt HBQ.out ba); have HO0 := hid (uown_on HOR.out ba); clear ba)
        | (go_at_call 39; (with_reducible refine (CZ.out _ HBA.out).mono ?_); rintro e wm ⟨rfl, bm⟩; have HBM := hid (Bt HBA.out bm); have HBN := hid (Bt HBM.out (Ba wm (.cells #[.int .u64 mv] 46))); have HO1 := hid (uown_on (uown_on HO0.out bm) (Ba wm (.cells #[.int .u64 mv] 46))); have HU1 := hid (urow_one (blk_new wm #[.int .u64 mv] 46) HZU.out); clear bm)
        | (at_builtin; refine appU rfl _ _ 27 rfl w.heap.size 46 Try.underlying27 info_word _ nF (ws.take nF) rfl HO1.out (some ⟨wm.heap.size, 0, none⟩) 1 1 [mv] rfl HU1.out (by omega) HBN.out.size ?_; intro v6 w6 ho hg))
      have HE6 : Hid (Below w.heap.size w w6) := HBN.out.grown hg HBN.out.size (fun k hk => (HO1.out.lt k hk).1)
      have HO6 : Hid (w6.ownsRow w.heap.size 46 1 v6 (nF + 1) (uz (ws.take (nF + 1)))) := by rw [HMT.out]; exact ho
      exact ⟨⟨nF + 1, by omega, by go_num, HO6.out, HE6.out⟩, by simp [intOf] <;> omega⟩
    · obtain rfl : nF = ws.length := by omega
      go_wp2_with (go_at_call 26; (with_reducible refine C1.out.mono ?_); rintro e wa ⟨rfl, ba⟩; have HBA := hid (Bt HBQ.out ba); have HO0 := hid (uown_on HOR.out ba); clear ba)
      go_ret
      have ho := HO0.out
      rw [List.take_length] at ho
      obtain ⟨ra, rc, hv, hU⟩ := urow_own ho HWU.out
      cases hv
      exact ⟨aF, cF, rfl, hU, fun a ha => (HO0.out.lt a.block (by rw [ha]; rfl)).1, HBA.out⟩
end Go.Proofs.Ythgkonjglappjaa
