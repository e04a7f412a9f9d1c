/-
  Walks: what hangs on words (shape): one word is told.
-/
import Derived.Test.YthgkonjglappjaaU19
set_option linter.unusedVariables false
set_option linter.unusedSimpArgs false
set_option maxRecDepth 100000
namespace Go.Proofs.Ythgkonjglappjaa
open Go.RowKit

theorem slice_of {w : World} {base : Nat} {e : TypeId} {k : Nat} {v : Value} {n : Nat} {xs : List Value} (h : w.ownsRow base e k v n xs) : ∃ a c, v = .slice a n c ∧ n ≤ c ∧ c ≤ 9223372036854775807 := by
  rcases h.2 with ⟨e1, e2⟩ | ⟨g, cap, cur, e1, _, _, h4, h5, _⟩
  · subst e2; exact ⟨none, 0, e1, Nat.le_refl _, by omega⟩
  · unfold maxLen at h5; exact ⟨_, _, e1, h4, h5⟩
set_option maxHeartbeats 16000000 in
theorem tell_any {B : Nat} {N : Int} {F : Nat → Prop} {os : List Ob} {gh : Nat} {vo vq : Value} {out q : List Int} (ho : OsOk os) (hus : usedL os ≤ 4000) (w0 : World) (hp0 : PH B (.pointer (some ⟨gh, 0, none⟩)) N (wordsL os) F w0) (z : Int) (hz : U64 z) (w : World)
    (h : SM w0.heap.size w0 (.pointer (some ⟨gh, 0, none⟩)) vo vq out q q w) (hq : QOk os q) (hol : out.length ≤ 100000000) :
    Calls Try.prog 44 #[.int .u64 z, .pointer (some ⟨w0.heap.size, 0, none⟩), .pointer (some ⟨w0.heap.size + 1, 0, none⟩), .pointer (some ⟨w0.heap.size + 3, 0, none⟩), .pointer (some ⟨w0.heap.size + 4, 0, none⟩)] w fun e w' =>
      e = .returned (.tuple #[]) ∧ ∃ vo' vq', SM w0.heap.size w0 (.pointer (some ⟨gh, 0, none⟩)) vo' vq' (tellS os (out, q) z).1 (tellS os (out, q) z).2 (tellS os (out, q) z).2 w' := by
  have CS := hid (psize_any ho z hz w (hp0.keep (fun b hf => h.bel.block b (hp0.ge b hf).2)))
  have hql : q.length ≤ 4000 := Nat.le_trans hq.len (Nat.le_trans (len_le_used os) hus)
  have H := hid h
  have cb : w.cell? ⟨w0.heap.size, 0, none⟩ = some (.pointer (some ⟨gh, 0, none⟩)) := blk_cell h.bb 0
  have HT : Hid (tellS os (out, q) z = match findM os z with
    | none => (out ++ [1, z], q)
    | some _ => if z ∈ q then (out ++ [(2 : Int), ((q.idxOf z : Nat) : Int)], q) else (out ++ [(2 : Int), ((q.length : Nat) : Int)], q ++ [z])) := rfl
  have HZ := hid hz
  unfold sizeM at CS
  clear h hz hq
  obtain ⟨b, hb⟩ : ∃ b, b = w0.heap.size := ⟨_, rfl⟩
  rw [← hb] at H cb ⊢
  clear hb hp0
  have key : Hid (∀ W1, SM b w0 (.pointer (some ⟨gh, 0, none⟩)) vo vq out q q W1 → ∃ ao co aq cq, vo = .slice ao out.length co ∧ vq = .slice aq q.length cq) := fun W1 h => by
    obtain ⟨ao, co, e1, _⟩ := slice_of h.oo
    obtain ⟨aq, cq, e2, _⟩ := slice_of h.oq
    exact ⟨ao, co, aq, cq, e1, e2⟩
  obtain ⟨ao, co, aq, cq, rfl, rfl⟩ := key.out w H.out
  clear key
  obtain ⟨no, hno⟩ : ∃ n, n = out.length := ⟨_, rfl⟩
  rw [← hno] at H hol
  have HNO := hid hno
  clear hno
  cases hf : findM os z with
  | none =>
    rw [hf] at CS HT
    simp only at CS HT
    rw [HT.out]
    clear hf HT
    go_enter Try.func44, Try.ntmps44
    go_wp2_with (first
      | (go_at_call 25; (with_reducible refine CS.out.mono ?_); rintro e W1 ⟨rfl, b1⟩; have H1 := hid (H.out.on b1); have c1 : W1.cell? ⟨b + 1, 0, none⟩ = some (.slice ao no co) := blk_cell H1.out.bo 0; have H2 := hid (H1.out.on (Ba W1 (.cells #[.int .u64 1, .int .u64 z] 46))); have HN2 := hid (blk_new W1 #[.int .u64 1, .int .u64 z] 46); have HS2 := hid H2.out.size; have ho2 := H2.out.oo; rw [← HNO.out] at ho2; have HO2 := hid ho2; clear b1 ho2)
      | (at_builtin; refine appL rfl _ _ 27 rfl (b + 5) 46 Try.underlying27 info_word _ no out rfl HO2.out W1.heap.size 2 2 [1, z] rfl HN2.out rfl (by omega) (by omega) HS2.out ?_; intro g cap w3 ho3 hg3 hl3 hlt3; obtain ⟨h4, c4, f4⟩ := H2.out.pushO (n' := no + 2) (out' := out ++ [1, z]) (by rw [List.length_append, ← HNO.out]; rfl) ho3 hg3 hl3; have H4 := hid h4; clear ho3 hg3 hl3 h4))
    (try simp only [Exit.inBlock, Exit.then]); refine bodyPost_ret (results_none rfl _ _ _) rfl ?_
    exact ⟨rfl, _, _, H4.out⟩
  | some k =>
    rw [hf] at CS HT
    simp only at CS HT
    clear hf
    obtain ⟨fl, hfl⟩ : ∃ x, x = ((os.getD k default).f.length : Int) := ⟨_, rfl⟩
    rw [← hfl] at CS
    clear hfl
    by_cases hm : z ∈ q
    · rw [if_pos hm] at HT
      rw [HT.out]
      have HM := hid hm
      have hix : q.idxOf z ≤ 4000 := Nat.le_trans (List.idxOf_le_length) hql
      obtain ⟨ix, hixe⟩ : ∃ x, x = q.idxOf z := ⟨_, rfl⟩
      rw [← hixe] at hix ⊢
      have HIX := hid hixe
      clear HT hixe
      have hdm : decide (z ∈ q) = true := decide_eq_true hm
      have HDM := hid hdm
      clear hm hdm
      go_enter Try.func44, Try.ntmps44
      go_wp2_with (first
        | (go_at_call 25; (with_reducible refine CS.out.mono ?_); rintro e W1 ⟨rfl, b1⟩; have H1 := hid (H.out.on b1); have c1 : W1.cell? ⟨b + 1, 0, none⟩ = some (.slice ao no co) := blk_cell H1.out.bo 0; have c3 : W1.cell? ⟨b + 3, 0, none⟩ = some (.map (some (b + 2))) := blk_cell H1.out.bm 0; obtain ⟨c, hrun⟩ := H1.out.mp.look_ok HZ.out; rw [HDM.out] at hrun; have hrun2 := H1.out.mp.look HZ.out HM.out; rw [← HIX.out] at hrun2; have H2 := hid (H1.out.on (Ba W1 (.cells #[.int .u64 2, .int .u64 (ix : Nat)] 46))); have HN2 := hid (blk_new W1 #[.int .u64 2, .int .u64 (ix : Nat)] 46); have HS2 := hid H2.out.size; have ho2 := H2.out.oo; rw [← HNO.out] at ho2; have HO2 := hid ho2; clear b1 ho2)
        | (at_builtin; refine appL rfl _ _ 27 rfl (b + 5) 46 Try.underlying27 info_word _ no out rfl HO2.out W1.heap.size 2 2 [2, (ix : Int)] rfl HN2.out rfl (by omega) (by omega) HS2.out ?_; intro g cap w3 ho3 hg3 hl3 hlt3; obtain ⟨h4, c4, f4⟩ := H2.out.pushO (n' := no + 2) (out' := out ++ [2, (ix : Int)]) (by rw [List.length_append, ← HNO.out]; rfl) ho3 hg3 hl3; have H4 := hid h4; clear ho3 hg3 hl3 h4))
      go_end0
      exact ⟨rfl, _, _, H4.out⟩
    · rw [if_neg hm] at HT
      rw [HT.out]
      have HM := hid hm
      have hdm : decide (z ∈ q) = false := decide_eq_false hm
      have HDM := hid hdm
      obtain ⟨nq, hnq⟩ : ∃ x, x = q.length := ⟨_, rfl⟩
      have HNQ := hid hnq
      rw [← hnq] at H hql ⊢
      have hmem : Hid (z ∈ q ++ [z]) := List.mem_append_right _ List.mem_cons_self
      have hidx : Hid ((q ++ [z]).idxOf z = nq) := by unfold Hid; rw [List.idxOf_append, if_neg hm, hnq]; simp
      clear HT hm hdm hnq
      have fin : Hid (∀ W4 vq', SM b w0 (.pointer (some ⟨gh, 0, none⟩)) (.slice ao no co) vq' out (q ++ [z]) (q ++ [z]) W4 → W4.cell? ⟨b + 1, 0, none⟩ = some (.slice ao no co) ∧ W4.cell? ⟨b + 3, 0, none⟩ = some (.map (some (b + 2))) ∧ (Instr.lookup 82 (.map (some (b + 2))) (.int .u64 z) false).run Try.prog W4 = .ok (.int .i64 (nq : Nat)) W4) := fun W4 vq' h => ⟨blk_cell h.bo 0, blk_cell h.bm 0, by have := h.mp.look HZ.out hmem.out; rw [hidx.out] at this; exact this⟩
      go_enter Try.func44, Try.ntmps44
      go_wp2_with (first
        | (go_at_call 25; (with_reducible refine CS.out.mono ?_); rintro e W1 ⟨rfl, b1⟩; have H1 := hid (H.out.on b1); have c3 : W1.cell? ⟨b + 3, 0, none⟩ = some (.map (some (b + 2))) := blk_cell H1.out.bm 0; obtain ⟨c, hrun⟩ := H1.out.mp.look_ok HZ.out; rw [HDM.out] at hrun; have hlen := H1.out.mp.len; rw [← HNQ.out] at hlen; obtain ⟨W2, hst, hm2, hg2⟩ := H1.out.mp.store HZ.out HM.out (by rw [← HNQ.out]; omega); rw [← HNQ.out] at hst; have H2 := hid (H1.out.map hg2 hm2); have d4 : W2.cell? ⟨b + 4, 0, none⟩ = some (.slice aq nq cq) := blk_cell H2.out.bq 0; have H3 := hid (H2.out.on (Ba W2 (.cells #[.int .u64 z] 46))); have HN3 := hid (blk_new W2 #[.int .u64 z] 46); have HS3 := hid H3.out.size; have hq3 := H3.out.oq; rw [← HNQ.out] at hq3; have HQ3 := hid hq3; clear b1 hm2 hg2 hq3)
        | (at_builtin; refine appL rfl _ _ 27 rfl (b + 5) 46 Try.underlying27 info_word _ nq q rfl HQ3.out W2.heap.size 1 1 [z] rfl HN3.out rfl (by omega) (by omega) HS3.out ?_; intro g4 cap4 w4 ho4 hg4 hl4 hlt4; obtain ⟨h5, c5, f5⟩ := H3.out.pushQ (n' := nq + 1) (q' := q ++ [z]) (by rw [List.length_append, ← HNQ.out]; rfl) ho4 hg4 hl4; have H5 := hid h5; obtain ⟨W5, hW5⟩ : ∃ W, W = w4.setCell ⟨b + 4, 0, none⟩ (.slice (some ⟨g4, 0, none⟩) (nq + 1) cap4) := ⟨_, rfl⟩; have HW5 := hid hW5; rw [← hW5] at H5; obtain ⟨x1, x2, x3⟩ := fin.out W5 _ H5.out; rw [hW5] at x1 x2 x3; have H6 := hid (H5.out.on (Ba W5 (.cells #[.int .u64 2, .int .u64 (nq : Nat)] 46))); have HN6 := hid (blk_new W5 #[.int .u64 2, .int .u64 (nq : Nat)] 46); have HS6 := hid H6.out.size; have ho6 := H6.out.oo; rw [← HNO.out] at ho6; have HO6 := hid ho6; have hsz5 : W5.heap.size = w4.heap.size := (by rw [hW5]; simp [World.setCell]); rw [hsz5] at HN6; rw [hW5] at H6 HN6 HS6 HO6; clear hsz5 ho6 ho4 hg4 hl4 h5 hW5)
        | (at_builtin; refine appL rfl _ _ 27 rfl (b + 5) 46 Try.underlying27 info_word _ no out rfl HO6.out w4.heap.size 2 2 [2, (nq : Int)] rfl HN6.out rfl (by omega) (by omega) HS6.out ?_; intro g7 cap7 w7 ho7 hg7 hl7 hlt7; obtain ⟨h8, c8, f8⟩ := H6.out.pushO (n' := no + 2) (out' := out ++ [2, (nq : Int)]) (by rw [List.length_append, ← HNO.out]; rfl) ho7 hg7 hl7; have H8 := hid h8; clear ho7 hg7 hl7 h8))
      go_end0
      exact ⟨rfl, _, _, H8.out⟩
end Go.Proofs.Ythgkonjglappjaa
