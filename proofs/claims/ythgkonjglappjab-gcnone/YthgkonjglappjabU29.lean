/-
  Walk of the program: a word is reached.
-/
import Derived.Test.YthgkonjglappjabU28
import Derived.Deep.RegionWith
set_option linter.unusedVariables false
set_option linter.unusedSimpArgs false
set_option maxRecDepth 100000
namespace Go.Proofs.Ythgkonjglappjab
open Go.RowKit

section
variable {B : Nat} {N : Int} {F : Nat → Prop} {os : List Ob} {l : List Bool} {sk : List Nat}
set_option maxHeartbeats 16000000 in
theorem reach_any {gh : Nat} (ho : OsOk os) (w0 : World) (hp0 : PH B (.pointer (some ⟨gh, 0, none⟩)) N (wordsL os) F w0) (z : Int) (hz : U64 z) (w : World)
    (h : MX os w0.heap.size w0 (.pointer (some ⟨gh, 0, none⟩)) l sk w) (hs : sk.length ≤ 5000000) :
    Calls Try.prog 16 #[.int .u64 z, .pointer (some ⟨w0.heap.size, 0, none⟩), .pointer (some ⟨w0.heap.size + 2, 0, none⟩), .pointer (some ⟨w0.heap.size + 3, 0, none⟩)] w fun e w' =>
      e = .returned (.tuple #[]) ∧ MX os w0.heap.size w0 (.pointer (some ⟨gh, 0, none⟩)) (reachS os (l, sk) z).1 (reachS os (l, sk) z).2 w' := by
  have H := hid h
  obtain ⟨vs, ln, hL, hM⟩ := h
  have HL := hid hL
  have HM := hid hM
  have hp : PH B (.pointer (some ⟨gh, 0, none⟩)) N (wordsL os) F w := hp0.keep (fun b hf => hM.bel.block b (hp0.ge b hf).2)
  have hus := ph_used hp
  have hwl := wordsL_length os
  have CA := hid (at_any z hz w)
  have cb : w.cell? ⟨w0.heap.size, 0, none⟩ = some (.pointer (some ⟨gh, 0, none⟩)) := blk_cell hM.bb 0
  have HRE : Hid (reachS os (l, sk) z = match findM os z with
    | none => (l, sk)
    | some k => if l.getD k false then (l, sk) else (l.set k true, sk ++ [k])) := rfl
  cases hf : findM os z with
  | none =>
    rw [hf] at HRE
    simp only at HRE
    rw [HRE.out]
    have key : Hid (isR 2 z = false ∨ (isR 2 z = true ∧ ∃ a : Nat, hasR 2 z = (a : Int) ∧ ∃ x, (Calls Try.prog 19 #[.pointer (some ⟨gh, 0, none⟩), .int .i64 (a : Int)] w fun e w' => e = .returned (.int .u64 x) ∧ w' = w) ∧ Calls Try.prog 18 #[.int .u64 x] w fun e w' => e = .returned (.bool false) ∧ w' = w)) := by
      cases h2 : isR 2 z
      · exact .inl rfl
      · right
        refine ⟨rfl, ?_⟩
        rcases obj_none ho hus hz hf with h1 | ⟨a, h1, h3⟩
        · rw [h2] at h1; cases h1
        · refine ⟨a, h1, ?_⟩
          by_cases ha : a < usedL os
          · refine ⟨_, q_word (by omega) w hp, ?_⟩
            have := ghead_any ((wordsL os).getD a 0) (hp.u _ (getD_in_f (by omega))) w
            have e8 : isHd ((wordsL os).getD a 0) = false := decide_eq_false (by rcases h3 with h3 | h3; omega; exact h3)
            rw [e8] at this
            exact this
          · refine ⟨0, q_noword (.inr (by omega)) w hp, ?_⟩
            have := ghead_any 0 (by unfold U64; omega) w
            rw [show isHd 0 = false from isR_zero] at this
            exact this
    obtain ⟨b, hb⟩ : ∃ b, b = w0.heap.size := ⟨_, rfl⟩
    rw [← hb] at H cb ⊢
    clear hb hp hp0 hL hM HL HM hf HRE
    rcases key.out with h2 | ⟨h2, a, ha, x, hc1, hc2⟩
    · rw [h2] at CA
      obtain ⟨a, ha⟩ : ∃ a, a = hasR 2 z := ⟨_, rfl⟩
      rw [← ha] at CA
      clear key ha
      go_enter Try.func16, Try.ntmps16
      go_wp2_with (go_at_call 17; (with_reducible refine CA.out.mono ?_); rintro e W1 ⟨rfl, hw1⟩; rw [hw1]; clear hw1)
      (try simp only [Exit.inBlock, Exit.then]); refine bodyPost_ret (results_none rfl _ _ _) rfl ?_
      exact ⟨rfl, H.out⟩
    · rw [h2, ha] at CA
      have C1 := hid hc1
      have C2 := hid hc2
      clear key ha hc1 hc2
      go_enter Try.func16, Try.ntmps16
      go_wp2_with (first
        | (go_at_call 17; (with_reducible refine CA.out.mono ?_); rintro e W1 ⟨rfl, hw1⟩; rw [hw1]; clear hw1)
        | (go_at_call 19; (with_reducible refine C1.out.mono ?_); rintro e W1 ⟨rfl, hw1⟩; rw [hw1]; clear hw1)
        | (go_at_call 18; (with_reducible refine C2.out.mono ?_); rintro e W1 ⟨rfl, hw1⟩; rw [hw1]; clear hw1))
      (try simp only [Exit.inBlock, Exit.then]); refine bodyPost_ret (results_none rfl _ _ _) rfl ?_
      exact ⟨rfl, H.out⟩
  | some k =>
    have hk := (findM_lt hf).1
    have hlt := at_lt hk
    obtain ⟨h1, h2, h3, h4⟩ := obj_some ho hus hf
    rw [h1, h2] at CA
    have C1 := hid (q_word (k := atO os k) (by omega) w hp)
    have C2 := hid (ghead_any ((wordsL os).getD (atO os k) 0) (hp.u _ (getD_in_f (by omega))) w)
    rw [show isHd ((wordsL os).getD (atO os k) 0) = true from decide_eq_true (by rw [h4])] at C2
    have CL : Hid (∀ wx, Below w.heap.size w wx → _) := fun wx hb => glen_any ho hk wx (hp.keep (fun b hf => hb.block b (hp.ge b hf).2))
    have hlen : ln.length = usedL os := hL.len
    have cp : w.cell? ⟨w0.heap.size + 2, 0, none⟩ = some (.slice (some ⟨w0.heap.size + 1, 0, none⟩) ln.length ln.length) := blk_cell hM.bp 0
    have cl := hM.len (i := atO os k) (by omega)
    have fl := blk_free hM.bl (atO os k)
    rw [hL.yes k hk] at cl
    rw [hf] at HRE
    simp only at HRE
    have HSET := hid (hL.set hk)
    have HMS := hid (hM.set (atO os k) ((1 + (os.getD k default).f.length : Nat) : Int))
    obtain ⟨b, hb⟩ : ∃ b, b = w0.heap.size := ⟨_, rfl⟩
    obtain ⟨A, hA⟩ : ∃ x, x = atO os k := ⟨_, rfl⟩
    obtain ⟨m, hm⟩ : ∃ x, x = (os.getD k default).f.length := ⟨_, rfl⟩
    obtain ⟨x, hx⟩ : ∃ x, x = (wordsL os).getD (atO os k) 0 := ⟨_, rfl⟩
    rw [← hx] at C1 C2
    rw [← hb] at H HM HMS cb cp cl fl ⊢
    rw [← hm] at HSET HMS cl CL
    rw [hlen] at cp
    have hUU : A + 1 + m ≤ usedL os := by rw [hA, hm]; exact hlt
    have HAK := hid hA
    rw [← hA] at C1 CA CL HSET HMS cl fl
    obtain ⟨us, hus'⟩ : ∃ x, x = usedL os := ⟨_, rfl⟩
    rw [← hus'] at cp hus hUU
    cases hb2 : l.getD k false
    · rw [hb2] at HRE cl
      have hre : reachS os (l, sk) z = (l.set k true, sk ++ [k]) := HRE.out
      rw [hre]
      have cl' : w.cell? ⟨b + 1, A, none⟩ = some (.int .i64 0) := cl
      obtain ⟨n, hn⟩ : ∃ x, x = sk.length := ⟨_, rfl⟩
      rw [← hn] at hs
      have HN := hid hn
      obtain ⟨vo, so⟩ : ∃ a c, vs = .slice a n c := by
        obtain ⟨a, c, e, _⟩ := slice_of' HM.out.so
        rw [List.length_map, ← hn] at e
        exact ⟨a, c, e⟩
      obtain ⟨cs, rfl⟩ := so
      clear hp hp0 hL hM hf HRE hre cl hk hlt h1 h2 h3 h4 hb hA hm hx hlen hwl hb2 hus' hn HL
      go_enter Try.func16, Try.ntmps16
      go_wp2_with (first
        | (go_at_call 17; (with_reducible refine CA.out.mono ?_); rintro e W1 ⟨rfl, hw1⟩; rw [hw1]; clear hw1)
        | (go_at_call 19; (with_reducible refine C1.out.mono ?_); rintro e W1 ⟨rfl, hw1⟩; rw [hw1]; clear hw1)
        | (go_at_call 18; (with_reducible refine C2.out.mono ?_); rintro e W1 ⟨rfl, hw1⟩; rw [hw1]; clear hw1))
      go_region_with (go_at_call 20; (with_reducible refine (CL.out _ (below_drew w)).mono ?_); rintro e W1 ⟨rfl, hw1⟩; rw [hw1]; clear hw1)
      all_goals
        have hW := HMS.out.on (below_drew _)
        rw [show (((1 + m : Nat) : Int)) = 1 + (m : Int) by omega] at hW
        have HLS := HSET
        rw [show (((1 + m : Nat) : Int)) = 1 + (m : Int) by omega] at HLS
        generalize (w.setCell ⟨b + 1, A, none⟩ (Value.int IntKind.i64 (1 + (m : Int)))).drew = W at *
        generalize ln.set A (1 + (m : Int)) = ln2 at *
        have c3 : W.cell? ⟨b + 3, 0, none⟩ = some (.slice vo n cs) := blk_cell hW.bs 0
        have H2 := hid (hW.on (Ba W (.cells #[.int .i64 (A : Nat)] 3)))
        have A1 : Hid ((W.alloc (.cells #[.int .i64 (A : Nat)] 3)).ownsRow (b + 4) 3 1 (.slice vo n cs) n (iz (sk.map (fun k => ((atO os k : Nat) : Int))))) := by
          have := H2.out.so
          rw [List.length_map, ← HN.out] at this
          exact this
        have A2 : Hid ((W.alloc (.cells #[.int .i64 (A : Nat)] 3)).cell? ⟨W.heap.size, 0, none⟩ = some (.int .i64 (A : Nat))) := blk_cell (blk_new W #[.int .i64 (A : Nat)] 3) 0
        have A3 := hid H2.out.size
        have HRQ : Hid (((sk.map (fun k => ((atO os k : Nat) : Int))) ++ [(A : Int)]) = (sk ++ [k]).map (fun k => ((atO os k : Nat) : Int))) := by
          unfold Hid; rw [List.map_append, HAK.out]; rfl
        clear hW HMS HSET H HM cl' cp cb fl CA C1 C2 CL
        go_wp2_with (at_builtin; refine appi rfl _ _ 29 rfl (b + 4) 3 Try.underlying29 info_iz _ n (sk.map (fun k => ((atO os k : Nat) : Int))) rfl A1.out ⟨W.heap.size, 0, none⟩ 1 (A : Nat) rfl A2.out (by omega) A3.out ?_; intro g cap w3 ho3 hg3 hl3 hlt3; rw [HRQ.out] at ho3; have hln : ((sk ++ [k]).map (fun k => ((atO os k : Nat) : Int))).length = n + 1 := (by rw [List.length_map, List.length_append, ← HN.out]; rfl); obtain ⟨h4, c4, f4⟩ := H2.out.turn (vs' := .slice (some ⟨g, 0, none⟩) (n + 1) cap) (st' := (sk ++ [k]).map (fun k => ((atO os k : Nat) : Int))) hg3 (by rw [hln]; exact ho3); have H4 := hid h4; clear ho3 hg3 hl3 h4 hln)
        go_end0
        exact ⟨rfl, _, _, HLS.out, H4.out⟩
    · rw [hb2] at HRE cl
      have hre : reachS os (l, sk) z = (l, sk) := HRE.out
      rw [hre]
      have cl' : w.cell? ⟨b + 1, A, none⟩ = some (.int .i64 ((1 + m : Nat) : Int)) := cl
      clear hp hp0 hL hM HL HM hf HRE hre cl hk hlt h1 h2 h3 h4 hb hA hm hx hlen hwl hb2 HSET HMS hus'
      go_enter Try.func16, Try.ntmps16
      go_wp2_with (first
        | (go_at_call 17; (with_reducible refine CA.out.mono ?_); rintro e W1 ⟨rfl, hw1⟩; rw [hw1]; clear hw1)
        | (go_at_call 19; (with_reducible refine C1.out.mono ?_); rintro e W1 ⟨rfl, hw1⟩; rw [hw1]; clear hw1)
        | (go_at_call 18; (with_reducible refine C2.out.mono ?_); rintro e W1 ⟨rfl, hw1⟩; rw [hw1]; clear hw1))
      (try simp only [Exit.inBlock, Exit.then]); refine bodyPost_ret (results_none rfl _ _ _) rfl ?_
      exact ⟨rfl, H.out⟩
end
end Go.Proofs.Ythgkonjglappjab
