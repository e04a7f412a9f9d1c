/-
  Walk of the program: mark.
-/
import Derived.Test.YthgkonjglappjabU29
set_option linter.unusedVariables false
set_option linter.unusedSimpArgs false
set_option maxRecDepth 100000
namespace Go.Proofs.Ythgkonjglappjab
open Go.RowKit

theorem mx_start {os : List Ob} {w W1 W2 W3 W4 : World} {v : Value} {us : Nat} (hu : us = usedL os) (h1 : W1 = w.alloc (.cells #[v] 28)) (h2 : W2 = W1.alloc (.cells (madeCells #[.int .i64 0] us) 3)) (h3 : W3 = W2.alloc (.cells #[.slice (some ⟨w.heap.size + 1, 0, none⟩) us us] 29)) (h4 : W4 = W3.alloc (.cells #[.slice none 0 0] 29)) :
    MX os w.heap.size w v (List.replicate os.length false) [] W4 := by
  subst hu
  have s1 : W1.heap.size = w.heap.size + 1 := by rw [h1]; simp
  have s2 : W2.heap.size = w.heap.size + 2 := by rw [h2]; simp [s1]
  have s3 : W3.heap.size = w.heap.size + 3 := by rw [h3]; simp [s2]
  have b1 : Below w.heap.size w W1 := by rw [h1]; exact Ba _ _
  have b2 : Below (w.heap.size + 1) W1 W2 := by rw [h2, ← s1]; exact Ba _ _
  have b3 : Below (w.heap.size + 2) W2 W3 := by rw [h3, ← s2]; exact Ba _ _
  have b4 : Below (w.heap.size + 3) W3 W4 := by rw [h4, ← s3]; exact Ba _ _
  have n1 : W1.heap[w.heap.size]? = some (.cells #[v] 28 (0, 0)) := by rw [h1]; exact blk_new _ _ _
  have n2 : W2.heap[w.heap.size + 1]? = some (.cells (madeCells #[.int .i64 0] (usedL os)) 3 (0, 0)) := by rw [h2, ← s1]; exact blk_new _ _ _
  have n3 : W3.heap[w.heap.size + 2]? = some (.cells #[.slice (some ⟨w.heap.size + 1, 0, none⟩) (usedL os) (usedL os)] 29 (0, 0)) := by rw [h3, ← s2]; exact blk_new _ _ _
  have n4 : W4.heap[w.heap.size + 3]? = some (.cells #[.slice none 0 0] 29 (0, 0)) := by rw [h4, ← s3]; exact blk_new _ _ _
  have e : madeCells #[.int .i64 0] (usedL os) = (iz (List.replicate (usedL os) 0)).toArray := by
    rw [← Array.toArray_toList (xs := madeCells #[.int .i64 0] (usedL os)), toList_madeCells_one]; simp [iz]
  rw [e] at n2
  have e1 : W4.heap[w.heap.size]? = W1.heap[w.heap.size]? := (b4.block _ (by omega)).trans ((b3.block _ (by omega)).trans (b2.block _ (by omega)))
  have e2 : W4.heap[w.heap.size + 1]? = W2.heap[w.heap.size + 1]? := (b4.block _ (by omega)).trans (b3.block _ (by omega))
  have e3 : W4.heap[w.heap.size + 2]? = W3.heap[w.heap.size + 2]? := b4.block _ (by omega)
  refine ⟨.slice none 0 0, List.replicate (usedL os) 0, Lens.start os, b1.trans ((b2.mono (by omega)).trans ((b3.mono (by omega)).trans (b4.mono (by omega)))), e1.trans n1, e2.trans n2, ?_, n4, World.ownsRow_nil _ _ _ _⟩
  rw [List.length_replicate]
  exact e3.trans n3
theorem drop_getD {l : List Int} {j : Nat} (h : j < l.length) : l.drop j = l.getD j 0 :: l.drop (j + 1) := by
  rw [List.drop_eq_getElem_cons h, List.getD_eq_getElem?_getD, List.getElem?_eq_getElem h]; rfl
theorem grown_self (w : World) (r : Option Nat) : w.grownBy w r := ⟨rfl, rfl, rfl, Nat.le_refl _, fun _ _ _ => rfl⟩
section
variable {B : Nat} {v : Value} {N : Int} {F : Nat → Prop} {os : List Ob}
set_option maxHeartbeats 16000000 in
theorem mark_any (ho : OsOk os) (ro : Option Addr) (nr cr : Nat) (rs : List Int) (w : World) (h : PH B v N (wordsL os) F w) (R : URow w ro nr cr rs) :
    Calls Try.prog 8 #[v, .slice ro nr cr] w fun e w' => ∃ g ln, e = .returned (.slice (some ⟨g, 0, none⟩) (usedL os) (usedL os)) ∧ w.heap.size ≤ g ∧ Lens os (lvL os rs) ln ∧ w'.heap[g]? = some (.cells (iz ln).toArray 3 (0, 0)) ∧ Below w.heap.size w w' := by
  have hus := ph_used h
  have hwl := wordsL_length os
  have H := hid h
  have HR := hid R
  have hrl := R.len
  have hrf := R.fits
  have hrx := R.most
  unfold maxLen at hrx
  obtain ⟨gh, rfl⟩ := h.ptr
  have CU : Hid (∀ wx, Below w.heap.size w wx → Calls Try.prog 15 #[.pointer (some ⟨gh, 0, none⟩)] wx fun e w' => e = .returned (.int .i64 (usedL os : Nat)) ∧ w' = wx) := fun wx hb => by
    have := q_used wx (H.out.keep (fun b hf => hb.block b (H.out.ge b hf).2))
    rw [hwl] at this
    exact this
  have CR : Hid (∀ z, U64 z → ∀ l sk wx, MX os w.heap.size w (.pointer (some ⟨gh, 0, none⟩)) l sk wx → sk.length ≤ 5000000 → _) := fun z hz l sk wx hm hs => reach_any ho w H.out z hz wx hm hs
  clear h R
  obtain ⟨us, hu⟩ : ∃ x, x = usedL os := ⟨_, rfl⟩
  rw [← hu] at CU hus ⊢
  have HU := hid hu
  clear hu hwl
  have hmk := fun wx => run_make_row' (P := Try.prog) 29 3 (.int .i64 0) 8 Try.underlying29 info_iz rfl .i64 .i64 us (by omega) (by omega) wx
  have HB0 : Hid (Below w.heap.size w (w.alloc (.cells #[.pointer (some ⟨gh, 0, none⟩)] 28))) := Ba _ _
  go_enter Try.func8, Try.ntmps8
  go_wp2_with (go_at_call 15; (with_reducible refine (CU.out _ HB0.out).mono ?_); rintro e W1 ⟨rfl, hw1⟩; rw [hw1]; clear hw1)
  clear hmk CU HB0
  have HST : Hid (MX os w.heap.size w (.pointer (some ⟨gh, 0, none⟩)) (List.replicate os.length false) [] ((((w.alloc (.cells #[.pointer (some ⟨gh, 0, none⟩)] 28)).alloc (.cells (madeCells #[.int .i64 0] us) 3)).alloc (.cells #[.slice (some ⟨w.heap.size + 1, 0, none⟩) us us] 29)).alloc (.cells #[.slice none 0 0] 29))) := mx_start HU.out rfl rfl rfl rfl
  generalize ((((w.alloc (.cells #[.pointer (some ⟨gh, 0, none⟩)] 28)).alloc (.cells (madeCells #[.int .i64 0] us) 3)).alloc (.cells #[.slice (some ⟨w.heap.size + 1, 0, none⟩) us us] 29)).alloc (.cells #[.slice none 0 0] 29)) = WS at *
  have CR2 : Hid (∀ z, U64 z → ∀ l sk wx, MX os w.heap.size w (.pointer (some ⟨gh, 0, none⟩)) l sk wx → sk.length ≤ 5000000 → Calls Try.prog 16 #[.int .u64 z, .pointer (some ⟨w.heap.size, 0, none⟩), .pointer (some ⟨w.heap.size + 1 + 1, 0, none⟩), .pointer (some ⟨w.heap.size + 1 + 1 + 1, 0, none⟩)] wx fun e w' => e = .returned (.tuple #[]) ∧ MX os w.heap.size w (.pointer (some ⟨gh, 0, none⟩)) (reachS os (l, sk) z).1 (reachS os (l, sk) z).2 w') := CR.out
  clear CR
  obtain ⟨g2, hg2⟩ : ∃ g, g = w.heap.size + 1 + 1 := ⟨_, rfl⟩
  rw [← hg2] at CR2
  rw [← hg2]
  have HG2 : Hid (g2 = w.heap.size + 2) := hg2
  clear hg2
  have HOL : Hid (os.length ≤ 4194304) := Nat.le_trans (len_le_used os) (by rw [← HU.out]; exact hus)
  have HRL := hid hrl
  go_loopw [19] (fun i wr => ∃ q : Nat, q ≤ nr ∧ i = .int .i64 q ∧ Hid (∃ l sk, RI os rs (rs.drop q) l sk ∧ MX os w.heap.size w (.pointer (some ⟨gh, 0, none⟩)) l sk wr)) (fun i _ => nr - (intOf i).toNat)
  case atStart => exact ⟨0, Nat.zero_le _, rfl, _, _, RI.start os rs, HST.out⟩
  case round =>
    clear HST
    obtain ⟨q, hq, rfl, hI⟩ := hrel
    obtain ⟨l, sk, hRI, hMX⟩ := hI.out
    have HI := hid hRI
    have HX := hid hMX
    clear hI hRI hMX
    by_cases hlt : q < nr
    · obtain ⟨bb, oo, rfl, hlb, hcc⟩ := HR.out.some (by omega)
      obtain ⟨vs, ln, hL, hM⟩ := HX.out
      have hck := (hM.bel.cell (p := ⟨bb, oo + q, none⟩) hlb).trans (hcc q hlt)
      have hzu := HR.out.bd _ (getD_in_f (l := rs) (i := q) (by have := HRL.out; omega))
      have C1 := hid (CR2.out _ hzu l sk wr HX.out (by have := HI.out.cnt; have := HOL.out; omega))
      have HD : Hid (rs.drop q = rs.getD q 0 :: rs.drop (q + 1)) := by
        exact drop_getD (by have := HRL.out; omega)
      obtain ⟨z, hz⟩ : ∃ z, z = rs.getD q 0 := ⟨_, rfl⟩
      rw [← hz] at hck C1 HD
      clear hcc hzu hz hL hM
      go_wp2_with (go_at_call 16; (with_reducible refine C1.out.mono ?_); rintro e W1 ⟨rfl, h1⟩; have H1 := hid h1; clear h1)
      have hr := HI.out
      rw [HD.out] at hr
      exact ⟨⟨q + 1, by omega, by go_num, _, _, hr.reach.1, H1.out⟩, by simp [intOf] <;> omega⟩
    · obtain rfl : q = nr := by omega
      have HD : Hid (rs.drop q = []) := List.drop_eq_nil_of_le (by have := HRL.out; omega)
      rw [HD.out] at HI
      clear HD
      go_wp2_with fail
      go_loopg [10] (2 * cntB l + sk.length + 1) (fun gk v wr => Hid (∃ l sk, RI os rs [] l sk ∧ MX os w.heap.size w (.pointer (some ⟨gh, 0, none⟩)) l sk wr ∧ 2 * cntB l + sk.length < gk))
      case atStart => exact ⟨l, sk, HI.out, HX.out, by omega⟩
      case round =>
        clear HI HX
        obtain ⟨l, sk, hRI, hMX, hgk⟩ := hrel.out
        clear hrel
        rcases List.eq_nil_or_concat sk with hsk | ⟨sk0, k, hsk⟩
        · subst hsk
          obtain ⟨vs, ln, hL, hM⟩ := hMX
          have hlv := hRI.done
          rw [hlv] at hL
          have HL := hid hL
          have HM := hid hM
          have hvs : vs = .slice none 0 0 ∨ ∃ a c, vs = .slice (some a) 0 c := by
            rcases hM.so.2 with ⟨e, _⟩ | ⟨g, cap, cur, e, _⟩
            · exact .inl e
            · exact .inr ⟨_, _, e⟩
          have cs : wr.cell? ⟨g2 + 1, 0, none⟩ = some vs := by rw [HG2.out]; exact blk_cell hM.bs 0
          have cp : wr.cell? ⟨g2, 0, none⟩ = some (.slice (some ⟨w.heap.size + 1, 0, none⟩) us us) := by
            have := blk_cell hM.bp 0
            rw [hL.len, ← HU.out] at this
            rw [HG2.out]; exact this
          clear hlv hL hM hRI
          have fin : Hid (∃ g ln, Ending.returned (.slice (some ⟨w.heap.size + 1, 0, none⟩) us us) = .returned (.slice (some ⟨g, 0, none⟩) us us) ∧ w.heap.size ≤ g ∧ Lens os (lvL os rs) ln ∧ wr.heap[g]? = some (.cells (iz ln).toArray 3 (0, 0)) ∧ Below w.heap.size w wr) :=
            ⟨_, ln, rfl, by omega, HL.out, HM.out.bl, HM.out.bel⟩
          rcases hvs with rfl | ⟨a, c, rfl⟩
          · go_wp2_with fail
            go_ret
            exact fin.out
          · go_wp2_with fail
            go_ret
            exact fin.out
        · rw [List.concat_eq_append] at hsk
          subst hsk
          obtain ⟨hRI0, hk, hkl⟩ := hRI.pop
          obtain ⟨vs, ln, hL, hM⟩ := hMX
          have hln : (sk0 ++ [k]).length = sk0.length + 1 := by rw [List.length_append]; rfl
          have hso := hM.so
          rw [List.length_map, hln, List.map_append] at hso
          obtain ⟨a, c, rfl, hc1, hc2⟩ := slice_of' hso
          obtain ⟨ho1, _, _, g, rfl, hcl⟩ := own_pop hso
          have cs : wr.cell? ⟨g2 + 1, 0, none⟩ = some (.slice (some ⟨g, 0, none⟩) (sk0.length + 1) c) := by rw [HG2.out]; exact blk_cell hM.bs 0
          obtain ⟨h5, _, f5⟩ := hM.turn (vs' := .slice (some ⟨g, 0, none⟩) sk0.length c) (st' := sk0.map (fun k => ((atO os k : Nat) : Int))) (grown_self wr _) (by rw [List.length_map]; exact ho1)
          have e3 : w.heap.size + 3 = g2 + 1 := by rw [HG2.out]
          rw [e3] at h5 f5
          have hX5 : MX os w.heap.size w (.pointer (some ⟨gh, 0, none⟩)) l sk0 (wr.setCell ⟨g2 + 1, 0, none⟩ (.slice (some ⟨g, 0, none⟩) sk0.length c)) := ⟨_, _, hL, h5⟩
          have H5 := hid hX5
          have HI := hid hRI0
          have HGK : Hid (2 * cntB l + sk0.length + 1 < gk) := by unfold Hid; rw [hln] at hgk; omega
          have HKL := hid hkl
          have HK := hid hk
          have hlt2 : atO os k + 1 + (os.getD k default).f.length ≤ us := by rw [HU.out]; exact at_lt hk
          have hnl : sk0.length ≤ 4194304 := by have := hRI0.cnt; have := HOL.out; omega
          obtain ⟨n, hn⟩ : ∃ x, x = sk0.length := ⟨_, rfl⟩
          obtain ⟨A, hA⟩ : ∃ x, x = atO os k := ⟨_, rfl⟩
          obtain ⟨m, hm⟩ : ∃ x, x = (os.getD k default).f.length := ⟨_, rfl⟩
          rw [← hn] at cs hcl H5 hc1 hnl
          replace hcl : wr.cell? ⟨g, n, none⟩ = some (.int .i64 (atO os k : Nat)) := hcl
          rw [← hA] at hcl hlt2
          rw [← hm] at hlt2
          have HN := hid hn
          have HA := hid hA
          have HMM := hid hm
          clear hRI hRI0 hL hM hso ho1 hn hA hm hkl hk h5 hX5 e3 hgk hln
          have CW : Hid (∀ j, j < m → ∀ wx, Below w.heap.size w wx → Calls Try.prog 19 #[.pointer (some ⟨gh, 0, none⟩), .int .i64 ((A : Int) + 1 + (j : Int))] wx fun e w' => e = .returned (.int .u64 ((os.getD k default).f.getD j 0)) ∧ w' = wx) := fun j hj wx hb => by
            have hj2 : j < (os.getD k default).f.length := by rw [← HMM.out]; exact hj
            have := q_word (k := atO os k + 1 + j) (by rw [wordsL_length]; have := at_lt HK.out; omega) wx (H.out.keep (fun b hf => hb.block b (H.out.ge b hf).2))
            rw [word_field HK.out hj2] at this
            rw [show (A : Int) + 1 + (j : Int) = ((atO os k + 1 + j : Nat) : Int) by rw [HA.out]; omega]
            exact this
          go_wp2_with fail
          clear cs hcl f5
          generalize wr.setCell ⟨g2 + 1, 0, none⟩ (Value.slice (some ⟨g, 0, none⟩) n c) = W5 at *
          go_loopw [12] (fun i wy => ∃ j : Nat, j ≤ m ∧ i = .int .i64 ((A : Int) + 1 + (j : Int)) ∧ Hid (∃ l' sk', RI os rs ((os.getD k default).f.drop j) l' sk' ∧ MX os w.heap.size w (.pointer (some ⟨gh, 0, none⟩)) l' sk' wy ∧ l'.getD k false = true ∧ 2 * cntB l' + sk'.length + 1 < gk)) (fun i _ => m - (intOf i - (A : Int) - 1).toNat)
          case atStart => exact ⟨0, Nat.zero_le _, by simp, l, sk0, HI.out, H5.out, HKL.out, HGK.out⟩
          case round =>
            clear HI H5 HKL HGK
            obtain ⟨j, hj, rfl, hI⟩ := hrel
            obtain ⟨l', sk', hRI, hMX, hkl, hgk⟩ := hI.out
            have HI := hid hRI
            have HX := hid hMX
            have HKL := hid hkl
            have HGK := hid hgk
            obtain ⟨vs, ln, hL, hM⟩ := hMX
            have HBW := hid hM.bel
            have cb : wr.cell? ⟨w.heap.size, 0, none⟩ = some (.pointer (some ⟨gh, 0, none⟩)) := blk_cell hM.bb 0
            have cp : wr.cell? ⟨g2, 0, none⟩ = some (.slice (some ⟨w.heap.size + 1, 0, none⟩) us us) := by
              have := blk_cell hM.bp 0
              rw [hL.len, ← HU.out] at this
              rw [HG2.out]; exact this
            have cl : wr.cell? ⟨w.heap.size + 1, A, none⟩ = some (.int .i64 (1 + (m : Int))) := by
              have := hM.len (i := A) (by rw [hL.len, ← HU.out]; omega)
              rw [this, HA.out, hL.yes k HK.out, hkl, if_pos rfl, ← HMM.out]
              simp
            clear hI hRI hL hM hkl hgk
            by_cases hlt3 : j < m
            · have hzu : Hid (U64 ((os.getD k default).f.getD j 0)) := ho.uf _ (getD_in_os HK.out) _ (getD_in_f (by rw [← HMM.out]; exact hlt3))
              have C1 := hid (CW.out j hlt3 wr HBW.out)
              have C2 := hid (CR2.out _ hzu.out l' sk' wr HX.out (by have := HI.out.cnt; have := HOL.out; omega))
              have HD : Hid ((os.getD k default).f.drop j = (os.getD k default).f.getD j 0 :: (os.getD k default).f.drop (j + 1)) := by
                exact drop_getD (by rw [← HMM.out]; exact hlt3)
              obtain ⟨z, hz⟩ : ∃ z, z = (os.getD k default).f.getD j 0 := ⟨_, rfl⟩
              rw [← hz] at C1 C2 HD
              clear hz hzu
              go_wp2_with (first
                | (go_at_call 19; (with_reducible refine C1.out.mono ?_); rintro e W1 ⟨rfl, hw1⟩; rw [hw1]; clear hw1)
                | (go_at_call 16; (with_reducible refine C2.out.mono ?_); rintro e W1 ⟨rfl, h1⟩; have H1 := hid h1; clear h1))
              have hr := HI.out
              rw [HD.out] at hr
              refine ⟨⟨j + 1, by omega, by go_num, _, _, hr.reach.1, H1.out, reachS_mono HKL.out hr.mks.len, ?_⟩, by simp [intOf] <;> omega⟩
              have := hr.reach.2
              have := HGK.out
              omega
            · have hjm : m ≤ j := by omega
              have HD : Hid ((os.getD k default).f.drop j = []) := List.drop_eq_nil_of_le (by rw [← HMM.out]; omega)
              go_wp2_with fail
              have hr := HI.out
              rw [HD.out] at hr
              have hgk := HGK.out
              go_roundg (gk - 1)
              case measure => omega
              case rel => exact ⟨l', sk', hr, HX.out, by omega⟩
end
end Go.Proofs.Ythgkonjglappjab
