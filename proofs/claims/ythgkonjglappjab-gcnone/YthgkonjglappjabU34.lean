/-
  Walk of the program: Collect.
-/
import Derived.Test.YthgkonjglappjabU33
set_option linter.unusedVariables false
set_option linter.unusedSimpArgs false
set_option maxRecDepth 100000
namespace Go.Proofs.Ythgkonjglappjab
open Go.RowKit

section
variable {B : Nat} {v : Value} {N : Int} {F : Nat → Prop} {os : List Ob}
theorem list_eq {la lb : List Int} (hl : la.length = lb.length) (h : ∀ k, k < la.length → la.getD k 0 = lb.getD k 0) : la = lb := by
  apply List.ext_getElem hl
  intro i h1 h2
  have := h i h1
  rw [List.getD_eq_getElem?_getD, List.getD_eq_getElem?_getD, List.getElem?_eq_getElem h1, List.getElem?_eq_getElem h2] at this
  simpa using this
theorem uz_cell {w : World} {g : Nat} {l : List Int} (h : w.heap[g]? = some (.cells (uz l).toArray 32 (0, 0))) {i : Nat} (hi : i < l.length) : w.cell? ⟨g, i, none⟩ = some (.int .u64 (l.getD i 0)) := by
  rw [blk_cell h, List.getElem?_toArray, uz_get hi]
theorem urow_blk {w : World} {g n : Nat} {l : List Int} (h : w.heap[g]? = some (.cells (uz l).toArray 32 (0, 0))) (hl : l.length = n) (hn : n ≤ 1000000) (hu : ∀ z ∈ l, U64 z) : URow w (some ⟨g, 0, none⟩) n n l :=
  ⟨hl, Nat.le_refl _, by unfold maxLen; omega, fun e => (by cases e), hu, .inr ⟨g, 0, rfl, (Array.getElem?_eq_some_iff.1 h).1, fun i hi => by rw [Nat.zero_add]; exact uz_cell h hi⟩⟩
theorem uz_set {w : World} {g i : Nat} {l : List Int} {z : Int} (h : w.heap[g]? = some (.cells (uz l).toArray 32 (0, 0))) : (w.setCell ⟨g, i, none⟩ (.int .u64 z)).heap[g]? = some (.cells (uz (l.set i z)).toArray 32 (0, 0)) := by
  rw [blk_set (i := i) h]
  simp [uz, List.map_set]
theorem uz_made {w : World} {n : Nat} : (w.alloc (.cells (madeCells #[.int .u64 0] n) 32)).heap[w.heap.size]? = some (.cells (uz (List.replicate n 0)).toArray 32 (0, 0)) := by
  rw [blk_new]
  have e : madeCells #[.int .u64 0] n = (uz (List.replicate n 0)).toArray := by
    rw [← Array.toArray_toList (xs := madeCells #[.int .u64 0] n), toList_madeCells_one]; simp [uz]
  rw [e]
theorem slide_at {l : List Bool} {ln pl : List Int} {b g : Nat} (ho : OsOk os) (w W2 : World) (h : PH B v N (wordsL os) F w) (hB : B ≤ w.heap.size) (hb : Below w.heap.size w W2) (L : Lens os l ln) (P : Plc os l pl) (hbw : w.heap.size ≤ b) (hgw : w.heap.size ≤ g) (V : MV b g (usedL os) ln pl W2) :
    Calls Try.prog 10 #[v, .slice (some ⟨g, 0, none⟩) (usedL os) (usedL os), .func (.func 21) #[] #[.pointer (some ⟨b, 0, none⟩), .pointer (some ⟨b + 1 + 1, 0, none⟩)]] W2 fun e w' =>
      e = .returned (.tuple #[]) ∧ PPost B v N F W2 (wordsL (collO os l)) w' ∧ MV b g (usedL os) ln pl w' := by
  have hF : ∀ k, F k → k < w.heap.size := fun k hk => (h.ge k hk).2
  have hV : ∀ wx, Mod F W2 wx → MV b g (usedL os) ln pl wx := fun wx hx => V.keep (fun k hk => hx.block k (by
    have h1 := (Array.getElem?_eq_some_iff.1 V.bb).1
    have h2 := (Array.getElem?_eq_some_iff.1 V.bp).1
    have h3 := (Array.getElem?_eq_some_iff.1 V.bq).1
    have h4 := (Array.getElem?_eq_some_iff.1 V.lg).1
    omega) (fun hk' => by have := hF k hk'; omega))
  have hp2 : PH B v N (wordsL os) F W2 := h.keep (fun k hk => hb.block k (hF k hk))
  refine (slide_any ho L W2 hp2 (Nat.le_trans hB hb.size) V.lg (fun hk => by have := hF g hk; omega) (fun wx hx z hz => move_any L P (ph_used h) z hz wx (hV wx hx))).mono ?_
  rintro e w' ⟨h1, F', h2, h3, h4⟩
  exact ⟨h1, ⟨F', h2, h3, h4⟩, hV w' h4⟩
set_option maxHeartbeats 16000000 in
theorem pcollect_any (ho : OsOk os) (ro : Option Addr) (nr cr : Nat) (rs : List Int) (w : World) (h : PH B v N (wordsL os) F w) (R : URow w ro nr cr rs) (hB : B ≤ w.heap.size) (ha : ∀ a, ro = some a → ¬ F a.block) (hsm : nr ≤ 1000000) :
    Calls Try.prog 6 #[v, .slice ro nr cr] w fun e w' => ∃ ao cap, e = .returned (.slice ao nr cap) ∧ URow w' ao nr cap (collR os (lvL os rs) rs) ∧ (∀ a, ao = some a → w.heap.size ≤ a.block) ∧ ∃ F', PH B v N (wordsL (collO os (lvL os rs))) F' w' ∧ (∀ b, F' b → F b ∨ w.heap.size ≤ b) ∧ (∀ a, ao = some a → ¬ F' a.block) ∧ Mod F w w' := by
  have hus := ph_used h
  have H := hid h
  have HR := hid R
  have HAR := hid ha
  have hrl := R.len
  have hrf := R.fits
  have hrx := R.most
  unfold maxLen at hrx
  have HRL := hid hrl
  have CM := hid (mark_any ho ro nr cr rs w h R)
  have HFW : Hid (∀ b, F b → b < w.heap.size) := fun b hb => (h.ge b hb).2
  obtain ⟨gh, rfl⟩ := h.ptr
  clear h R ha hrl
  have CS : Hid (∀ (ln pl : List Int) (b g : Nat) (W2 : World), Below w.heap.size w W2 → Lens os (lvL os rs) ln → Plc os (lvL os rs) pl → w.heap.size ≤ b → w.heap.size ≤ g → MV b g (usedL os) ln pl W2 → _) := fun ln pl b g W2 hb hL hP hbw hgw hV => slide_at ho w W2 H.out hB hb hL hP hbw hgw hV
  have CV : Hid (∀ (g : Nat) (ln : List Int) (wx : World), Lens os (lvL os rs) ln → wx.heap[g]? = some (.cells (iz ln).toArray 3 (0, 0)) → _) := fun g ln wx hL hr => mover_any (l := lvL os rs) hL hus wx hr
  obtain ⟨us, hu⟩ : ∃ x, x = usedL os := ⟨_, rfl⟩
  rw [← hu] at CM CV CS hus
  have HU := hid hu
  clear hu
  have hmk := fun wx => run_make_row' (P := Try.prog) 22 32 (.int .u64 0) 8 Try.underlying22 info_word rfl .i64 .i64 nr (by omega) (by omega) wx
  go_enter Try.func6, Try.ntmps6
  go_wp2_with (first
    | (go_at_call 8; (with_reducible refine CM.out.mono ?_); rintro e W1 ⟨g, ln, rfl, hg, hL, hrow, b1⟩; have HL := hid hL; have HG := hid hg; have HRW := hid hrow; have HB1 := hid b1; clear hg hL hrow b1)
    | (go_at_call 9; (with_reducible refine (CV.out g ln W1 HL.out HRW.out).mono ?_); rintro e W2 ⟨pl, rfl, hP, hV, b2⟩; have HP := hid hP; have HV := hid hV; have HB2 := hid (Bt HB1.out b2); clear hP hV b2)
    | (go_at_call 10; (with_reducible refine (CS.out ln pl W1.heap.size g W2 HB2.out HL.out HP.out HB1.out.size HG.out HV.out).mono ?_); rintro e W3 ⟨rfl, hPP, hV3⟩; have HPP := hid hPP; have HV3 := hid hV3; clear hPP hV3))
  clear hmk CM CV CS
  obtain ⟨F', hp3, hf3, hm3⟩ := HPP.out
  have HP3 := hid hp3
  have HF3 := hid hf3
  have HM3 := hid hm3
  have HMW : Hid (Mod F w W3) := (Mod.of_below F HB2.out).trans hm3 (fun _ _ h => h)
  have HRR : Hid (∀ wx, Below W3.heap.size W3 wx → URow wx ro nr cr rs) := fun wx hb => HR.out.keep (Nat.le_trans HMW.out.size hb.size) (fun hne a ha => by
    rcases HR.out.rd with e | ⟨b, o, e, hlt, _⟩
    · exact absurd e hne
    · rw [ha] at e
      have e2 : a.block = b := by cases e; rfl
      rw [e2]
      have hnf : ¬ F b := by rw [← e2]; exact HAR.out a ha
      exact (hb.block b (Nat.lt_of_lt_of_le hlt HMW.out.size)).trans (HMW.out.block b hlt hnf))
  have CMV : Hid (∀ wx, Below W3.heap.size W3 wx → ∀ z, U64 z → Calls Try.prog 21 #[.int .u64 z, .pointer (some ⟨W1.heap.size, 0, none⟩), .pointer (some ⟨W1.heap.size + 1 + 1, 0, none⟩)] wx fun e w' => e = .returned (.int .u64 (movedM os (lvL os rs) z)) ∧ w' = wx) := fun wx hb z hz => by
    have hv := HV3.out
    rw [HU.out] at hv
    refine move_any HL.out HP.out (by rw [← HU.out]; exact hus) z hz wx (hv.keep (fun k hk => hb.block k ?_))
    have h1 := (Array.getElem?_eq_some_iff.1 hv.bb).1
    have h2 := (Array.getElem?_eq_some_iff.1 hv.bp).1
    have h3 := (Array.getElem?_eq_some_iff.1 hv.bq).1
    have h4 := (Array.getElem?_eq_some_iff.1 hv.lg).1
    omega
  have HSW := hid HMW.out.size
  have HB2S := hid HB2.out.size
  clear hp3 hf3 hm3 HPP HV HV3 HB2 HB1 HRW HL HP HG HM3
  have HST : Hid (∃ lo, lo.length = nr ∧ (∀ i, i < 0 → lo.getD i 0 = movedM os (lvL os rs) (rs.getD i 0)) ∧ (W3.alloc (.cells (madeCells #[.int .u64 0] nr) 32)).heap[W3.heap.size]? = some (.cells (uz lo).toArray 32 (0, 0)) ∧ Below W3.heap.size W3 (W3.alloc (.cells (madeCells #[.int .u64 0] nr) 32))) := ⟨_, List.length_replicate, fun i hi => by omega, uz_made, Ba _ _⟩
  go_loopw [24] (fun i wr => ∃ q : Nat, q ≤ nr ∧ i = .int .i64 q ∧ Hid (∃ lo, lo.length = nr ∧ (∀ i, i < q → lo.getD i 0 = movedM os (lvL os rs) (rs.getD i 0)) ∧ wr.heap[W3.heap.size]? = some (.cells (uz lo).toArray 32 (0, 0)) ∧ Below W3.heap.size W3 wr)) (fun i _ => nr - (intOf i).toNat)
  case atStart => exact ⟨0, Nat.zero_le _, rfl, HST.out⟩
  case round =>
    clear HST
    obtain ⟨q, hq, rfl, hI⟩ := hrel
    obtain ⟨lo, hll, hlo, hrow, hbw⟩ := hI.out
    clear hI
    by_cases hlt : q < nr
    · obtain ⟨bb, oo, rfl, hlb, hcc⟩ := (HRR.out wr hbw).some (by omega)
      have c1 := hcc q hlt
      have hzu := HR.out.bd _ (getD_in_f (l := rs) (i := q) (by have := HRL.out; omega))
      have C1 := hid (CMV.out wr hbw _ hzu)
      have c2 := uz_cell hrow (i := q) (by omega)
      have f2 := blk_free hrow q
      have HN : Hid (∃ lo', lo'.length = nr ∧ (∀ i, i < q + 1 → lo'.getD i 0 = movedM os (lvL os rs) (rs.getD i 0)) ∧ (wr.setCell ⟨W3.heap.size, q, none⟩ (.int .u64 (movedM os (lvL os rs) (rs.getD q 0)))).heap[W3.heap.size]? = some (.cells (uz lo').toArray 32 (0, 0)) ∧ Below W3.heap.size W3 (wr.setCell ⟨W3.heap.size, q, none⟩ (.int .u64 (movedM os (lvL os rs) (rs.getD q 0))))) := by
        refine ⟨lo.set q (movedM os (lvL os rs) (rs.getD q 0)), by rw [List.length_set]; exact hll, fun i hi => ?_, uz_set hrow, hbw.setCell (p := ⟨W3.heap.size, q, none⟩) (Nat.le_refl _) _⟩
        rw [getD_set_i (by omega)]
        by_cases e : q = i
        · rw [if_pos e, e]
        · rw [if_neg e]; exact hlo i (by omega)
      obtain ⟨z, hz⟩ : ∃ z, z = rs.getD q 0 := ⟨_, rfl⟩
      rw [← hz] at c1 C1 HN
      obtain ⟨y, hy⟩ : ∃ z, z = lo.getD q 0 := ⟨_, rfl⟩
      rw [← hy] at c2
      obtain ⟨x, hx⟩ : ∃ y, y = movedM os (lvL os rs) z := ⟨_, rfl⟩
      rw [← hx] at C1 HN
      clear hcc hzu hll hlo hrow hbw hz hy hx
      go_wp2_with (go_at_call 21; (with_reducible refine C1.out.mono ?_); rintro e W4 ⟨rfl, hw1⟩; rw [hw1]; clear hw1)
      exact ⟨⟨q + 1, by omega, by go_num, HN⟩, by simp [intOf] <;> omega⟩
    · obtain rfl : q = nr := by omega
      have hfin : lo = collR os (lvL os rs) rs := by
        unfold collR
        refine list_eq (by rw [List.length_map, HRL.out]; exact hll) (fun i hi => ?_)
        rw [hlo i (by omega), List.getD_eq_getElem?_getD (l := rs.map _), List.getElem?_map, List.getD_eq_getElem?_getD, List.getElem?_eq_getElem (by have := HRL.out; omega)]
        rfl
      have HUR : Hid (URow wr (some ⟨W3.heap.size, 0, none⟩) q q (collR os (lvL os rs) rs)) := by
        rw [hfin] at hrow hll
        refine urow_blk hrow hll hsm (fun z hz => ?_)
        unfold collR at hz
        obtain ⟨z', hz', rfl⟩ := List.mem_map.1 hz
        exact moved_u64 (HR.out.bd z' hz')
      have HBW := hid hbw
      clear hll hlo hrow hbw hfin
      go_wp2_with fail
      go_ret
      refine ⟨_, _, rfl, HUR.out, fun a ha => by cases ha; exact HSW.out, F', HP3.out.keep (fun b hb => HBW.out.block b (HP3.out.ge b hb).2), fun b hb => (HF3.out b hb).imp id (fun h => Nat.le_trans HB2S.out h), fun a ha hf => ?_, HMW.out.trans (Mod.of_below F HBW.out) (fun _ _ h => h)⟩
      cases ha
      have := (HP3.out.ge _ hf).2
      exact absurd this (Nat.lt_irrefl _)
end
end Go.Proofs.Ythgkonjglappjab
