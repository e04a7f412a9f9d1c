/-
  Walks: stray, with what it tells; GcKeeps.
-/
import Derived.Test.YthgkonjglappjaaU21
import Derived.Test.YthgkonjglappjaaU17
set_option linter.unusedVariables false
set_option linter.unusedSimpArgs false
set_option maxRecDepth 100000
namespace Go.Proofs.Ythgkonjglappjaa
open Go.RowKit

/-- A field says no place of its own. -/
def okF (n : Nat) (f : Fd) : Prop := isR 2 f.w = false ∨ (f.is = true ∧ 0 < n)
set_option maxHeartbeats 8000000 in
theorem stray_tells (ao : Option Addr) (n cap : Nat) (xs : List Oj) (fo : Option Addr) (m fcap : Nat) (fs : List Fd) (w : World) (R : ORow w ao n cap xs) (Q : FRow w fo m fcap fs) (hfew : fewG xs fs = true) :
    Calls Try.prog 19 #[.slice ao n cap, .slice fo m fcap] w fun e w' => ∃ b, e = .returned (.bool b) ∧ (b = false → ∀ f ∈ fs ++ xs.flatMap (·.l), okF xs.length f) ∧ Below w.heap.size w w' := by
  have HR := hid R
  have HQ := hid Q
  have hf := R.fits
  have hm := R.most
  have hf2 := Q.fits
  have hm2 := Q.most
  unfold maxLen at hm hm2
  obtain ⟨hf60, hr60, hf30⟩ := few_parts_g hfew
  have HF30 := hid hf30
  obtain rfl := R.len
  obtain rfl := Q.len
  clear R Q hfew hf30
  have HSE : Hid ((w.alloc (.cells #[] 64)).ownsRow w.heap.size 64 3 (.slice (some ⟨w.heap.size, 0, none⟩) 0 0) 0 (fz [])) := ⟨rfl, .inr ⟨w.heap.size, 0, #[], rfl, Nat.le_refl _, blk_new _ _ _, Nat.le_refl _, by unfold maxLen; omega, rfl, rfl⟩⟩
  have HUE := hid (HQ.out.on (Ba w (.cells #[] 64)))
  have HZ1 : Hid (w.heap.size ≤ (w.alloc (.cells #[] 64)).heap.size) := (Ba w _).size
  go_enter Try.func19, Try.ntmps19
  go_wp2_with (at_builtin; refine appF rfl _ _ 23 rfl w.heap.size 64 Try.underlying23 info_field _ 0 [] rfl HSE.out fo fs.length fcap fs rfl HUE.out (by omega) HZ1.out ?_; intro v2 W2 ho2 hg2; rw [Nat.zero_add, List.nil_append] at ho2; have HO2 := hid ho2; have HB2 : Hid (Below w.heap.size w W2) := (Ba w (.cells #[] 64)).grown hg2 HZ1.out (fun k hk => (HSE.out.lt k hk).1); clear ho2 hg2)
  go_loopw [5, 6] (fun va vi wr => ∃ q : Nat, q ≤ xs.length ∧ vi = .int .i64 q ∧ Hid (∃ L : List Fd, wr.ownsRow w.heap.size 64 3 va L.length (fz L) ∧ (∀ f ∈ L, FOk f) ∧ L.length ≤ 60 + 30 * q ∧ Below w.heap.size w wr ∧ L = fs ++ (xs.take q).flatMap (·.l))) (fun _ vi _ => xs.length - (intOf vi).toNat)
  case atStart => exact ⟨0, Nat.zero_le _, rfl, fs, HO2.out, HQ.out.ok, by omega, HB2.out, by simp⟩
  case round =>
    obtain ⟨q, hq, rfl, hI⟩ := hrel
    obtain ⟨L, hL1, hL2, hL3, hL4, hL5⟩ := hI.out
    have HL5 := hid hL5
    clear hL5
    have HL1 := hid hL1
    have HL2 := hid hL2
    have HL4 := hid hL4
    clear hI hL2 hL4
    obtain ⟨aA, cA, rfl, hFR⟩ := frow_own hL1 HL2.out
    have HFR := hid hFR
    have hfa := hFR.fits
    have hfm := hFR.most
    unfold maxLen at hfm
    clear hL1 hFR
    by_cases hlt : q < xs.length
    · obtain ⟨b, o, rfl, hlb, hcc⟩ := (HR.out.on HL4.out).some (by omega)
      obtain ⟨d0, fa, fn, fcc, d1, hF⟩ := hcc q hlt
      have hx30 := HF30.out _ (getD_in_oj hlt)
      have hfl := hF.len
      have HFF := hid hF
      have HFK := hid hF.ok
      obtain ⟨xl, hxl⟩ : ∃ l, l = (xs.getD q default).l := ⟨_, rfl⟩
      have HXL := hid hxl
      rw [← hxl] at HFF HFK hfl hx30
      clear hcc d0 hF hxl
      obtain ⟨nL, hnL⟩ : ∃ x, x = L.length := ⟨_, rfl⟩
      rw [← hnL] at HL1 hL3 hfa ⊢
      have HNL := hid hnL
      clear hnL
      go_wp2_with (at_builtin; refine appF rfl _ _ 23 rfl w.heap.size 64 Try.underlying23 info_field _ nL L rfl HL1.out fa fn fcc xl rfl HFF.out (by omega) HL4.out.size ?_; intro v6 w6 ho hg)
      have HE6 : Hid (Below w.heap.size w w6) := HL4.out.grown hg HL4.out.size (fun k hk => (HL1.out.lt k hk).1)
      have HO6 : Hid (w6.ownsRow w.heap.size 64 3 v6 (L ++ xl).length (fz (L ++ xl))) := by
        unfold Hid; rw [List.length_append, ← HNL.out, hfl]; exact ho
      have HLN : Hid (L ++ xl = fs ++ (xs.take (q + 1)).flatMap (·.l)) := by
        unfold Hid
        rw [HL5.out, HXL.out, List.take_succ_eq_append_getElem hlt, List.flatMap_append, List.append_assoc, List.getD_eq_getElem?_getD, List.getElem?_eq_getElem hlt]
        simp
      refine ⟨⟨q + 1, by omega, by go_num, L ++ xl, HO6.out, fun f hf => ?_, ?_, HE6.out, HLN.out⟩, by simp [intOf] <;> omega⟩
      · rcases List.mem_append.1 hf with h | h
        · exact HL2.out f h
        · exact HFK.out f h
      · rw [List.length_append, ← HNL.out]; omega
    · obtain rfl : q = xs.length := by omega
      obtain ⟨WQ, rfl⟩ : ∃ x, x = wr := ⟨_, rfl⟩
      obtain ⟨nL, hnL⟩ : ∃ x, x = L.length := ⟨_, rfl⟩
      rw [← hnL] at HFR hL3 hfa ⊢
      have HNL := hid hnL
      clear HL1 hnL
      go_wp2_with fail
      go_loopw [7] (fun vi wr => ∃ k : Nat, k ≤ nL ∧ vi = .int .i64 k ∧ Hid (Below WQ.heap.size WQ wr) ∧ Hid (∀ j, j < k → okF xs.length (L.getD j default))) (fun vi _ => nL - (intOf vi).toNat)
      case atStart => exact ⟨0, Nat.zero_le _, rfl, Below.refl _ _, fun j hj => by omega⟩
      case round =>
        obtain ⟨k, hk, rfl, hb, hK⟩ := hrel
        by_cases hlk : k < nL
        · obtain ⟨bb, o, rfl, hlb, hcc⟩ := (HFR.out.on hb.out).some (by omega)
          obtain ⟨c0, c1, c2⟩ := hcc k hlk
          have hfok := HL2.out _ (getD_in_fd (l := L) (i := k) (by have := HNL.out; omega))
          obtain ⟨f, hff⟩ : ∃ f, f = L.getD k default := ⟨_, rfl⟩
          rw [← hff] at c0 c1 c2 hfok
          have HFF := hid hff
          have hfw := hfok.w
          clear hcc hff c1 hfok
          obtain ⟨fis, fto, ffw⟩ := f
          simp only at c0 c2 hfw
          have CAt := hid (at_any ffw hfw)
          obtain ⟨hv, hhv⟩ : ∃ x, x = hasR 2 ffw := ⟨_, rfl⟩
          obtain ⟨bv, hbv⟩ : ∃ x, x = isR 2 ffw := ⟨_, rfl⟩
          rw [← hhv, ← hbv] at CAt
          have HBV := hid hbv
          clear hhv hbv hfw
          have hnext : Hid (okF xs.length ⟨fis, fto, ffw⟩ → ∀ j, j < k + 1 → okF xs.length (L.getD j default)) := fun h j hj => by
            by_cases e : j = k
            · subst e; rw [← HFF.out]; exact h
            · exact hK.out j (by omega)
          cases bv
          · have HNK := hid (hnext.out (.inl HBV.out.symm))
            go_wp2_with (go_at_call 43; (with_reducible refine (CAt.out _).mono ?_); rintro e w9 ⟨rfl, hw9⟩; rw [hw9]; clear hw9)
            exact ⟨⟨k + 1, by omega, by go_num, hb, HNK.out⟩, by simp [intOf] <;> omega⟩
          · cases fis
            · go_wp2_with (go_at_call 43; (with_reducible refine (CAt.out _).mono ?_); rintro e w9 ⟨rfl, hw9⟩; rw [hw9]; clear hw9)
              go_ret
              exact ⟨_, rfl, fun e => (by cases e), HL4.out.trans (hb.out.mono HL4.out.size)⟩
            · by_cases hn0 : xs.length = 0
              · have en : ((xs.length : Int) == 0) = true := by simp [hn0]
                clear hn0
                go_wp2_with (go_at_call 43; (with_reducible refine (CAt.out _).mono ?_); rintro e w9 ⟨rfl, hw9⟩; rw [hw9]; clear hw9)
                go_ret
                exact ⟨_, rfl, fun e => (by cases e), HL4.out.trans (hb.out.mono HL4.out.size)⟩
              · have en : ((xs.length : Int) == 0) = false := by simp; intro e; rw [e] at hn0; simp at hn0
                have HNK := hid (hnext.out (.inr ⟨rfl, by omega⟩))
                clear hn0
                go_wp2_with (go_at_call 43; (with_reducible refine (CAt.out _).mono ?_); rintro e w9 ⟨rfl, hw9⟩; rw [hw9]; clear hw9)
                exact ⟨⟨k + 1, by omega, by go_num, hb, HNK.out⟩, by simp [intOf] <;> omega⟩
        · obtain rfl : k = nL := by omega
          go_wp2_with fail
          go_ret
          refine ⟨_, rfl, fun _ f hf => ?_, HL4.out.trans (hb.out.mono HL4.out.size)⟩
          have hLL := HL5.out
          rw [List.take_length] at hLL
          rw [← hLL] at hf
          obtain ⟨j, hj, rfl⟩ := List.mem_iff_getElem.1 hf
          have := hK.out j (by rw [HNL.out]; exact hj)
          rw [List.getD_eq_getElem?_getD, List.getElem?_eq_getElem hj] at this
          exact this
end Go.Proofs.Ythgkonjglappjaa
