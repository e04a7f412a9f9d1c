/-
  Walk: HeapRows.
-/
import Derived.Test.YthiniidgklilnaaV12
import Derived.Test.YthiniidgklilnaaX3
set_option linter.unusedVariables false
set_option linter.unusedSimpArgs false
set_option maxRecDepth 100000
namespace Go.Proofs.Ythiniidgklilnaa
open Go.RowKit

/-- A call that only reads, in whatever world behind one. -/
abbrev CB (Wo : World) (f : FuncId) (args : Array Value) (v : Value) : Prop := ∀ W, Hid (Below Wo.heap.size Wo W) → Calls Try.prog f args W fun e w' => e = .returned v ∧ Hid (Below Wo.heap.size Wo w')
theorem CB.of {Wo : World} {f : FuncId} {args : Array Value} {v : Value} (h : ∀ W, Below Wo.heap.size Wo W → Calls Try.prog f args W fun e w' => e = .returned v ∧ Below W.heap.size W w') : CB Wo f args v :=
  fun W hb => (h W hb.out).mono (fun e w' ⟨e1, b⟩ => ⟨e1, Bt hb.out b⟩)
theorem CB.same {Wo : World} {f : FuncId} {args : Array Value} {v : Value} (h : ∀ W, Calls Try.prog f args W fun e w' => e = .returned v ∧ w' = W) : CB Wo f args v :=
  fun W hb => (h W).mono (fun e w' ⟨e1, b⟩ => ⟨e1, by rw [b]; exact hb⟩)
section
variable {B g : Nat} {v : Value} {N : Int} {os : List Ob} {F : Nat → Prop} {Wo : World}
theorem row_at {k : Nat} (h : k < os.length) (hu : usedL os ≤ 4194304) : CB Wo 10 #[.int .u64 (wordR 2 (atO os k : Nat) 0)] (.tuple #[.int .i64 (atO os k : Nat), .bool true]) :=
  CB.same (fun W => by
    have hl := at_lt h
    have e := ptr_of (n := atO os k) (by omega)
    have := at_any (wordR 2 (atO os k : Nat) 0) (wordR_rng _ _ _) W
    unfold hasR isR at this
    rw [e] at this
    simpa using this)
theorem row_word {k : Nat} (h : k < os.length) (hp : PH B v N (wordsL os) F Wo) : CB Wo 12 #[v, .int .i64 (atO os k : Nat)] (.int .u64 (wordR 8 ((os.getD k default).f.length : Nat) (os.getD k default).kind)) :=
  CB.of (fun W hb => by
    have hl := at_lt h
    have hbd := hp.bd
    rw [wordsL_length] at hbd
    have := pword_any (atO os k : Nat) (by unfold Z64; omega) W (hp.keep (fun b hf => hb.block b (hp.ge b hf).2))
    rw [if_pos (by rw [wordsL_length]; omega), Int.toNat_natCast, word_head h] at this
    exact this)
theorem row_head {k : Nat} (h : k < os.length) (ho : OsOk os) (hu : usedL os ≤ 4194304) : CB Wo 11 #[.int .u64 (wordR 8 ((os.getD k default).f.length : Nat) (os.getD k default).kind)] (.tuple #[.int .i64 (os.getD k default).kind, .int .i64 ((os.getD k default).f.length : Nat), .bool true]) :=
  CB.same (fun W => by
    have hl := at_lt h
    have e := head_of (ho.kd _ (getD_in_os h)) (by omega)
    have := headof_any (wordR 8 ((os.getD k default).f.length : Nat) (os.getD k default).kind) (wordR_rng _ _ _) W
    unfold hasR isR typR at this
    rw [e] at this
    simpa using this)
theorem row_kind {k : Nat} (h : k < os.length) (ho : OsOk os) (hp : PH B v N (wordsL os) F Wo) : CB Wo 13 #[v, .int .u64 (wordR 2 (atO os k : Nat) 0)] (.tuple #[.int .i64 (os.getD k default).kind, .int .i64 0]) :=
  CB.of (fun W hb => by
    have hbd := hp.bd
    rw [wordsL_length] at hbd
    have := pkind_any ho (wordR 2 (atO os k : Nat) 0) (wordR_rng _ _ _) W (hp.keep (fun b hf => hb.block b (hp.ge b hf).2))
    unfold kindM at this
    rw [find_ptr h (by omega)] at this
    exact this)
theorem row_size {k : Nat} (h : k < os.length) (ho : OsOk os) (hp : PH B v N (wordsL os) F Wo) : CB Wo 14 #[v, .int .u64 (wordR 2 (atO os k : Nat) 0)] (.tuple #[.int .i64 ((os.getD k default).f.length : Nat), .int .i64 0]) :=
  CB.of (fun W hb => by
    have hbd := hp.bd
    rw [wordsL_length] at hbd
    have := psize_any ho (wordR 2 (atO os k : Nat) 0) (wordR_rng _ _ _) W (hp.keep (fun b hf => hb.block b (hp.ge b hf).2))
    unfold sizeM at this
    rw [find_ptr h (by omega)] at this
    exact this)
theorem row_get {k j : Nat} (h : k < os.length) (hj : j < (os.getD k default).f.length) (ho : OsOk os) (hp : PH B v N (wordsL os) F Wo) : CB Wo 15 #[v, .int .u64 (wordR 2 (atO os k : Nat) 0), .int .i64 (os.getD k default).kind, .int .i64 j] (.tuple #[.int .u64 ((os.getD k default).f.getD j 0), .int .i64 0]) :=
  CB.of (fun W hb => by
    have hbd := hp.bd
    have hl := at_lt h
    rw [wordsL_length] at hbd
    have hk := ho.kd _ (getD_in_os h)
    have := pget_any ho (wordR 2 (atO os k : Nat) 0) (os.getD k default).kind j (wordR_rng _ _ _) (by unfold Z64; omega) (by unfold Z64; omega) W (hp.keep (fun b hf => hb.block b (hp.ge b hf).2))
    have e : fieldM os (wordR 2 (atO os k : Nat) 0) (os.getD k default).kind j = ((k : Int), 0) := by
      unfold fieldM; rw [find_ptr h (by omega)]
      simp only
      rw [if_neg (fun e => e.2 rfl), if_neg (by omega)]
    unfold getM at this
    rw [e] at this
    simpa using this)
theorem row_none {k j : Nat} (h : k < os.length) (hj : j < (os.getD k default).f.length) (ho : OsOk os) : CB Wo 11 #[.int .u64 ((os.getD k default).f.getD j 0)] (.tuple #[.int .i64 0, .int .i64 0, .bool false]) :=
  CB.same (fun W => by
    have hn := ho.nh _ (getD_in_os h) _ (getD_in_f hj)
    unfold isHd at hn
    simp only [decide_eq_false_iff_not] at hn
    have := headof_any ((os.getD k default).f.getD j 0) (ho.uf _ (getD_in_os h) _ (getD_in_f hj)) W
    unfold hasR isR typR at this
    rw [if_neg hn, if_neg hn, decide_eq_false hn] at this
    exact this)
theorem row_fword {k j : Nat} (h : k < os.length) (hj : j < (os.getD k default).f.length) (hp : PH B v N (wordsL os) F Wo) : CB Wo 12 #[v, .int .i64 ((atO os k : Nat) + 1 + j)] (.int .u64 ((os.getD k default).f.getD j 0)) :=
  CB.of (fun W hb => by
    have hbd := hp.bd
    have hl := at_lt h
    rw [wordsL_length] at hbd
    have := pword_any ((atO os k : Nat) + 1 + j) (by unfold Z64; omega) W (hp.keep (fun b hf => hb.block b (hp.ge b hf).2))
    rw [if_pos (by rw [wordsL_length]; omega), show (((atO os k : Nat) : Int) + 1 + j).toNat = atO os k + 1 + j by omega, word_field h hj] at this
    exact this)
end
set_option maxHeartbeats 16000000 in
theorem heapRows_walk (n : Int) (ao : Option Addr) (m cap : Nat) (ds : List Dd) (w : World) (hn : Z64 n) (R : DRow w ao m cap ds) :
    Calls Try.prog 3 #[.int .i64 n, .slice ao m cap] w fun e w' => e = .returned (.bool true) ∧ Below w.heap.size w w' := by
  have HR := hid R
  have hlen := R.len
  have hf := R.fits
  have hm := R.most
  unfold maxLen at hm
  have C0 := hid (fewd_any ao m cap ds w R)
  have C1 := hid (pnew_any n hn w)
  have C2 := hid (rnew_any n hn)
  have CA := hid hawake_any
  unfold Z64 at hn
  clear R
  obtain ⟨fb, hfb⟩ : ∃ b, b = fewD ds := ⟨_, rfl⟩
  rw [← hfb] at C0
  have HFB := hid hfb
  clear hfb
  cases fb
  · go_enter Try.func3, Try.ntmps3
    go_wp2_with (go_at_call 4; (refine C0.out.mono ?_); rintro e w9 ⟨rfl, hw9⟩; rw [hw9]; clear hw9)
    go_ret
    exact ⟨rfl, Below.refl _ _⟩
  by_cases hbig : 2000 < n
  · go_enter Try.func3, Try.ntmps3
    go_wp2_with (go_at_call 4; (refine C0.out.mono ?_); rintro e w9 ⟨rfl, hw9⟩; rw [hw9]; clear hw9)
    go_ret
    exact ⟨rfl, Below.refl _ _⟩
  have hsm : Hid (∀ d ∈ ds, d.l.length ≤ 100) := fun d hd => by
    have h1 := HFB.out.symm
    unfold fewD at h1
    rw [Bool.and_eq_true] at h1
    have h2 := List.all_eq_true.1 h1.2 d hd
    unfold smallD at h2
    rw [Bool.and_eq_true] at h2
    exact of_decide_eq_true h2.1
  by_cases hbad : n < 1 ∨ 4194304 < n
  · simp only [if_pos hbad] at C1 C2
    have hb1 : n < 1 := by omega
    clear hbad
    go_enter Try.func3, Try.ntmps3
    go_wp2_with (first
      | (go_at_call 4; (refine C0.out.mono ?_); rintro e w9 ⟨rfl, hw9⟩; rw [hw9]; clear hw9)
      | (go_at_call 5; (refine C1.out.mono ?_); rintro e w9 ⟨rfl, hw9⟩; rw [hw9]; clear hw9)
      | (go_at_call 6; (refine (C2.out _).mono ?_); rintro e w9 ⟨rfl, hw9⟩; rw [hw9]; clear hw9))
    go_loopw [9] (fun i wr => i = .int .i64 0 ∧ Hid (Below w.heap.size w wr)) (fun _ _ => 0)
    case atStart => exact ⟨rfl, Below.refl _ _⟩
    case round =>
      obtain ⟨rfl, hI⟩ := hrel
      go_wp2_with (go_at_call 8; (refine (CA.out _).mono ?_); rintro e w9 ⟨rfl, b9⟩)
      go_ret
      exact ⟨rfl, Bt hI.out b9⟩
  · simp only [if_neg hbad] at C1 C2
    have hn1 : 1 ≤ n ∧ n ≤ 2000 := by omega
    go_enter Try.func3, Try.ntmps3
    go_wp2_with (first
      | (go_at_call 4; (refine C0.out.mono ?_); rintro e w9 ⟨rfl, hw9⟩; rw [hw9]; clear hw9)
      | (go_at_call 5; (refine C1.out.mono ?_); rintro e W1 ⟨v, F, rfl, hp1, b1⟩; obtain ⟨gh, rfl⟩ := hp1.ptr; have HP1 := hid hp1; have HB1 := hid b1; clear hp1 b1)
      | (go_at_call 6; (refine (C2.out _).mono ?_); rintro e W2 ⟨g, rfl, hg, hr2, b2⟩; have HR2 := hid hr2; have HB2 := hid b2; have HG := hid hg; clear hr2 b2 hg))
    have HM0 : Hid (Mix w.heap.size (.pointer (some ⟨gh, 0, none⟩)) g n [] [] W2) := by
      refine ⟨⟨F, _, [], HP1.out.keep (fun b hb => HB2.out.block b (HP1.out.ge b hb).2), HR2.out.weak HB1.out.size, rfl, fun b hb hr => ?_⟩, os_nil, os_nil, Nat.le_trans HB1.out.size HB2.out.size⟩
      have h1 := (HP1.out.ge b hb).2
      have h2 := (HR2.out.foot_ge b hr).1
      omega
    have HB12 := hid (Bt HB1.out HB2.out)
    clear HP1 HR2 HB1 HB2 HG
    go_loopw [9] (fun i wr => ∃ q : Nat, q ≤ m ∧ i = .int .i64 q ∧ Hid (∃ osP os, Mix w.heap.size (.pointer (some ⟨gh, 0, none⟩)) g n osP os wr ∧ Below w.heap.size w wr)) (fun i _ => m - (intOf i).toNat)
    case atStart => exact ⟨0, Nat.zero_le _, rfl, [], [], HM0.out, HB12.out⟩
    case round =>
      obtain ⟨q, hq, rfl, hI⟩ := hrel
      obtain ⟨os, osR, hM, hb⟩ := hI.out
      have HM := hid hM
      have HB := hid hb
      clear hI hM hb
      by_cases hlt : q < m
      · obtain ⟨b, o, rfl, hlb, hcc⟩ := HR.out.some (by omega)
        obtain ⟨d, hd⟩ : ∃ d, d = ds.getD q default := ⟨_, rfl⟩
        have hmem : d ∈ ds := by rw [hd]; exact getD_in_dd (by omega)
        have hok := HR.out.ok d hmem
        have hs1 := hsm.out d hmem
        have hdi := hcc q hlt
        rw [← hd] at hdi
        obtain ⟨_, _, _, _, ⟨la, ln, lc, j4w, hUw⟩, _⟩ := hdi
        have hdi2 := (hcc q hlt).on hlb HB.out
        rw [← hd] at hdi2
        obtain ⟨j0, j1, j2, j3, ⟨la', ln', lc', j4, hU⟩, j5, j6, j7⟩ := hdi2
        have e4 : some (Value.slice la' ln' lc') = some (.slice la ln lc) := j4.symm.trans ((HB.out.cell (p := ⟨b, o + q * 8 + 4, none⟩) hlb).trans j4w)
        injection e4 with e4
        injection e4 with e41 e42 e43
        subst e41 e42 e43
        obtain ⟨FM, vLM, lsM, x1, x2, x3, x4⟩ := HM.out.ex
        have CS := hid (step_two d (la', ln', lc') hok hs1 wr ⟨x1, x2, x3, x4, HM.out.okP, HM.out.okR, HM.out.bw⟩ hU (fun hne a ha => by
          rcases hUw.rd with e | ⟨b', o', e, h1, _⟩
          · exact absurd e hne
          · simp only at ha
            rw [e] at ha; cases ha; exact h1))
        obtain ⟨dk, dt, dn, da, dl, dw, dw2, dr⟩ := d
        unfold DCells at CS
        simp only at CS j0 j1 j2 j3 j5 j6 j7
        clear hcc hd hmem hok hU hUw j4w x1 x2 x3 x4
        go_wp2_with (go_at_call 7; (refine CS.out.mono ?_); rintro e W3 ⟨⟨bz, rfl⟩, ⟨osP', os', F', vL', ls', hm3⟩, b3⟩; have HM3 := hid hm3.mix; have HB3 := hid (HB.out.trans b3); clear hm3 b3)
        exact ⟨⟨q + 1, by omega, by go_num, osP', os', HM3.out, HB3.out⟩, by simp [intOf] <;> omega⟩
      · obtain rfl : q = m := by omega
        obtain ⟨F, vL, ls, h1, h2, h3, h4⟩ := HM.out.ex
        have hbd := h1.bd
        rw [wordsL_length] at hbd
        have HO := hid HM.out.okP
        have HP := hid h1
        have CO := hid (pobjects_any HM.out.okP wr h1)
        clear h1 h2 h3 h4 HM
        go_wp2_with (go_at_call 9; (with_reducible refine CO.out.mono ?_); rintro e Wo ⟨oo, co, rfl, hU, ha, bo⟩; have HUR := hid hU; have HBo := hid (Bt HB.out bo); have HPo := hid (HP.out.keep (fun b hf => bo.block b (HP.out.ge b hf).2)); have hco := hU.fits; have hco2 := hU.most; clear hU ha bo CO HP)
        unfold maxLen at hco2
        have hol := len_le_used os
        have HBD := hid hbd
        go_loopw [10, 72] (fun va vi W => ∃ k : Nat, k ≤ os.length ∧ va = .int .i64 (atO os k : Nat) ∧ vi = .int .i64 k ∧ Hid (Below Wo.heap.size Wo W)) (fun _ vi _ => os.length - (intOf vi).toNat)
        case atStart => exact ⟨0, Nat.zero_le _, rfl, rfl, Below.refl _ _⟩
        case round =>
          obtain ⟨k, hk, rfl, rfl, hbW⟩ := hrel
          by_cases hlt : k < os.length
          · obtain ⟨b, o, rfl, hlb, hcc⟩ := HUR.out.some (by omega)
            have hck := (hbW.out.cell (p := ⟨b, o + k, none⟩) hlb).trans (hcc k (by omega))
            rw [ptrs_get hlt] at hck
            have hal := at_lt hlt
            have D1 := hid (row_at (Wo := Wo) hlt (by omega))
            have D2 := hid (row_word hlt HPo.out)
            have D3 := hid (row_head (Wo := Wo) hlt HO.out (by omega))
            have D4 := hid (row_kind hlt HO.out HPo.out)
            have D5 := hid (row_size hlt HO.out HPo.out)
            have D6 : Hid (∀ j, j < (os.getD k default).f.length → _) := fun j hj => row_get hlt hj HO.out HPo.out
            have D7 : Hid (∀ j, j < (os.getD k default).f.length → _) := fun j hj => row_none (Wo := Wo) hlt hj HO.out
            have D8 : Hid (∀ j, j < (os.getD k default).f.length → _) := fun j hj => row_fword hlt hj HPo.out
            have hasc := at_succ hlt
            have HK := hid (HO.out.kd _ (getD_in_os hlt))
            obtain ⟨pk, hpk⟩ : ∃ x, x = wordR 2 (atO os k : Nat) 0 := ⟨_, rfl⟩
            obtain ⟨hw, hhw⟩ : ∃ x, x = wordR 8 ((os.getD k default).f.length : Nat) (os.getD k default).kind := ⟨_, rfl⟩
            rw [← hpk] at D1 D4 D5 D6 hck
            rw [← hhw] at D2 D3
            clear hpk hhw hcc
            obtain ⟨a, ha⟩ : ∃ x, x = atO os k := ⟨_, rfl⟩
            rw [← ha] at D1 D2 D8 hal hasc ⊢
            clear ha
            obtain ⟨x, hx⟩ : ∃ x, x = os.getD k default := ⟨_, rfl⟩
            rw [← hx] at D3 D4 D5 D6 D7 D8 hal hasc HK
            clear hx
            obtain ⟨xk, xf⟩ := x
            simp only at D3 D4 D5 D6 D7 D8 hal hasc HK
            have hk1 := HK.out
            obtain ⟨fl, hfl⟩ : ∃ x, x = xf.length := ⟨_, rfl⟩
            rw [← hfl] at D3 D5 D6 D7 D8 hal hasc
            clear hfl
            go_wp2_with (first
              | (go_at_call 10; with_reducible refine (D1.out _ (by assumption)).mono ?_; rintro e Wx ⟨rfl, hbx⟩)
              | (go_at_call 12; with_reducible refine (D2.out _ (by assumption)).mono ?_; rintro e Wx ⟨rfl, hbx⟩)
              | (go_at_call 11; with_reducible refine (D3.out _ (by assumption)).mono ?_; rintro e Wx ⟨rfl, hbx⟩)
              | (go_at_call 13; with_reducible refine (D4.out _ (by assumption)).mono ?_; rintro e Wx ⟨rfl, hbx⟩)
              | (go_at_call 14; with_reducible refine (D5.out _ (by assumption)).mono ?_; rintro e Wx ⟨rfl, hbx⟩))
            go_loopw [22] (fun vj W => ∃ j : Nat, j ≤ fl ∧ vj = .int .i64 j ∧ Hid (Below Wo.heap.size Wo W)) (fun vj _ => fl - (intOf vj).toNat)
            case atStart => exact ⟨0, Nat.zero_le _, rfl, by assumption⟩
            case round =>
              obtain ⟨j, hj, rfl, hbJ⟩ := hrel
              by_cases hlt2 : j < fl
              · have E6 := hid (D6.out j hlt2)
                have E7 := hid (D7.out j hlt2)
                have E8 := hid (D8.out j hlt2)
                obtain ⟨fj, hfj⟩ : ∃ x, x = xf.getD j 0 := ⟨_, rfl⟩
                rw [← hfj] at E6 E7 E8
                clear hfj
                clear D1 D2 D3 D4 D5 D6 D7 D8 hck
                go_wp2_with (first
                  | (go_at_call 15; with_reducible refine (E6.out _ (by assumption)).mono ?_; rintro e Wx ⟨rfl, hbx⟩)
                  | (go_at_call 11; with_reducible refine (E7.out _ (by assumption)).mono ?_; rintro e Wx ⟨rfl, hbx⟩)
                  | (go_at_call 12; with_reducible refine (E8.out _ (by assumption)).mono ?_; rintro e Wx ⟨rfl, hbx⟩))
                all_goals first
                | exact ⟨⟨j + 1, by omega, by go_num, by assumption⟩, by simp [intOf] <;> omega⟩
                | (exfalso; omega)
              · obtain rfl : j = fl := by omega
                clear D1 D2 D3 D4 D5 D6 D7 D8 hck
                go_wp2_with fail
                exact ⟨⟨k + 1, by omega, by rw [hasc]; go_num, by go_num, hbJ⟩, by simp [intOf] <;> omega⟩
          · obtain rfl : k = os.length := by omega
            rw [at_all]
            have C5 : Hid (CB Wo 16 #[.pointer (some ⟨gh, 0, none⟩)] (.int .i64 (usedL os : Nat))) := CB.of (fun W hb => by
              have := pused_any W (HPo.out.keep (fun b hf => hb.block b (HPo.out.ge b hf).2))
              rw [wordsL_length] at this; exact this)
            have C6 : Hid (CB Wo 17 #[.pointer (some ⟨gh, 0, none⟩)] (.int .i64 (n - (usedL os : Nat)))) := CB.of (fun W hb => by
              have := proom_any W (HPo.out.keep (fun b hf => hb.block b (HPo.out.ge b hf).2))
              rw [wordsL_length] at this; exact this)
            have C7 : Hid (CB Wo 8 #[] (.bool true)) := CB.of (fun W _ => CA.out W)
            go_wp2_with (first
              | (go_at_call 16; with_reducible refine (C5.out _ (by assumption)).mono ?_; rintro e Wx ⟨rfl, hbx⟩)
              | (go_at_call 17; with_reducible refine (C6.out _ (by assumption)).mono ?_; rintro e Wx ⟨rfl, hbx⟩)
              | (go_at_call 8; with_reducible refine (C7.out _ (by assumption)).mono ?_; rintro e Wx ⟨rfl, hbx⟩))
            all_goals go_ret
            all_goals exact ⟨rfl, Bt HBo.out hbx.out⟩
end Go.Proofs.Ythiniidgklilnaa
