/-
  Walk: StoreNames.
-/
import Derived.Test.YtadfihnffboelaaGreatDoorSR
set_option linter.unusedVariables false
set_option linter.unusedSimpArgs false
set_option maxRecDepth 100000
namespace Go.Proofs.YtadfihnffboelaaGreatDoor
open Go.RowKit

/-- Names that were asked for. -/
def askL (ts : List ByteArray) (q : Nat) : List ByteArray := (ts.take q).foldl idL []
theorem askL_succ {ts : List ByteArray} {q : Nat} (h : q < ts.length) : askL ts (q + 1) = idL (askL ts q) (ts.getD q ByteArray.empty) := by
  unfold askL
  rw [List.take_succ_eq_append_getElem h, List.foldl_append, List.getD_eq_getElem?_getD, List.getElem?_eq_getElem h]; rfl
theorem askL_len {ts : List ByteArray} : ∀ q, q ≤ ts.length → (askL ts q).length ≤ q
  | 0, _ => by simp [askL]
  | q + 1, h => by
    rw [askL_succ (by omega)]
    have := askL_len (ts := ts) q (by omega)
    have := idL_len (askL ts q) (ts.getD q ByteArray.empty)
    omega
/-- Both tables side by side, behind the world w0. -/
structure TN (w0 : World) (vn : Value) (gn : Nat) (F : Nat → Prop) (vL : Value) (np nr : List ByteArray) (w : World) : Prop where
  p : NP w0.heap.size vn np F w
  r : NM w0.heap.size gn vL nr w
  ap : ∀ b, F b → ¬ NF gn vL b
  bel : Below w0.heap.size w0 w
section
variable {w0 w w' : World} {vn vL : Value} {gn : Nat} {F : Nat → Prop} {np nr nm' : List ByteArray}
theorem TN.on (h : TN w0 vn gn F vL np nr w) (hb : Below w.heap.size w w') : TN w0 vn gn F vL np nr w' :=
  ⟨h.p.keep (fun b hf => hb.block b (h.p.ge b hf).2), h.r.on hb, h.ap, Bt h.bel hb⟩
theorem TN.stepP (h : TN w0 vn gn F vL np nr w) (hp : NPPost w0.heap.size vn F w nm' w') : ∃ F', TN w0 vn gn F' vL nm' nr w' := by
  obtain ⟨F', h1, h2, h3⟩ := hp
  refine ⟨F', h1, h.r.keep (fun b hb => h3.block b (h.r.ge b hb).2 (fun e => h.ap b e hb)), fun b hf hn => ?_, ?_⟩
  · rcases h2 b hf with e | e
    · exact h.ap b e hn
    · have := (h.r.ge b hn).2; omega
  · exact h.bel.trans (h3.below (fun b hf => (h.p.ge b hf).1) h.bel.size)
theorem TN.stepR (h : TN w0 vn gn F vL np nr w) (hp : NPost w0.heap.size gn vL w nm' w') : ∃ vL', TN w0 vn gn F vL' np nm' w' := by
  obtain ⟨vL', h1, h2, h3⟩ := hp
  refine ⟨vL', h.p.keep (fun b hf => h3.block b (h.p.ge b hf).2 (fun e => h.ap b hf e)), h1, fun b hf hn => ?_, ?_⟩
  · rcases h2 b hn with e | e
    · exact h.ap b hf e
    · have := (h.p.ge b hf).2; omega
  · exact h.bel.trans (h3.below (fun b hf => (h.r.ge b hf).1) h.bel.size)
end
set_option maxHeartbeats 16000000 in
theorem storeNames_walk (ao : Option Addr) (n cap : Nat) (ts : List ByteArray) (w : World) (R : TRow w ao n cap ts) (hT : TabsS w) :
    Calls Tryz.prog 5 #[.slice ao n cap] w fun e w' => e = .returned (.bool true) ∧ Below w.heap.size w w' := by
  have HR := hid R
  have hf := R.fits
  have hm := R.most
  have hrl := R.len
  unfold maxLen at hm
  have CA : Hid (∀ wx, Below w.heap.size w wx → _) := fun wx hb => sawake_any wx (TabsS.below hT hb)
  have HRL := hid hrl
  clear R hT hrl
  by_cases h1 : 100 < n
  · go_enter Tryz.func5, Tryz.ntmps5
    go_wp2_with fail
    go_ret
    exact ⟨rfl, Below.refl _ _⟩
  have C0 := hid (pnames_any w)
  go_enter Tryz.func5, Tryz.ntmps5
  go_wp2_with (go_at_call 12; (with_reducible refine C0.out.mono ?_); rintro e W1 ⟨vn, F, rfl, hp, b1⟩; have HP := hid hp; have HB := hid b1; clear hp b1)
  have HS : Hid (∃ F vL, TN w vn W1.heap.size F vL (askL ts 0) (askL ts 0) (W1.alloc (.cells #[.slice none 0 0] 36))) := by
    have hb := Ba W1 (.cells #[.slice none 0 0] 36)
    refine ⟨F, .slice none 0 0, HP.out.keep (fun b hf => hb.block b (HP.out.ge b hf).2), ⟨blk_new _ _ _, World.ownsRow_nil _ _ _ _, fun e => (by cases e), HB.out.size⟩, fun b hf hn => ?_, Bt HB.out hb⟩
    rcases hn with e | e
    · have := (HP.out.ge b hf).2; omega
    · cases e
  obtain ⟨gp, rfl⟩ := HP.out.ptr
  obtain ⟨gn, hgn⟩ : ∃ g, g = W1.heap.size := ⟨_, rfl⟩
  rw [← hgn] at HS ⊢
  generalize W1.alloc (.cells #[.slice none 0 0] 36) = W2 at *
  clear hgn HP HB C0
  go_loopw [5] (fun i wr => ∃ q : Nat, q ≤ n ∧ i = .int .i64 q ∧ Hid (∃ F vL, TN w (.pointer (some ⟨gp, 0, none⟩)) gn F vL (askL ts q) (askL ts q) wr)) (fun i _ => n - (intOf i).toNat)
  case atStart => exact ⟨0, Nat.zero_le _, rfl, HS.out⟩
  case round =>
    clear HS
    obtain ⟨q, hq, rfl, hI⟩ := hrel
    obtain ⟨F, vL, hTN⟩ := hI.out
    have HTN := hid hTN
    have hql := askL_len (ts := ts) q (by have := HRL.out; omega)
    clear hI
    by_cases hlt : q < n
    · obtain ⟨bb, oo, rfl, hlb, hcc⟩ := HR.out.some (by omega)
      have hcell : Hid (∀ wx, Below w.heap.size w wx → wx.cell? ⟨bb, oo + q, none⟩ = some (.string (ts.getD q ByteArray.empty))) := fun wx hb => (hb.cell (p := ⟨bb, oo + q, none⟩) hlb).trans (hcc q hlt)
      have c1 := hcell.out wr hTN.bel
      have HAS := hid (askL_succ (ts := ts) (q := q) (by have := HRL.out; omega))
      obtain ⟨s, hs⟩ : ∃ s, s = ts.getD q ByteArray.empty := ⟨_, rfl⟩
      rw [← hs] at hcell c1 HAS
      clear hs hcc hTN
      by_cases hsz : 1000 < s.size
      · go_wp2_with fail
        go_ret
        exact ⟨rfl, HTN.out.bel⟩
      · obtain ⟨nm, hnm⟩ : ∃ nm, nm = askL ts q := ⟨_, rfl⟩
        rw [← hnm] at HTN HAS hql
        clear hnm
        obtain ⟨i1, i2⟩ := id_there nm s
        have HI2 := hid i2
        have hidl := idL_len nm s
        have C1 := hid (pid_any s wr HTN.out.p HTN.out.bel.size (by omega) (by omega))
        have C2 : Hid (∀ F' wx, NP w.heap.size (.pointer (some ⟨gp, 0, none⟩)) (idL nm s) F' wx → Calls Tryz.prog 25 #[.pointer (some ⟨gp, 0, none⟩), .int .i64 (idM nm s : Nat)] wx fun e w' => e = .returned (.tuple #[.string s, .bool true]) ∧ Below wx.heap.size wx w') := fun F' wx hp => by
          have := ptext_any ((idM nm s : Nat) : Int) (by unfold Z64; omega) wx hp (by omega)
          rw [if_pos (by omega), Int.toNat_natCast, HI2.out, decide_eq_true (show (0 : Int) ≤ (idM nm s : Nat) by omega), decide_eq_true (show ((idM nm s : Nat) : Int) < ((idL nm s).length : Nat) by omega)] at this
          exact this
        have C3 : Hid (∀ vL wx, NM w.heap.size gn vL nm wx → w.heap.size ≤ wx.heap.size → _) := fun vL wx hp hB => nid_any s wx hp hB (by omega)
        obtain ⟨im, him⟩ : ∃ i, i = idM nm s := ⟨_, rfl⟩
        rw [← him] at C1 C2 C3 i1
        obtain ⟨nm', hnm'⟩ : ∃ l, l = idL nm s := ⟨_, rfl⟩
        rw [← hnm'] at C1 C2 C3 HAS i1 hidl
        clear i2 him hnm' HI2
        go_wp2_with (first
          | (go_at_call 24; (with_reducible refine C1.out.mono ?_); rintro e W3 ⟨rfl, p3⟩; obtain ⟨F3, h3⟩ := HTN.out.stepP p3; have H3 := hid h3; clear p3 h3)
          | (go_at_call 25; (with_reducible refine (C2.out F3 W3 H3.out.p).mono ?_); rintro e W4 ⟨rfl, b4⟩; have H4 := hid (H3.out.on b4); have c4 := hcell.out W4 H4.out.bel; clear b4)
          | (go_at_call 26; (with_reducible refine (C3.out vL W4 H4.out.r H4.out.bel.size).mono ?_); rintro e W5 ⟨rfl, p5⟩; obtain ⟨vL5, h5⟩ := H4.out.stepR p5; have H5 := hid h5; have c5 := hcell.out W5 H5.out.bel; clear p5 h5))
        exact ⟨⟨q + 1, by omega, by go_num, F3, vL5, by rw [HAS.out]; exact H5.out⟩, by simp [intOf] <;> omega⟩
    · obtain rfl : q = n := by omega
      obtain ⟨nm, hnm⟩ : ∃ nm, nm = askL ts q := ⟨_, rfl⟩
      rw [← hnm] at HTN hql
      clear hnm hTN
      have CT : Hid (∀ z : Int, (z < 0 ∨ (nm.length : Int) ≤ z) → Z64 z → ∀ wx, TN w (.pointer (some ⟨gp, 0, none⟩)) gn F vL nm nm wx → Calls Tryz.prog 25 #[.pointer (some ⟨gp, 0, none⟩), .int .i64 z] wx fun e w' => e = .returned (.tuple #[.string ByteArray.empty, .bool false]) ∧ Below wx.heap.size wx w') := fun z hz hzz wx hp => by
        have := ptext_any z hzz wx hp.p (by omega)
        rw [if_neg (by omega)] at this
        have e : (decide (0 ≤ z) && decide (z < (nm.length : Int))) = false := by
          rcases hz with h | h
          · rw [decide_eq_false (by omega)]; rfl
          · rw [decide_eq_false (show ¬ z < (nm.length : Int) by omega), Bool.and_false]
        rw [e] at this
        exact this
      have C1 := hid (CT.out (-1) (.inl (by omega)) (by unfold Z64; omega) wr HTN.out)
      obtain ⟨aL, cL, hvL, hLf, hLm⟩ := slice_form HTN.out.r.own
      subst hvL
      have HCL : Hid (∀ wx, TN w (.pointer (some ⟨gp, 0, none⟩)) gn F (.slice aL nm.length cL) nm nm wx → wx.cell? ⟨gn, 0, none⟩ = some (.slice aL nm.length cL)) := fun wx h => blk_cell h.r.box 0
      have C2 : Hid (∀ wx, TN w (.pointer (some ⟨gp, 0, none⟩)) gn F (.slice aL nm.length cL) nm nm wx → _) := fun wx h => CT.out ((nm.length : Nat) : Int) (.inr (Int.le_refl _)) (by unfold Z64; omega) wx h
      have C3 : Hid (∀ wx, _) := fun wx => ptext_nil 0 wx
      have C4 : Hid (∀ wx, _) := fun wx => pid_nil (⟨#[97]⟩ : ByteArray) wx
      clear CT
      go_wp2_with (first
        | (go_at_call 25; (with_reducible refine C1.out.mono ?_); rintro e W3 ⟨rfl, b3⟩; have H3 := hid (HTN.out.on b3); have c3 := HCL.out W3 H3.out; clear b3)
        | (go_at_call 25; (with_reducible refine (C2.out W3 H3.out).mono ?_); rintro e W4 ⟨rfl, b4⟩; have H4 := hid (H3.out.on b4); clear b4)
        | (go_at_call 25; (with_reducible refine (C3.out W4).mono ?_); rintro e W5 ⟨rfl, b5⟩; have H5 := hid (H4.out.on b5); clear b5)
        | (go_at_call 24; (with_reducible refine (C4.out W5).mono ?_); rintro e W6 ⟨rfl, b6⟩; have H6 := hid (H5.out.on b6); clear b6)
        | (go_at_call 9; (with_reducible refine (CA.out W6 H6.out.bel).mono ?_); rintro e W7 ⟨rfl, b7⟩; have H7 := hid (H6.out.on b7); clear b7))
      go_ret
      exact ⟨rfl, H7.out.bel⟩
end Go.Proofs.YtadfihnffboelaaGreatDoor
