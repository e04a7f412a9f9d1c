/-
  Walks of the program: slide.
-/
import Derived.Test.YthgkonjglappjabU32
set_option linter.unusedVariables false
set_option linter.unusedSimpArgs false
set_option maxRecDepth 100000
namespace Go.Proofs.Ythgkonjglappjab
open Go.RowKit

section
variable {B : Nat} {v : Value} {N : Int} {F : Nat → Prop} {os : List Ob} {l : List Bool} {ln : List Int}
theorem head_stays {k : Nat} (ho : OsOk os) (hk : k < os.length) (hus : usedL os ≤ 4194304) : movedM os l ((wordsL os).getD (atO os k) 0) = wordR 8 ((os.getD k default).f.length : Nat) (os.getD k default).kind := by
  have hlt := at_lt hk
  rw [word_head hk]
  unfold movedM
  have hh := head_of (ho.kd _ (getD_in_os hk)) (show (os.getD k default).f.length ≤ 1099511627776 by omega)
  have : findM os (wordR 8 ((os.getD k default).f.length : Nat) (os.getD k default).kind) = none := by
    unfold findM
    rw [hh, if_neg (by show ¬ ((8 : Int) = 2); decide)]
  rw [this]
/-- What is put at a place is what lies there behind. -/
theorem slid {k t : Nat} (ho : OsOk os) (hk : k < os.length) (hus : usedL os ≤ 4194304) (hl : l.length = os.length) (hb : l.getD k false = true) (ht : t < 1 + (os.getD k default).f.length) :
    movedM os l ((wordsL os).getD (atO os k + t) 0) = (wordsL (collO os l)).getD (toM os l k + t) 0 := by
  cases t with
  | zero => rw [Nat.add_zero, Nat.add_zero, head_stays ho hk hus, coll_head hk hl hb]
  | succ j =>
    have h1 := word_field (j := j) hk (by omega)
    have h2 := coll_field (j := j) hk hl hb (by omega)
    rw [show atO os k + (j + 1) = atO os k + 1 + j by omega, show toM os l k + (j + 1) = toM os l k + 1 + j by omega, h1, h2]
theorem Sld.obj_yes' {O ws : List Int} {i t A m : Nat} (h : i < os.length) (hl : l.length = os.length) (hb : l.getD i false = true) (ht : t = toM os l i) (hA : A = atO os i) (hm : m = 1 + (os.getD i default).f.length) (hs : Sld (wordsL (collO os l)) O (t + m) (A + m) ws) : Sld (wordsL (collO os l)) O (toM os l (i + 1)) (atO os (i + 1)) ws := by
  subst ht hA hm
  rw [← Nat.add_assoc, ← Nat.add_assoc] at hs
  exact Sld.obj_yes h hl hb hs
set_option maxHeartbeats 16000000 in
theorem slide_any {g b1 b2 : Nat} (ho : OsOk os) (L : Lens os l ln) (w : World) (h : PH B v N (wordsL os) F w) (hB : B ≤ w.heap.size) (hr : w.heap[g]? = some (.cells (iz ln).toArray 3 (0, 0))) (hg : ¬ F g)
    (hm : ∀ wx, Mod F w wx → ∀ z, U64 z → Calls Try.prog 21 #[.int .u64 z, .pointer (some ⟨b1, 0, none⟩), .pointer (some ⟨b2, 0, none⟩)] wx fun e w' => e = .returned (.int .u64 (movedM os l z)) ∧ w' = wx) :
    Calls Try.prog 10 #[v, .slice (some ⟨g, 0, none⟩) (usedL os) (usedL os), .func (.func 21) #[] #[.pointer (some ⟨b1, 0, none⟩), .pointer (some ⟨b2, 0, none⟩)]] w fun e w' =>
      e = .returned (.tuple #[]) ∧ PPost B v N F w (wordsL (collO os l)) w' := by
  have hus := ph_used h
  have hwl := wordsL_length os
  have H := hid h
  have HL := hid L
  have HM := hid hm
  have HRow : Hid (∀ wx, Mod F w wx → wx.heap[g]? = some (.cells (iz ln).toArray 3 (0, 0))) := fun wx hx => (hx.block g (Array.getElem?_eq_some_iff.1 hr).1 hg).trans hr
  obtain ⟨gh, rfl⟩ := h.ptr
  have CP : Hid (∀ ws wx (i : Nat) z, PH B (.pointer (some ⟨gh, 0, none⟩)) N ws F wx → Mod F w wx → i < ws.length → U64 z → Calls Try.prog 23 #[.pointer (some ⟨gh, 0, none⟩), .int .i64 (i : Nat), .int .u64 z] wx fun e w' => e = .returned (.tuple #[]) ∧ PH B (.pointer (some ⟨gh, 0, none⟩)) N (ws.set i z) F w' ∧ Mod F w w') := fun ws wx i z hp hx hi hz =>
    (q_put hi hz wx hp).mono (fun e w' ⟨q1, q2, q3⟩ => ⟨q1, q2, hx.trans q3 (fun _ _ h => h)⟩)
  have CC : Hid (∀ ws wx (p : Nat), PH B (.pointer (some ⟨gh, 0, none⟩)) N ws F wx → Mod F w wx → p ≤ ws.length → Calls Try.prog 24 #[.pointer (some ⟨gh, 0, none⟩), .int .i64 (p : Nat)] wx fun e w' => e = .returned (.tuple #[]) ∧ PPost B (.pointer (some ⟨gh, 0, none⟩)) N F w (ws.take p) w') := fun ws wx p hp hx hpl => by
    have hbd := hp.bd
    have := pcut_any (p : Int) (by unfold Z64; omega) wx hp (Nat.le_trans hB hx.size)
    rw [if_pos (by omega), Int.toNat_natCast] at this
    exact this.mono (fun e w' ⟨q1, F', q2, q3, q4⟩ => ⟨q1, F', q2, fun b hb => (q3 b hb).imp id (fun h => Nat.le_trans hx.size h), hx.trans q4 (fun _ _ h => h)⟩)
  have HCL : Hid ((wordsL (collO os l)).length = toM os l os.length ∧ (wordsL (collO os l)).length ≤ (wordsL os).length) := ⟨coll_len L.ll, coll_le L.ll⟩
  have HSL : Hid (∀ k t, k < os.length → l.getD k false = true → t < 1 + (os.getD k default).f.length → movedM os l ((wordsL os).getD (atO os k + t) 0) = (wordsL (collO os l)).getD (toM os l k + t) 0) := fun k t hk hb ht => slid ho hk hus L.ll hb ht
  obtain ⟨us, hu⟩ : ∃ x, x = usedL os := ⟨_, rfl⟩
  rw [← hu] at hus hwl ⊢
  have HU := hid hu
  clear h L hm hr hg hu
  go_enter Try.func10, Try.ntmps10
  go_wp2_with fail
  go_loopw [6, 12] (fun s i wr => ∃ q : Nat, q ≤ us ∧ i = .int .i64 q ∧ ∃ t : Nat, t ≤ us ∧ s = .int .i64 t ∧ Hid (∃ k ws, Ahead os q k ∧ t = toM os l k ∧ Sld (wordsL (collO os l)) (wordsL os) (toM os l k) (atO os k) ws ∧ PH B (.pointer (some ⟨gh, 0, none⟩)) N ws F wr ∧ Mod F w wr)) (fun _ i _ => us - (intOf i).toNat)
  case atStart =>
    refine ⟨0, Nat.zero_le _, rfl, 0, Nat.zero_le _, rfl, 0, wordsL os, Ahead.zero os, (toM_zero os _).symm, ?_, H.out, Mod.refl F w⟩
    rw [toM_zero, show atO os 0 = 0 from rfl]
    exact Sld.start _ _
  case round =>
    clear H
    obtain ⟨q, hq, rfl, t, ht, rfl, hI⟩ := hrel
    obtain ⟨k, ws, hA, htk, hS, hP, hX⟩ := hI.out
    clear hI
    by_cases hlt : q < us
    · have c1 := iz_cell (HRow.out wr hX) (i := q) (by rw [HL.out.len, ← HU.out]; exact hlt)
      by_cases hob : k < os.length ∧ q = atO os k ∧ l.getD k false = true
      · obtain ⟨hk, hqk, hb⟩ := hob
        subst hqk
        have hlk := at_lt hk
        rw [← HU.out] at hlk
        rw [HL.out.yes k hk, if_pos hb] at c1
        have htm : t ≤ atO os k := by rw [htk]; exact toM_le HL.out.ll (Nat.le_of_lt hk)
        have HA2 := hid (hA.yes hk rfl).2
        have HTS : Hid (toM os l (k + 1) = t + (1 + (os.getD k default).f.length)) := by unfold Hid; rw [toM_succ hk HL.out.ll, hb, htk]; rfl
        have HTK := hid htk
        have HK := hid hk
        have HBB := hid hb
        have HS : Hid (∃ ws, Sld (wordsL (collO os l)) (wordsL os) (t + 0) (atO os k + 0) ws ∧ PH B (.pointer (some ⟨gh, 0, none⟩)) N ws F wr ∧ Mod F w wr) := ⟨ws, by rw [Nat.add_zero, Nat.add_zero, htk]; exact hS, hP, hX⟩
        have HSW : Hid (∀ j, j < 1 + (os.getD k default).f.length → movedM os l ((wordsL os).getD (atO os k + j) 0) = (wordsL (collO os l)).getD (t + j) 0) := fun j hj => by rw [htk]; exact HSL.out k j hk hb hj
        obtain ⟨A, hAe⟩ : ∃ x, x = atO os k := ⟨_, rfl⟩
        obtain ⟨m, hme⟩ : ∃ x, x = 1 + (os.getD k default).f.length := ⟨_, rfl⟩
        rw [← hAe] at c1 hlk hlt htm hq HA2 HS HSW ⊢
        rw [← hme] at c1 HTS HSW
        have hlk' : A + m ≤ us := by omega
        have HAe := hid hAe
        have HME := hid hme
        clear hA htk hS hP hX hk hb hAe hme hlk
        go_wp2_with fail
        go_loopw [6, 9] (fun s i wy => ∃ j : Nat, j ≤ m ∧ s = .int .i64 ((t : Int) + (j : Int)) ∧ i = .int .i64 ((A : Int) + (j : Int)) ∧ Hid (∃ ws, Sld (wordsL (collO os l)) (wordsL os) (t + j) (A + j) ws ∧ PH B (.pointer (some ⟨gh, 0, none⟩)) N ws F wy ∧ Mod F w wy)) (fun _ i _ => m - (intOf i - (A : Int)).toNat)
        case atStart => exact ⟨0, Nat.zero_le _, by simp, by simp, HS.out⟩
        case round =>
          clear HS c1
          obtain ⟨j, hj, rfl, rfl, hI⟩ := hrel
          obtain ⟨ws, hS, hP, hX⟩ := hI.out
          clear hI
          by_cases hlt4 : j < m
          · have hlen := hS.len
            have hwd : ws.getD (A + j) 0 = (wordsL os).getD (A + j) 0 := hS.hi _ (Nat.le_refl _)
            have hu4 : U64 (ws.getD (A + j) 0) := hP.u _ (getD_in_f (by omega))
            have C1 := hid (q_word (k := A + j) (by omega) wr hP)
            have C2 := hid (HM.out wr hX _ hu4)
            have hmv : movedM os l (ws.getD (A + j) 0) = (wordsL (collO os l)).getD (t + j) 0 := by rw [hwd]; exact HSW.out j hlt4
            have hu5 : U64 (movedM os l (ws.getD (A + j) 0)) := moved_u64 hu4
            have C3 := hid (CP.out ws wr (t + j) _ hP hX (by omega) hu5)
            have HSN := hid (hS.put (z := movedM os l (ws.getD (A + j) 0)) (by omega) hmv)
            obtain ⟨x, hx⟩ : ∃ x, x = ws.getD (A + j) 0 := ⟨_, rfl⟩
            rw [← hx] at C1 C2 C3 HSN
            obtain ⟨y, hy⟩ : ∃ y, y = movedM os l x := ⟨_, rfl⟩
            rw [← hy] at C2 C3 HSN
            rw [show ((A + j : Nat) : Int) = (A : Int) + (j : Int) by omega] at C1
            rw [show ((t + j : Nat) : Int) = (t : Int) + (j : Int) by omega] at C3
            clear hS hP hX hlen hwd hu4 hmv hu5 hx hy
            go_wp2_with (first
              | (go_at_call 19; (with_reducible refine C1.out.mono ?_); rintro e W1 ⟨rfl, hw1⟩; rw [hw1]; clear hw1)
              | (go_at_call 21; (with_reducible refine C2.out.mono ?_); rintro e W1 ⟨rfl, hw1⟩; rw [hw1]; clear hw1)
              | (go_at_call 23; (with_reducible refine C3.out.mono ?_); rintro e W3 ⟨rfl, h3⟩; have H3 := hid h3; clear h3))
            exact ⟨⟨j + 1, by omega, by go_num, by go_num, _, HSN.out, H3.out⟩, by simp [intOf] <;> omega⟩
          · obtain rfl : j = m := by omega
            have HN : Hid (∃ k' ws, Ahead os (A + 1) k' ∧ t + j = toM os l k' ∧ Sld (wordsL (collO os l)) (wordsL os) (toM os l k') (atO os k') ws ∧ PH B (.pointer (some ⟨gh, 0, none⟩)) N ws F wr ∧ Mod F w wr) := by
              refine ⟨k + 1, ws, HA2.out, HTS.out.symm, hS.obj_yes' HK.out HL.out.ll HBB.out HTK.out HAe.out HME.out, hP, hX⟩
            clear hS hP hX
            go_wp2_with fail
            exact ⟨⟨A + 1, by omega, by go_num, t + j, by omega, by go_num, HN⟩, by simp [intOf] <;> omega⟩
      · have hz : ln.getD q 0 = 0 := by
          rcases hA.cases with ⟨hk, e⟩ | hn
          · rw [e, HL.out.yes k hk, if_neg (fun hb => hob ⟨hk, e, hb⟩)]
          · exact HL.out.no q hn
        rw [hz] at c1
        have HN : Hid (∃ k' ws, Ahead os (q + 1) k' ∧ t = toM os l k' ∧ Sld (wordsL (collO os l)) (wordsL os) (toM os l k') (atO os k') ws ∧ PH B (.pointer (some ⟨gh, 0, none⟩)) N ws F wr ∧ Mod F w wr) := by
          rcases hA.cases with ⟨hk, e⟩ | hn
          · have hb : l.getD k false = false := by
              cases hb : l.getD k false
              · rfl
              · exact absurd ⟨hk, e, hb⟩ hob
            refine ⟨k + 1, ws, (hA.yes hk e).2, ?_, hS.obj_no hk HL.out.ll hb, hP, hX⟩
            rw [toM_succ hk HL.out.ll, hb, htk]; rfl
          · exact ⟨k, ws, hA.no (fun ⟨j, hj, e⟩ => hn j hj e), htk, hS, hP, hX⟩
        clear hz hob hA htk hS hP hX
        go_wp2_with fail
        go_loopw [6, 9] (fun s i wy => s = .int .i64 (t : Nat) ∧ i = .int .i64 (q : Nat) ∧ Hid (wy = wr)) (fun _ _ _ => 0)
        case atStart => exact ⟨rfl, rfl, rfl⟩
        case round =>
          obtain ⟨rfl, rfl, hw⟩ := hrel
          have hw' := hw.out
          subst hw'
          go_wp2_with fail
          exact ⟨⟨q + 1, by omega, by go_num, t, ht, rfl, HN⟩, by simp [intOf] <;> omega⟩
    · obtain rfl : q = us := by omega
      have hko : k = os.length := by
        have := HU.out
        rw [this] at hA
        exact hA.all
      have hle := HCL.out
      have hlen := hS.len
      have hcl : t = (wordsL (collO os l)).length := by rw [hle.1, ← hko]; exact htk
      have hfin : ws.take t = wordsL (collO os l) := by
        rw [hcl]
        rw [hko, ← hle.1] at hS
        exact hS.done hle.2
      have C1 := hid (CC.out ws wr t hP hX (by omega))
      rw [hfin] at C1
      clear hA htk hS hP hX hko hle hlen hcl hfin
      go_wp2_with (go_at_call 24; (with_reducible refine C1.out.mono ?_); rintro e W1 ⟨rfl, h1⟩; have H1 := hid h1; clear h1)
      go_end0
      exact ⟨rfl, H1.out⟩
end
end Go.Proofs.Ythgkonjglappjab
