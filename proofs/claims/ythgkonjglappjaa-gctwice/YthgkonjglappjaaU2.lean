/-
  Walk: the document's Lives.
-/
import Derived.Test.YthgkonjglappjaaU1
import Derived.Test.YthgkonjglappjaaVT
set_option linter.unusedVariables false
set_option linter.unusedSimpArgs false
set_option maxRecDepth 100000
namespace Go.Proofs.Ythgkonjglappjaa
open Go.RowKit

/-- Truths in a row. -/
def bz (l : List Bool) : List Value := l.map Value.bool
def BR (g : Nat) (l : List Bool) (w : World) : Prop := w.heap[g]? = some (.cells (bz l).toArray 4 (0, 0))
theorem BR.get {g : Nat} {l : List Bool} {w : World} (h : BR g l w) {i : Nat} (hi : i < l.length) : w.cell? ⟨g, i, none⟩ = some (.bool (l.getD i false)) := by
  rw [blk_cell h]
  simp [bz, List.getElem?_map, List.getElem?_eq_getElem hi, List.getD_eq_getElem?_getD]
theorem BR.set {g : Nat} {l : List Bool} {w : World} (h : BR g l w) (i : Nat) (b : Bool) : BR g (l.set i b) (w.setCell ⟨g, i, none⟩ (.bool b)) := by
  unfold BR
  rw [blk_set (i := i) h (.bool b)]
  simp [bz, List.map_set]
theorem BR.on {g : Nat} {l : List Bool} {w w' : World} (h : BR g l w) (hb : Below w.heap.size w w') : BR g l w' := (hb.block g (Array.getElem?_eq_some_iff.1 h).1).trans h
theorem info_bool : (Try.prog.info? 4).map (fun i => (i.zero, i.size, i.bytes)) = some (some (.bool false), 1, 1) := by kernel_rfl
theorem br_new {w : World} {n : Nat} : BR w.heap.size (List.replicate n false) (w.alloc (.cells (madeCells #[.bool false] n) 4)) := by
  unfold BR
  rw [blk_new]
  have e : madeCells #[.bool false] n = (bz (List.replicate n false)).toArray := by
    rw [← Array.toArray_toList (xs := madeCells #[.bool false] n), toList_madeCells_one]; simp [bz]
  rw [e]
/-- How many truths of a row are false. -/
def cntW (g : Nat) (w : World) : Nat := match w.heap[g]? with
  | some (.cells cs _ _) => (cs.toList.filter (fun v => match v with | .bool false => true | _ => false)).length
  | _ => 0
theorem cnt_bz (l : List Bool) : ((bz l).filter (fun v => match v with | .bool false => true | _ => false)).length = cntB l := by
  unfold cntB bz
  induction l with
  | nil => rfl
  | cons b l ih => cases b <;> simp_all
theorem BR.cnt {g : Nat} {l : List Bool} {w : World} (h : BR g l w) : cntW g w = cntB l := by
  unfold cntW
  rw [h]
  exact cnt_bz l
def boolN : Value → Nat
  | .bool true => 1
  | _ => 0
theorem RH.fld {B g : Nat} {N : Int} {go : Option Addr} {cp : Nat} {ls : List (Ob × Sl)} {w : World} (h : RH B g N (.slice go ls.length cp) ls w) {q : Nat} (hq : q < ls.length) :
    ∃ gl xa xc, go = some ⟨gl, 0, none⟩ ∧ ls.length ≤ cp ∧ cp ≤ maxLen ∧ w.cell? ⟨g, 1, none⟩ = some (.slice (some ⟨gl, 0, none⟩) ls.length cp) ∧ w.cell? ⟨gl, q * 3 + 1, none⟩ = some (.int .i64 ((ls.map Prod.fst).getD q default).kind) ∧ w.cell? ⟨gl, q * 3 + 2, none⟩ = some (.slice xa ((ls.map Prod.fst).getD q default).f.length xc) ∧ URow w xa ((ls.map Prod.fst).getD q default).f.length xc ((ls.map Prod.fst).getD q default).f := by
  obtain ⟨gl, cap, hv, h1, h2, j0, j1, j2⟩ := h.obj hq rfl
  cases hv
  have hmem := getD_in_ob hq
  obtain ⟨r1, r2⟩ := h.rows _ hmem
  have hu := h.uf _ hmem
  rw [getD_fst] at r1 r2 hu j1
  obtain ⟨a1, c1, hve, hU⟩ := urow_own r1 hu
  injection hve with e1 e2 e3
  refine ⟨gl, a1, c1, rfl, h1, h2, blk_cell h.box 1, j1, ?_, hU⟩
  rw [j2, e1, e2, e3]
/-- The objects that are marked so far. -/
structure LS (os : List Ob) (rs : List Int) (gb : Nat) (w0 : World) (l : List Bool) (w : World) : Prop where
  len : l.length = os.length
  row : BR gb l w
  bel : Below w0.heap.size w0 w
  snd : ∀ i, l.getD i false = true → Lv os rs i
def rootsIn (os : List Ob) (rs : List Int) (q : Nat) (l : List Bool) : Prop := ∀ k, k < q → ∀ i, findM os (rs.getD k 0) = some i → l.getD i false = true
def closedAt (os : List Ob) (l : List Bool) (i : Nat) : Prop := l.getD i false = true → ∀ z ∈ (os.getD i default).f, ∀ j, findM os z = some j → l.getD j false = true
theorem mono_set {l : List Bool} {n i : Nat} (h : l.getD i false = true) (hn : n < l.length) : (l.set n true).getD i false = true := by
  rw [set_get_b hn]; split
  · rfl
  · exact h
theorem rootsIn.set {os : List Ob} {rs : List Int} {q : Nat} {l : List Bool} (h : rootsIn os rs q l) {n : Nat} (hn : n < l.length) : rootsIn os rs q (l.set n true) := fun k hk i e => mono_set (h k hk i e) hn
theorem LS.on {os : List Ob} {rs : List Int} {gb : Nat} {w0 w w' : World} {l : List Bool} (h : LS os rs gb w0 l w) (hb : Below w.heap.size w w') : LS os rs gb w0 l w' := ⟨h.len, h.row.on hb, Bt h.bel hb, h.snd⟩
theorem LS.set {os : List Ob} {rs : List Int} {gb : Nat} {w0 w : World} {l : List Bool} (h : LS os rs gb w0 l w) {n : Nat} (hn : Lv os rs n) (hg : w0.heap.size ≤ gb) : LS os rs gb w0 (l.set n true) (w.setCell ⟨gb, n, none⟩ (.bool true)) :=
  ⟨by rw [List.length_set]; exact h.len, h.row.set n true, h.bel.setCell (p := ⟨gb, n, none⟩) hg _, fun i hi => by
    rw [set_get_b (by rw [h.len]; exact hn.lt)] at hi
    split at hi
    · rename_i e; rw [← e]; exact hn
    · exact h.snd i hi⟩
set_option maxHeartbeats 16000000 in
theorem rlives_any {B g : Nat} {N : Int} {vL : Value} {ls : List (Ob × Sl)} (ro : Option Addr) (nr cr : Nat) (rs : List Int) (w : World) (h : RH B g N vL ls w) (R : URow w ro nr cr rs) :
    Calls Try.prog 21 #[.pointer (some ⟨g, 0, none⟩), .slice ro nr cr] w fun e w' => ∃ gb, e = .returned (.slice (some ⟨gb, 0, none⟩) ls.length ls.length) ∧ w.heap.size ≤ gb ∧ BR gb (lvL (ls.map Prod.fst) rs) w' ∧ Below w.heap.size w w' := by
  have H := hid h
  have HR := hid R
  have hrm := h.room
  have hrl := R.len
  have hrf := R.fits
  have hrx := R.most
  unfold maxLen at hrx
  have hll : ls.length ≤ 1099511627776 := by have := len_le_used (ls.map Prod.fst); rw [List.length_map] at this; omega
  obtain ⟨gl0, cp0, rfl⟩ := vl_slice h
  have c1 : w.cell? ⟨g, 1, none⟩ = some (.slice gl0 ls.length cp0) := blk_cell h.box 1
  clear h R
  have hmk := fun wx => run_make_row' (P := Try.prog) 40 4 (.bool false) 1 Try.underlying40 info_bool rfl .i64 .i64 ls.length (by omega) (by omega) wx
  have HS0 : Hid (LS (ls.map Prod.fst) rs w.heap.size w (List.replicate ls.length false) (w.alloc (.cells (madeCells #[.bool false] ls.length) 4))) :=
    ⟨by simp, br_new, Ba _ _, fun i hi => by rw [List.getD_eq_getElem?_getD, List.getElem?_replicate] at hi; split at hi <;> simp at hi⟩
  have CF : Hid (∀ z, U64 z → ∀ wx, Below w.heap.size w wx → Calls Try.prog 45 #[.pointer (some ⟨g, 0, none⟩), .int .u64 z] wx fun e w' => e = .returned (.int .i64 (optI (findM (ls.map Prod.fst) z))) ∧ Below wx.heap.size wx w') := fun z hz wx hb => rfind_any z hz wx (H.out.on hb)
  have hlo : (ls.map Prod.fst).length = ls.length := List.length_map _
  obtain ⟨os, hos⟩ : ∃ os, os = ls.map Prod.fst := ⟨_, rfl⟩
  rw [← hos] at HS0 CF hlo ⊢
  have HOS := hid hos
  clear hos
  go_enter Try.func21, Try.ntmps21
  go_wp2_with fail
  clear c1 hmk
  go_loopw [6] (fun i wr => ∃ q : Nat, q ≤ nr ∧ i = .int .i64 q ∧ Hid (∃ l, LS os rs w.heap.size w l wr ∧ rootsIn os rs q l)) (fun i _ => nr - (intOf i).toNat)
  case atStart => exact ⟨0, Nat.zero_le _, rfl, _, HS0.out, fun k hk => by omega⟩
  case round =>
    obtain ⟨q, hq, rfl, hI⟩ := hrel
    obtain ⟨l, hS, hR⟩ := hI.out
    have HS := hid hS
    have HQ := hid hR
    clear hI hS hR
    by_cases hlt : q < nr
    · obtain ⟨b, o, rfl, hlb, hcc⟩ := HR.out.some (by omega)
      have hck := (HS.out.bel.cell (p := ⟨b, o + q, none⟩) hlb).trans (hcc q (by omega))
      have hu := HR.out.bd _ (getD_in_f (l := rs) (i := q) (by omega))
      obtain ⟨z, hz⟩ : ∃ z, z = rs.getD q 0 := ⟨_, rfl⟩
      rw [← hz] at hck hu
      have HZ := hid hz
      have HU := hid hu
      have HM : Hid (z ∈ rs) := by unfold Hid; rw [hz]; exact getD_in_f (by omega)
      clear hcc hz hu
      cases hf : findM os z with
      | none =>
        have HF := hid hf
        have C1 := hid (CF.out z HU.out wr HS.out.bel)
        rw [hf] at C1
        simp only [optI] at C1
        clear hf
        go_wp2_with (go_at_call 45; (with_reducible refine C1.out.mono ?_); rintro e W3 ⟨rfl, b3⟩)
        refine ⟨⟨q + 1, by omega, by go_num, l, HS.out.on b3, fun k hk i e => ?_⟩, by simp [intOf] <;> omega⟩
        by_cases hkq : k = q
        · subst hkq; rw [← HZ.out, HF.out] at e; cases e
        · exact HQ.out k (by omega) i e
      | some n =>
        have HF := hid hf
        have hnl := (findM_lt hf).1
        have C1 := hid (CF.out z HU.out wr HS.out.bel)
        rw [hf] at C1
        simp only [optI] at C1
        clear hf
        rw [hlo] at hnl
        have HL : Hid (n < l.length) := by unfold Hid; rw [HS.out.len, hlo]; exact hnl
        go_wp2_with (go_at_call 45; (with_reducible refine C1.out.mono ?_); rintro e W3 ⟨rfl, b3⟩; have HS3 := hid (HS.out.on b3); have f3 := blk_free HS3.out.row n; have g3 := HS3.out.row.get HL.out; clear b3)
        refine ⟨⟨q + 1, by omega, by go_num, _, HS3.out.set (.root HM.out HF.out) (Nat.le_refl _), fun k hk i e => ?_⟩, by simp [intOf] <;> omega⟩
        by_cases hkq : k = q
        · subst hkq
          rw [← HZ.out, HF.out] at e
          cases e
          rw [set_get_b HL.out, if_pos rfl]
        · exact mono_set (HQ.out k (by omega) i e) HL.out
    · obtain rfl : q = nr := by omega
      go_wp2_with fail
      go_loopw [8] (fun m wr => ∃ b : Bool, m = .bool b ∧ Hid (∃ l, LS os rs w.heap.size w l wr ∧ rootsIn os rs q l ∧ (b = false → ∀ i, i < os.length → closedAt os l i))) (fun m wr => 2 * cntW w.heap.size wr + boolN m)
      case atStart => exact ⟨true, rfl, l, HS.out, HQ.out, fun e => by cases e⟩
      case round =>
        obtain ⟨b, rfl, hI⟩ := hrel
        clear HS HQ HS0 l
        obtain ⟨l0, hS, hR, hC⟩ := hI.out
        have HS := hid hS
        have HQ := hid hR
        have HC := hid hC
        clear hI hS hR hC
        cases b
        · go_wp2_with fail
          go_ret
          have e : l0 = lvL os rs := lv_all HS.out.len HS.out.snd (fun r hr i hi => by
            obtain ⟨k, hk, rfl⟩ := List.mem_iff_getElem.1 hr
            refine HQ.out k (by omega) i ?_
            rw [List.getD_eq_getElem?_getD, List.getElem?_eq_getElem hk]; exact hi) (fun i hi => HC.out (by simp) i (HS.out.snd i hi).lt hi)
          refine ⟨w.heap.size, rfl, Nat.le_refl _, ?_, HS.out.bel⟩
          rw [← e]; exact HS.out.row
        · have hcnt := HS.out.row.cnt
          obtain ⟨c0, hc0⟩ : ∃ c, c = cntB l0 := ⟨_, rfl⟩
          rw [← hc0] at hcnt
          rw [hcnt]
          have HC0 := hid hc0
          clear hcnt hc0 HC
          go_wp2_with fail
          go_loopw [8, 9] (fun m i wr => ∃ (b : Bool) (p : Nat), m = .bool b ∧ i = .int .i64 p ∧ p ≤ ls.length ∧ Hid (∃ l, LS os rs w.heap.size w l wr ∧ rootsIn os rs q l ∧ (b = false → l = l0 ∧ ∀ i, i < p → closedAt os l i) ∧ (b = true → cntB l < c0))) (fun _ i _ => ls.length - (intOf i).toNat)
          case atStart => exact ⟨false, 0, rfl, rfl, Nat.zero_le _, l0, HS.out, HQ.out, fun _ => ⟨rfl, fun i hi => by omega⟩, fun e => by cases e⟩
          case round =>
            obtain ⟨b, p, rfl, rfl, hp, hI⟩ := hrel
            obtain ⟨l, hS1, hR1, hF1, hT1⟩ := hI.out
            have HS1 := hid hS1
            have HQ1 := hid hR1
            have HF1 := hid hF1
            have HT1 := hid hT1
            clear hI hS1 hR1 hF1 hT1
            have hcg := blk_cell (H.out.on HS1.out.bel).box 1
            by_cases hlt : p < ls.length
            · obtain ⟨gl, xa0, xc0, rfl, hc1, hc2, d1, d2, d3, dU⟩ := (H.out.on HS1.out.bel).fld hlt
              unfold maxLen at hc2
              clear d2 d3 dU xa0 xc0 hcg
              go_wp2_with fail
              go_loopw [8, 10] (fun m k wr => ∃ (b : Bool) (j : Nat), m = .bool b ∧ k = .int .i64 j ∧ j ≤ (os.getD p default).f.length ∧ Hid (∃ l, LS os rs w.heap.size w l wr ∧ rootsIn os rs q l ∧ (b = false → l = l0 ∧ (∀ i, i < p → closedAt os l i) ∧ (l.getD p false = true → ∀ j', j' < j → ∀ n, findM os ((os.getD p default).f.getD j' 0) = some n → l.getD n false = true)) ∧ (b = true → cntB l < c0))) (fun _ k _ => (os.getD p default).f.length - (intOf k).toNat)
              case atStart => exact ⟨b, 0, rfl, rfl, Nat.zero_le _, l, HS1.out, HQ1.out, fun e => ⟨(HF1.out e).1, (HF1.out e).2, fun _ j' hj' => by omega⟩, HT1.out⟩
              case round =>
                obtain ⟨b2, j, rfl, rfl, hj, hI⟩ := hrel
                obtain ⟨l2, hS2, hR2, hF2, hT2⟩ := hI.out
                have HS2 := hid hS2
                have HQ2 := hid hR2
                have HF2 := hid hF2
                have HT2 := hid hT2
                clear hI hS2 hR2 hF2 hT2
                obtain ⟨gl', xa, xc, hgl', _, _, d1', d2', d3', dU'⟩ := (H.out.on HS2.out.bel).fld hlt
                cases hgl'
                rw [← HOS.out] at d3' dU'
                have HUR := hid dU'
                have hl2 : p < l2.length := by rw [HS2.out.len, hlo]; exact hlt
                have cb := HS2.out.row.get hl2
                obtain ⟨bq, hbq⟩ : ∃ bq, bq = l2.getD p false := ⟨_, rfl⟩
                rw [← hbq] at cb
                have HBQ := hid hbq
                obtain ⟨x, hx⟩ : ∃ x, x = os.getD p default := ⟨_, rfl⟩
                rw [← hx] at d3' HUR hj HF2 ⊢
                have HX := hid hx
                have hxn := HUR.out.most
                have hxc := HUR.out.fits
                unfold maxLen at hxn
                clear d2' dU' hbq hx
                obtain ⟨xk, xf⟩ := x
                simp only at d3' HUR hj HF2 hxc hxn ⊢
                cases bq
                · go_wp2_with fail
                  refine ⟨⟨b2, p + 1, rfl, by go_num, by omega, l2, HS2.out, HQ2.out, fun e => ⟨(HF2.out e).1, fun i hi => ?_⟩, HT2.out⟩, by simp [intOf] <;> omega⟩
                  by_cases hip : i = p
                  · subst hip; intro e'; rw [← HBQ.out] at e'; cases e'
                  · exact (HF2.out e).2.1 i (by omega)
                · by_cases hlj : j < xf.length
                  · obtain ⟨bb, o, rfl, hlb, hcc⟩ := HUR.out.some (by omega)
                    have hck := hcc j hlj
                    have hu := HUR.out.bd _ (getD_in_f (l := xf) (i := j) hlj)
                    have hzm := getD_in_f (l := xf) (i := j) hlj
                    obtain ⟨z, hz⟩ : ∃ z, z = xf.getD j 0 := ⟨_, rfl⟩
                    rw [← hz] at hck hu hzm
                    have HZ := hid hz
                    have HU := hid hu
                    have HZM := hid hzm
                    clear hcc hz hu hzm
                    have HLV : Hid (Lv os rs p) := HS2.out.snd p HBQ.out.symm
                    cases hf : findM os z with
                    | none =>
                      have HF := hid hf
                      have C1 := hid (CF.out z HU.out wr HS2.out.bel)
                      rw [hf] at C1
                      simp only [optI] at C1
                      clear hf
                      go_wp2_with (go_at_call 45; (with_reducible refine C1.out.mono ?_); rintro e W3 ⟨rfl, b3⟩)
                      refine ⟨⟨b2, j + 1, rfl, by go_num, by omega, l2, HS2.out.on b3, HQ2.out, fun e => ⟨(HF2.out e).1, (HF2.out e).2.1, fun hp' j' hj' n hn => ?_⟩, HT2.out⟩, by simp [intOf] <;> omega⟩
                      by_cases hjj : j' = j
                      · subst hjj; rw [← HZ.out, HF.out] at hn; cases hn
                      · exact (HF2.out e).2.2 hp' j' (by omega) n hn
                    | some n =>
                      have HF := hid hf
                      have hnl := (findM_lt hf).1
                      have C1 := hid (CF.out z HU.out wr HS2.out.bel)
                      rw [hf] at C1
                      simp only [optI] at C1
                      clear hf
                      rw [hlo] at hnl
                      have HL : Hid (n < l2.length) := by unfold Hid; rw [HS2.out.len, hlo]; exact hnl
                      obtain ⟨bn, hbn⟩ : ∃ bn, bn = l2.getD n false := ⟨_, rfl⟩
                      have HBN := hid hbn
                      clear hbn
                      have HXM : Hid (z ∈ (os.getD p default).f) := by unfold Hid; rw [← HX.out]; exact HZM.out
                      cases bn
                      · go_wp2_with (go_at_call 45; (with_reducible refine C1.out.mono ?_); rintro e W3 ⟨rfl, b3⟩; have HS3 := hid (HS2.out.on b3); have f3 := blk_free HS3.out.row n; have g3 := HS3.out.row.get HL.out; rw [← HBN.out] at g3; clear b3)
                        have hcs := cnt_set HL.out HBN.out.symm
                        refine ⟨⟨true, j + 1, rfl, by go_num, by omega, _, HS3.out.set (.step HLV.out HXM.out HF.out) (Nat.le_refl _), HQ2.out.set HL.out, fun e => by (cases e), fun _ => ?_⟩, by simp [intOf] <;> omega⟩
                        cases b2
                        · have := (HF2.out rfl).1
                          rw [HC0.out, ← this]; omega
                        · have := HT2.out rfl; omega
                      · go_wp2_with (go_at_call 45; (with_reducible refine C1.out.mono ?_); rintro e W3 ⟨rfl, b3⟩; have HS3 := hid (HS2.out.on b3); have g3 := HS3.out.row.get HL.out; rw [← HBN.out] at g3; clear b3)
                        refine ⟨⟨b2, j + 1, rfl, by go_num, by omega, l2, HS3.out, HQ2.out, fun e => ⟨(HF2.out e).1, (HF2.out e).2.1, fun hp' j' hj' n' hn => ?_⟩, HT2.out⟩, by simp [intOf] <;> omega⟩
                        by_cases hjj : j' = j
                        · subst hjj; rw [← HZ.out, HF.out] at hn; cases hn; exact HBN.out.symm
                        · exact (HF2.out e).2.2 hp' j' (by omega) n' hn
                  · go_wp2_with fail
                    refine ⟨⟨b2, p + 1, rfl, by go_num, by omega, l2, HS2.out, HQ2.out, fun e => ⟨(HF2.out e).1, fun i hi => ?_⟩, HT2.out⟩, by simp [intOf] <;> omega⟩
                    by_cases hip : i = p
                    · subst hip
                      intro e' z' hz' n hn
                      rw [← HX.out] at hz'
                      obtain ⟨k, hk, rfl⟩ := List.mem_iff_getElem.1 hz'
                      have hk' : k < xf.length := hk
                      refine (HF2.out e).2.2 e' k (by omega) n ?_
                      rw [List.getD_eq_getElem?_getD, List.getElem?_eq_getElem hk']; exact hn
                    · exact (HF2.out e).2.1 i (by omega)
            · obtain rfl : p = ls.length := by omega
              go_wp2_with fail
              refine ⟨⟨b, rfl, l, HS1.out, HQ1.out, fun e i hi => (HF1.out e).2 i (by omega)⟩, ?_⟩
              rw [HS1.out.row.cnt]
              cases b
              · rw [(HF1.out rfl).1, ← HC0.out]; simp [boolN]
              · have := HT1.out rfl; simp [boolN]; omega
end Go.Proofs.Ythgkonjglappjaa
