/-
  Walk: the document's Collect.
-/
import Derived.Test.YthgkonjglappjaaU3
set_option linter.unusedVariables false
set_option linter.unusedSimpArgs false
set_option maxRecDepth 100000
namespace Go.Proofs.Ythgkonjglappjaa
open Go.RowKit

theorem info_intn : (Try.prog.info? 3).map (fun i => (i.zero, i.size, i.bytes)) = some (some (.int .i64 0), 1, 8) := by kernel_rfl
theorem nr_new {w : World} {n : Nat} : NR w.heap.size (List.replicate n 0) (w.alloc (.cells (madeCells #[.int .i64 0] n) 3)) := by
  unfold NR
  rw [blk_new]
  have e : madeCells #[.int .i64 0] n = (nz (List.replicate n 0)).toArray := by
    rw [← Array.toArray_toList (xs := madeCells #[.int .i64 0] n), toList_madeCells_one]; simp [nz]
  rw [e]
/-- The first places are reckoned. -/
def partT (os : List Ob) (l : List Bool) (q : Nat) : List Nat := (List.range os.length).map (fun i => if i < q then toM os l i else 0)
theorem partT_zero (os : List Ob) (l : List Bool) : partT os l 0 = List.replicate os.length 0 := by
  unfold partT
  apply List.ext_getElem?
  intro i
  rw [List.getElem?_map, List.getElem?_replicate]
  by_cases h : i < os.length
  · rw [List.getElem?_range h, if_pos h]; rfl
  · rw [List.getElem?_eq_none (by simpa using h), if_neg h]; rfl
theorem partT_all (os : List Ob) (l : List Bool) : partT os l os.length = toL os l := by
  unfold partT toL; apply List.map_congr_left; intro i hi; rw [if_pos (List.mem_range.1 hi)]
theorem partT_all' {os : List Ob} {l : List Bool} {n : Nat} (h : os.length = n) : partT os l n = toL os l := by subst h; exact partT_all os l
theorem partT_length (os : List Ob) (l : List Bool) (q : Nat) : (partT os l q).length = os.length := by unfold partT; simp
theorem partT_set {os : List Ob} {l : List Bool} {q : Nat} (h : q < os.length) : (partT os l q).set q (toM os l q) = partT os l (q + 1) := by
  apply List.ext_getElem?
  intro i
  rw [List.getElem?_set]
  unfold partT
  by_cases e : q = i
  · subst e
    rw [if_pos rfl, if_pos (by simpa using h), List.getElem?_map, List.getElem?_range h]
    simp
  · rw [if_neg e, List.getElem?_map, List.getElem?_map]
    by_cases hi : i < os.length
    · rw [List.getElem?_range hi]
      show some _ = some _
      congr 1
      by_cases h1 : i < q
      · simp only [if_pos h1, if_pos (show i < q + 1 by omega)]
      · simp only [if_neg h1, if_neg (show ¬ i < q + 1 by omega)]
    · rw [List.getElem?_eq_none (by simpa using hi)]; rfl
theorem RH.kd' {B g : Nat} {N : Int} {vL : Value} {ls : List (Ob × Sl)} {w : World} (h : RH B g N vL ls w) {x : Ob} (hx : x ∈ ls.map Prod.fst) : 1 ≤ x.kind ∧ x.kind ≤ 22 := by
  obtain ⟨y, hy, rfl⟩ := List.mem_map.1 hx; exact h.kd y hy
theorem RH.uf' {B g : Nat} {N : Int} {vL : Value} {ls : List (Ob × Sl)} {w : World} (h : RH B g N vL ls w) {x : Ob} (hx : x ∈ ls.map Prod.fst) : ∀ z ∈ x.f, U64 z := by
  obtain ⟨y, hy, rfl⟩ := List.mem_map.1 hx; exact h.uf y hy
theorem RH.lower {B B' g : Nat} {N : Int} {vL : Value} {ls : List (Ob × Sl)} {w : World} (h : RH B g N vL ls w) (hb : B' ≤ B) : RH B' g N vL ls w :=
  { h with own := own_weak h.own hb, rows := fun x hx => ⟨own_weak (h.rows x hx).1 hb, (h.rows x hx).2⟩, Bg := Nat.le_trans hb h.Bg }
theorem h3g_on {w1 wx wy : World} {p1 p2 p3 o1 o2 o3 : Nat} {a1 a2 a3 : Value} (h : wx.cell? ⟨p1, o1, none⟩ = some a1 ∧ wx.cell? ⟨p2, o2, none⟩ = some a2 ∧ wx.cell? ⟨p3, o3, none⟩ = some a3 ∧ Below w1.heap.size w1 wx) (hb : Below wx.heap.size wx wy) : wy.cell? ⟨p1, o1, none⟩ = some a1 ∧ wy.cell? ⟨p2, o2, none⟩ = some a2 ∧ wy.cell? ⟨p3, o3, none⟩ = some a3 ∧ Below w1.heap.size w1 wy :=
  ⟨(hb.cell (p := ⟨p1, o1, none⟩) (cell_lt h.1)).trans h.1, (hb.cell (p := ⟨p2, o2, none⟩) (cell_lt h.2.1)).trans h.2.1, (hb.cell (p := ⟨p3, o3, none⟩) (cell_lt h.2.2.1)).trans h.2.2.1, Bt h.2.2.2 hb⟩
/-- The states of 'x.F = append(x.F, moved(..))'. -/
structure FSt (W : World) (vF : Value) (mv : Int) (k : Nat) (al : Bool) (t92 t107 t108 : Value) (wx : World) : Prop where
  bel : Below W.heap.size W wx
  i0 : al = true → t92 = vF
  i1 : k = 1 → t107 = .int .u64 mv
  i2 : k = 2 → ∃ gb, t108 = .slice (some ⟨gb, 0, none⟩) 1 1 ∧ wx.heap[gb]? = some (.cells #[.int .u64 mv] 46 (0, 0))
def Lf (s : Nat × Bool) : Array Bool := #[true, s.2, true, true, true, true, true, true, true, true, true, true, true, true, true, true, decide (1 ≤ s.1), decide (2 ≤ s.1), false, false, false]
def Mf (s : Nat × Bool) : Nat := (2 - s.1) + (if s.2 then 0 else 1)
section
variable {W wx wy : World} {vF : Value} {mv : Int} {k : Nat} {al : Bool} {t92 t107 t108 : Value}
theorem FSt.load (h : FSt W vF mv k false t92 t107 t108 wx) : FSt W vF mv k true vF t107 t108 wx := ⟨h.bel, fun _ => rfl, h.i1, h.i2⟩
theorem FSt.s1 (h : FSt W vF mv 0 al t92 t107 t108 wx) (hb : Below wx.heap.size wx wy) : FSt W vF mv 1 al t92 (.int .u64 mv) t108 wy := ⟨Bt h.bel hb, h.i0, fun _ => rfl, fun e => by omega⟩
theorem FSt.s2 (h : FSt W vF mv 1 al t92 t107 t108 wx) : FSt W vF mv 2 al t92 t107 (.slice (some ⟨wx.heap.size, 0, none⟩) 1 1) (wx.alloc (.cells #[.int .u64 mv] 46)) :=
  ⟨Bt h.bel (Ba _ _), h.i0, fun e => by omega, fun _ => ⟨_, rfl, blk_new _ _ _⟩⟩
end
set_option maxHeartbeats 16000000 in
theorem rcollect_any {B g : Nat} {N : Int} {vL : Value} {ls : List (Ob × Sl)} (ro : Option Addr) (nr cr : Nat) (rs : List Int) (w : World) (h : RH B g N vL ls w) (R : URow w ro nr cr rs) (hsm : nr ≤ 1000000) :
    Calls Try.prog 12 #[.pointer (some ⟨g, 0, none⟩), .slice ro nr cr] w fun e w' => ∃ g' vT lsT ao cap, e = .returned (.tuple #[.pointer (some ⟨g', 0, none⟩), .slice ao nr cap]) ∧ RH w.heap.size g' N vT lsT w' ∧ lsT.map Prod.fst = collO (ls.map Prod.fst) (lvL (ls.map Prod.fst) rs) ∧ URow w' ao nr cap (collR (ls.map Prod.fst) (lvL (ls.map Prod.fst) rs) rs) ∧ (∀ a, ao = some a → w.heap.size ≤ a.block ∧ ¬ RF g' vT lsT a.block) ∧ Below w.heap.size w w' := by
  have H := hid h
  have HR := hid R
  have hrm := h.room
  have hrl := R.len
  have hrf := R.fits
  have hrx := R.most
  unfold maxLen at hrx
  have hll : ls.length ≤ 1099511627776 := by have := len_le_used (ls.map Prod.fst); rw [List.length_map] at this; omega
  have C1 := hid (rlives_any ro nr cr rs w h R)
  obtain ⟨gl0, cp0, rfl⟩ := vl_slice h
  clear h R
  have hlo : (ls.map Prod.fst).length = ls.length := List.length_map _
  obtain ⟨os, hos⟩ : ∃ os, os = ls.map Prod.fst := ⟨_, rfl⟩
  rw [← hos] at C1 hlo hrm ⊢
  have HOS := hid hos
  have HLv := lvL_length os rs
  obtain ⟨l, hl⟩ : ∃ l, l = lvL os rs := ⟨_, rfl⟩
  rw [← hl] at C1 HLv ⊢
  clear hl hos
  have hll2 : l.length = ls.length := by omega
  have hmk := fun wx => run_make_row' (P := Try.prog) 68 3 (.int .i64 0) 8 Try.underlying68 info_intn rfl .i64 .i64 ls.length (by omega) (by omega) wx
  go_enter Try.func12, Try.ntmps12
  go_wp2_with (go_at_call 21; (with_reducible refine C1.out.mono ?_); rintro e W1 ⟨gb, rfl, hgb, hrow, b1⟩; have HB1 := hid b1; have HBR := hid hrow; have HGB := hid hgb; clear b1 hrow hgb)
  clear hmk
  go_loopw [8, 9] (fun n i wr => ∃ q : Nat, q ≤ ls.length ∧ n = .int .i64 (toM os l q : Nat) ∧ i = .int .i64 q ∧ Hid (NR W1.heap.size (partT os l q) wr ∧ Below W1.heap.size W1 wr)) (fun _ i _ => ls.length - (intOf i).toNat)
  case atStart => exact ⟨0, Nat.zero_le _, by rw [toM_zero]; rfl, rfl, by rw [partT_zero, hlo]; exact nr_new, Ba _ _⟩
  case round =>
    obtain ⟨q, hq, rfl, rfl, hI⟩ := hrel
    have HNR := hid hI.out.1
    have HB2 := hid hI.out.2
    clear hI
    by_cases hlt : q < ls.length
    · have HB3 := hid (HB2.out.setCell (p := ⟨W1.heap.size, q, none⟩) (Nat.le_refl _) (.int .i64 (toM os l q : Nat)))
      have cb := (HBR.out.on HB3.out).get (i := q) (by omega)
      obtain ⟨gl, xa, xc, rfl, hc1, hc2, d1, d2, d3, dU⟩ := ((H.out.on HB1.out).on HB3.out).fld hlt
      have hxf := dU.fits
      have hxm := dU.most
      unfold maxLen at hc2 hxm
      rw [← HOS.out] at d3 hxf
      have hts := toM_succ (i := q) (by omega) HLv
      have htl := toM_le HLv (i := q + 1) (by omega)
      have hta := used_take_le os (q + 1)
      have HPS := hid (partT_set (os := os) (l := l) (q := q) (by omega))
      have HPL : Hid (q < (partT os l q).length) := by unfold Hid; rw [partT_length]; omega
      have HNS := hid (HNR.out.set q (toM os l q))
      have g2 := HNR.out.get HPL.out
      have f2 := blk_free HNR.out q
      obtain ⟨T, hT⟩ : ∃ T, T = toM os l q := ⟨_, rfl⟩
      obtain ⟨xl, hxl⟩ : ∃ n, n = (os.getD q default).f.length := ⟨_, rfl⟩
      obtain ⟨bq, hbq⟩ : ∃ b, b = l.getD q false := ⟨_, rfl⟩
      rw [← hT, ← hxl, ← hbq] at hts
      rw [← hT] at HPS HNS HB3 d1 d3 cb
      rw [HPS.out] at HNS
      rw [← hxl] at d3 hxf
      rw [← hbq] at cb
      rw [← hT]
      have HTS := hid hts
      have hbd : toM os l (q + 1) ≤ 1099511627776 := by unfold atO at htl hta; omega
      clear d2 dU hT hxl hbq htl hta
      cases bq
      · clear hts hbd
        have e1 : toM os l (q + 1) = T := HTS.out
        go_wp2_with fail
        exact ⟨⟨q + 1, by omega, by rw [e1], by go_num, HNS.out, HB3.out⟩, by simp [intOf] <;> omega⟩
      · have e1 : toM os l (q + 1) = T + (1 + xl) := HTS.out
        have hbd2 : T + (1 + xl) ≤ 1099511627776 := by rw [← e1]; exact hbd
        clear hts hbd
        go_wp2_with fail
        exact ⟨⟨q + 1, by omega, by rw [e1]; go_num, by go_num, HNS.out, HB3.out⟩, by simp [intOf] <;> omega⟩
    · obtain rfl : q = ls.length := by omega
      obtain ⟨W2, rfl⟩ : ∃ W2, W2 = wr := ⟨_, rfl⟩
      have hbox := ((H.out.on HB1.out).on HB2.out).box
      have cN : W2.cell? ⟨g, 0, none⟩ = some (.int .i64 N) := blk_cell hbox 0
      have HE : Hid (RH W2.heap.size W2.heap.size N (.slice none 0 0) [] (W2.alloc (.cells #[.int .i64 N, .slice none 0 0] 44))) :=
        ⟨blk_new _ _ _, World.ownsRow_nil _ _ _ _, fun x hx => (by cases hx), List.Pairwise.nil, fun x hx => (by cases hx), (by intro e; cases e), Nat.le_refl _, fun x hx => (by cases hx), fun x hx => (by cases hx), ⟨by simp [usedL]; omega, by omega⟩⟩
      clear hbox
      go_wp2_with fail
      clear cN
      go_loopw [11] (fun i wy => ∃ q : Nat, q ≤ ls.length ∧ i = .int .i64 q ∧ Hid (∃ vT lsT, RH W2.heap.size W2.heap.size N vT lsT wy ∧ lsT.map Prod.fst = (keepL (os.take q) (l.take q)).map (movOb os l) ∧ Below W2.heap.size W2 wy)) (fun i _ => ls.length - (intOf i).toNat)
      case atStart => exact ⟨0, Nat.zero_le _, rfl, _, [], HE.out, by simp [keepL], Ba _ _⟩
      case round =>
        obtain ⟨q, hq, rfl, hI⟩ := hrel
        obtain ⟨vT, lsT, hT, hTm, hb⟩ := hI.out
        have HT := hid hT
        have HTM := hid hTm
        have HB := hid hb
        clear hI hT hTm hb
        have hgbl : Hid (gb < W2.heap.size) := Nat.lt_of_lt_of_le (Array.getElem?_eq_some_iff.1 HBR.out).1 HB2.out.size
        rw [partT_all' hlo] at HNR
        have HNY := hid (HNR.out.on HB.out)
        have HBY := hid ((HBR.out.on HB2.out).on HB.out)
        have HHY := hid (((H.out.on HB1.out).on HB2.out).on HB.out)
        by_cases hlt : q < ls.length
        · have cb := HBY.out.get (i := q) (by omega)
          have ct := HNY.out.get (i := q) (by rw [toL_length]; omega)
          rw [toL_get (by omega)] at ct
          obtain ⟨gl, xa, xc, rfl, hc1, hc2, d1, d2, d3, dU⟩ := HHY.out.fld hlt
          rw [← HOS.out] at d2 d3 dU
          have hxf := dU.fits
          have hxm := dU.most
          unfold maxLen at hc2 hxm
          have hks := keep_succ (l := l) (i := q) (by omega) HLv
          obtain ⟨bq, hbq⟩ : ∃ b, b = l.getD q false := ⟨_, rfl⟩
          rw [← hbq] at cb hks
          have hfm := getD_in_os (l := os) (i := q) (by omega)
          have hfl := at_lt (os := os) (k := q) (by omega)
          have HKD := hid (H.out.kd' (by rw [← HOS.out]; exact hfm))
          have HUF : Hid (∀ z ∈ (os.getD q default).f, U64 z) := H.out.uf' (by rw [← HOS.out]; exact hfm)
          have HRM : Hid (usedL (keepL (os.take (q + 1)) (l.take (q + 1))) ≤ usedL os) := by
            have h1 := toM_le HLv (i := q + 1) (by omega)
            have h2 := used_take_le os (q + 1)
            unfold Hid; unfold toM at h1; omega
          obtain ⟨T, hT⟩ : ∃ T, T = toM os l q := ⟨_, rfl⟩
          have HTT : Hid (T = usedL (keepL (os.take q) (l.take q))) := hT
          obtain ⟨x, hx⟩ : ∃ x, x = os.getD q default := ⟨_, rfl⟩
          rw [← hT] at ct
          rw [← hx] at d2 d3 dU hxf hks HKD HUF hfl
          have HKS := hid hks
          clear hks hbq hT hx hfm
          obtain ⟨xk, xf⟩ := x
          simp only at d2 d3 dU hxf HKD HUF hfl
          cases bq
          · go_wp2_with fail
            refine ⟨⟨q + 1, by omega, by go_num, vT, lsT, HT.out, ?_, HB.out⟩, by simp [intOf] <;> omega⟩
            rw [HTM.out, HKS.out]; simp
          · have HS0 : Hid (wr.cell? ⟨W1.heap.size, q, none⟩ = some (.int .i64 (T : Nat)) ∧ wr.cell? ⟨g, 1, none⟩ = some (.slice (some ⟨gl, 0, none⟩) ls.length cp0) ∧ wr.cell? ⟨gl, q * 3 + 1, none⟩ = some (.int .i64 xk) ∧ Below wr.heap.size wr wr) := ⟨ct, d1, d2, Below.refl _ _⟩
            have HUR := hid dU
            clear dU
            go_wp2_with fail
            go_region_held3 (fun wx => wx.cell? ⟨W1.heap.size, q, none⟩ = some (.int .i64 (T : Nat)) ∧ wx.cell? ⟨g, 1, none⟩ = some (.slice (some ⟨gl, 0, none⟩) ls.length cp0) ∧ wx.cell? ⟨gl, q * 3 + 1, none⟩ = some (.int .i64 xk) ∧ Below wr.heap.size wr wx)
              (first | exact h3g_on HS0.out (Bd wr 1) | exact h3g_on HS0.out (Bt (Ba wr _) (Bd _ 1)) | exact h3g_on (by assumption) (Ba _ _) | exact h3g_on (by assumption) (by assumption))
              (fail)
            rename_i hHeld
            have HD1 := hid d1
            have HD3 := hid d3
            clear hHeld HS0 ct d1 d2 d3
            obtain ⟨WY, rfl⟩ : ∃ x, x = wr := ⟨_, rfl⟩
            have hx5 : (WY.alloc (.cells #[.int .i64 (T : Nat), .int .i64 xk, .slice none 0 0] 52)).drew.heap[WY.heap.size]? = some (.cells #[.int .i64 (T : Nat), .int .i64 xk, .slice none 0 0] 52 (0, 0)) := blk_new _ _ _
            have HB5 : Hid (Below WY.heap.size WY (WY.alloc (.cells #[.int .i64 (T : Nat), .int .i64 xk, .slice none 0 0] 52)).drew) := Bt (Ba WY _) (Bd _ 1)
            have HX5 := hid hx5
            clear hx5
            generalize (WY.alloc (.cells #[.int .i64 (T : Nat), .int .i64 xk, .slice none 0 0] 52)).drew = W5 at *
            go_wp2_with fail
            go_loopw [13] (fun k wz => ∃ j : Nat, j ≤ xf.length ∧ k = .int .i64 j ∧ Hid (∃ vF, wz.heap[WY.heap.size]? = some (.cells #[.int .i64 (T : Nat), .int .i64 xk, vF] 52 (0, 0)) ∧ wz.ownsRow (WY.heap.size + 1) 46 1 vF j (uz ((xf.take j).map (movedM os l))) ∧ Below WY.heap.size WY wz)) (fun k _ => xf.length - (intOf k).toNat)
            case atStart => exact ⟨0, Nat.zero_le _, rfl, _, HX5.out, World.ownsRow_nil _ _ _ _, HB5.out⟩
            case round =>
              obtain ⟨j, hj, rfl, hI⟩ := hrel
              obtain ⟨wz, rfl⟩ : ∃ x, x = wr := ⟨_, rfl⟩
              obtain ⟨vF, hxF, hoF, hbF⟩ := hI.out
              obtain ⟨aF, nF, cF, rfl⟩ : ∃ aF nF cF, vF = .slice aF nF cF := by rcases hoF.2 with ⟨h, _⟩ | ⟨g, cap, cur, h, _⟩ <;> exact ⟨_, _, _, h⟩
              obtain rfl : nF = j := by rcases hoF.2 with ⟨h, h'⟩ | ⟨g, cap, cur, h, _⟩ <;> cases h <;> first | rfl | omega
              have HXF := hid hxF
              have HOF := hid hoF
              have HBF := hid hbF
              clear hI hxF hoF hbF
              by_cases hlj : nF < xf.length
              · obtain ⟨bb, o, rfl, hlb, hcc⟩ := HUR.out.some (by omega)
                have hcz := hcc nF hlj
                have hzu := HUF.out _ (getD_in_f (l := xf) (i := nF) hlj)
                obtain ⟨z, hz⟩ : ∃ z, z = xf.getD nF 0 := ⟨_, rfl⟩
                rw [← hz] at hcz hzu
                have HCS : Hid (∀ wx, Below WY.heap.size WY wx → wx.cell? ⟨g, 1, none⟩ = some (.slice (some ⟨gl, 0, none⟩) ls.length cp0) ∧ wx.cell? ⟨gl, q * 3 + 2, none⟩ = some (.slice (some ⟨bb, o, none⟩) xf.length xc) ∧ wx.cell? ⟨bb, o + nF, none⟩ = some (.int .u64 z)) := fun wx hb =>
                  ⟨(hb.cell (p := ⟨g, 1, none⟩) (cell_lt HD1.out)).trans HD1.out, (hb.cell (p := ⟨gl, q * 3 + 2, none⟩) (cell_lt HD3.out)).trans HD3.out, (hb.cell (p := ⟨bb, o + nF, none⟩) hlb).trans hcz⟩
                have CM : Hid (∀ wx, Below WY.heap.size WY wx → Calls Try.prog 38 #[.pointer (some ⟨g, 0, none⟩), .slice (some ⟨gb, 0, none⟩) ls.length ls.length, .slice (some ⟨W1.heap.size, 0, none⟩) ls.length ls.length, .int .u64 z] wx fun e w' => e = .returned (.int .u64 (movedM os l z)) ∧ Below wx.heap.size wx w') := fun wx hb => by
                  have := rmoved_any l gb W1.heap.size z hzu wx (HHY.out.on hb) hll2 (HBY.out.on hb) (by rw [← HOS.out]; exact HNY.out.on hb)
                  rw [← HOS.out] at this; exact this
                obtain ⟨mv, hmv⟩ : ∃ m, m = movedM os l z := ⟨_, rfl⟩
                rw [← hmv] at CM
                have HMU : Hid (U64 mv) := by unfold Hid; rw [hmv]; exact moved_u64 hzu
                have HMT : Hid ((xf.take (nF + 1)).map (movedM os l) = (xf.take nF).map (movedM os l) ++ [mv]) := by
                  unfold Hid
                  rw [List.take_succ_eq_append_getElem hlj, List.map_append, hmv, hz, List.getD_eq_getElem?_getD, List.getElem?_eq_getElem hlj]; rfl
                obtain ⟨e1, e2, e3⟩ := HCS.out _ HBF.out
                clear hcc hcz hz hzu hmv
                go_wp2_with fail
                clear e1 e2 e3
                refine wp_region_held_drew (S := fun wx => Below WY.heap.size WY wx) (by kernel_rfl) (HBF.out.trans ((Bd wz 1).mono HBF.out.size)) (fun hHeld => ?_)
                refine htake 0 (some 91) (.pointer (some ⟨WY.heap.size, 2, none⟩)) rfl rfl (by kernel_rfl) (by kernel_rfl) (by kernel_rfl) (fun _ _ _ h => h) (Or.inl ⟨by rfl, fun wx hSw => ?_⟩) (by assumption) ?_
                · go_simp
                simp only [Act.put, List.setIfInBounds_toArray, List.set_cons_zero, List.set_cons_succ]
                refine htake 2 (some 93) (.pointer (some ⟨g, 0, none⟩)) rfl rfl (by kernel_rfl) (by kernel_rfl) (by kernel_rfl) (fun _ _ _ h => h) (Or.inl ⟨by rfl, fun wx hSw => ?_⟩) (by assumption) ?_
                · go_simp
                simp only [Act.put, List.setIfInBounds_toArray, List.set_cons_zero, List.set_cons_succ]
                refine htake 3 (some 94) (.slice (some ⟨gb, 0, none⟩) ls.length ls.length) rfl rfl (by kernel_rfl) (by kernel_rfl) (by kernel_rfl) (fun _ _ _ h => h) (Or.inl ⟨by rfl, fun wx hSw => ?_⟩) (by assumption) ?_
                · go_simp
                simp only [Act.put, List.setIfInBounds_toArray, List.set_cons_zero, List.set_cons_succ]
                refine htake 4 (some 95) (.slice (some ⟨W1.heap.size, 0, none⟩) ls.length ls.length) rfl rfl (by kernel_rfl) (by kernel_rfl) (by kernel_rfl) (fun _ _ _ h => h) (Or.inl ⟨by rfl, fun wx hSw => ?_⟩) (by assumption) ?_
                · go_simp
                simp only [Act.put, List.setIfInBounds_toArray, List.set_cons_zero, List.set_cons_succ]
                refine htake 5 (some 96) (.pointer (some ⟨g, 0, none⟩)) rfl rfl (by kernel_rfl) (by kernel_rfl) (by kernel_rfl) (fun _ _ _ h => h) (Or.inl ⟨by rfl, fun wx hSw => ?_⟩) (by assumption) ?_
                · go_simp
                simp only [Act.put, List.setIfInBounds_toArray, List.set_cons_zero, List.set_cons_succ]
                refine htake 6 (some 97) (.pointer (some ⟨g, 0, none⟩)) rfl rfl (by kernel_rfl) (by kernel_rfl) (by kernel_rfl) (fun _ _ _ h => h) (Or.inl ⟨by rfl, fun wx hSw => ?_⟩) (by assumption) ?_
                · go_simp
                simp only [Act.put, List.setIfInBounds_toArray, List.set_cons_zero, List.set_cons_succ]
                refine htake 7 (some 98) (.pointer (some ⟨g, 1, none⟩)) rfl rfl (by kernel_rfl) (by kernel_rfl) (by kernel_rfl) (fun _ _ _ h => h) (Or.inl ⟨by rfl, fun wx hSw => ?_⟩) (by assumption) ?_
                · go_simp
                simp only [Act.put, List.setIfInBounds_toArray, List.set_cons_zero, List.set_cons_succ]
                refine htake 8 (some 99) (.slice (some ⟨gl, 0, none⟩) ls.length cp0) rfl rfl (by kernel_rfl) (by kernel_rfl) (by kernel_rfl) (fun _ _ _ h => h) (Or.inl ⟨by rfl, fun wx hSw => ?_⟩) (by assumption) ?_
                · obtain ⟨s1, s2, s3⟩ := HCS.out wx hSw; go_simp
                simp only [Act.put, List.setIfInBounds_toArray, List.set_cons_zero, List.set_cons_succ]
                refine htake 9 (some 100) (.int .i64 (q : Nat)) rfl rfl (by kernel_rfl) (by kernel_rfl) (by kernel_rfl) (fun _ _ _ h => h) (Or.inl ⟨by rfl, fun wx hSw => ?_⟩) (by assumption) ?_
                · go_simp
                simp only [Act.put, List.setIfInBounds_toArray, List.set_cons_zero, List.set_cons_succ]
                refine htake 10 (some 101) (.pointer (some ⟨gl, q * 3, none⟩)) rfl rfl (by kernel_rfl) (by kernel_rfl) (by kernel_rfl) (fun _ _ _ h => h) (Or.inl ⟨by rfl, fun wx hSw => ?_⟩) (by assumption) ?_
                · go_simp
                simp only [Act.put, List.setIfInBounds_toArray, List.set_cons_zero, List.set_cons_succ]
                refine htake 11 (some 102) (.pointer (some ⟨gl, q * 3 + 2, none⟩)) rfl rfl (by kernel_rfl) (by kernel_rfl) (by kernel_rfl) (fun _ _ _ h => h) (Or.inl ⟨by rfl, fun wx hSw => ?_⟩) (by assumption) ?_
                · go_simp
                simp only [Act.put, List.setIfInBounds_toArray, List.set_cons_zero, List.set_cons_succ]
                refine htake 12 (some 103) (.slice (some ⟨bb, o, none⟩) xf.length xc) rfl rfl (by kernel_rfl) (by kernel_rfl) (by kernel_rfl) (fun _ _ _ h => h) (Or.inl ⟨by rfl, fun wx hSw => ?_⟩) (by assumption) ?_
                · obtain ⟨s1, s2, s3⟩ := HCS.out wx hSw; go_simp
                simp only [Act.put, List.setIfInBounds_toArray, List.set_cons_zero, List.set_cons_succ]
                refine htake 13 (some 104) (.int .i64 (nF : Nat)) rfl rfl (by kernel_rfl) (by kernel_rfl) (by kernel_rfl) (fun _ _ _ h => h) (Or.inl ⟨by rfl, fun wx hSw => ?_⟩) (by assumption) ?_
                · go_simp
                simp only [Act.put, List.setIfInBounds_toArray, List.set_cons_zero, List.set_cons_succ]
                refine htake 14 (some 105) (.pointer (some ⟨bb, o + nF, none⟩)) rfl rfl (by kernel_rfl) (by kernel_rfl) (by kernel_rfl) (fun _ _ _ h => h) (Or.inl ⟨by rfl, fun wx hSw => ?_⟩) (by assumption) ?_
                · go_simp
                simp only [Act.put, List.setIfInBounds_toArray, List.set_cons_zero, List.set_cons_succ]
                refine htake 15 (some 106) (.int .u64 z) rfl rfl (by kernel_rfl) (by kernel_rfl) (by kernel_rfl) (fun _ _ _ h => h) (Or.inl ⟨by rfl, fun wx hSw => ?_⟩) (by assumption) ?_
                · obtain ⟨s1, s2, s3⟩ := HCS.out wx hSw; go_simp
                simp only [Act.put, List.setIfInBounds_toArray, List.set_cons_zero, List.set_cons_succ]
                refine wpAnyH_from Lf Mf (fun a0 s a wx => s.1 ≤ 2 ∧ ∃ t92 t107 t108, a = ((a0.put (some 92) t92).put (some 107) t107).put (some 108) t108 ∧ FSt wz (.slice aF nF cF) mv s.1 s.2 t92 t107 t108 wx) 3 3 (0, false) rfl ?_ ?_
                · exact ⟨by omega, u92, u107, u108, rfl, ⟨Bd wz 1, fun e => (by cases e), fun e => by omega, fun e => by omega⟩⟩
                clear hHeld
                rintro ⟨k, al⟩ a wx ⟨hk4, t92, t107, t108, rfl, hst⟩
                simp only [Act.put, List.setIfInBounds_toArray, List.set_cons_zero, List.set_cons_succ]
                simp only at hst hk4
                have HSt := hid hst
                clear hst
                have HSX : Hid (Below WY.heap.size WY wx) := HBF.out.trans (HSt.out.bel.mono HBF.out.size)
                have hxb := (HSt.out.bel.block WY.heap.size (Array.getElem?_eq_some_iff.1 HXF.out).1).trans HXF.out
                have k2 : wx.cell? ⟨WY.heap.size, 2, none⟩ = some (.slice aF nF cF) := blk_cell hxb 2
                have HXB := hid hxb
                clear hxb
                have hkk : k = 0 ∨ k = 1 ∨ k = 2 := by omega
                rcases hkk with rfl | rfl | rfl <;> cases al
                · refine .inr ⟨[1, 16], by decide, by kernel_rfl, by simp, ?_⟩
                  refine Steps.cons (0, true) rfl rfl rfl (fun K hK => ?_) ?_
                  · go_simp; exact hK.out _ _ HSX.out ⟨by omega, _, t107, t108, rfl, HSt.out.load⟩
                  refine Steps.cons (1, false) rfl rfl rfl (fun K hK => ?_) ?_
                  · go_simp; go_at_call 38; with_reducible refine (CM.out _ HSX.out).mono ?_; rintro e wm ⟨rfl, bm⟩; exact hK.out _ _ (HSX.out.trans (bm.mono HSX.out.size)) ⟨by omega, t92, _, t108, rfl, HSt.out.s1 bm⟩
                  exact Steps.nil
                · refine .inr ⟨[16], by decide, by kernel_rfl, by simp, ?_⟩
                  refine Steps.cons (1, true) rfl rfl rfl (fun K hK => ?_) ?_
                  · go_simp; go_at_call 38; with_reducible refine (CM.out _ HSX.out).mono ?_; rintro e wm ⟨rfl, bm⟩; exact hK.out _ _ (HSX.out.trans (bm.mono HSX.out.size)) ⟨by omega, t92, _, t108, rfl, HSt.out.s1 bm⟩
                  exact Steps.nil
                · refine .inr ⟨[1, 17], by decide, by kernel_rfl, by simp, ?_⟩
                  refine Steps.cons (1, true) rfl rfl rfl (fun K hK => ?_) ?_
                  · go_simp; exact hK.out _ _ HSX.out ⟨by omega, _, t107, t108, rfl, HSt.out.load⟩
                  refine Steps.cons (2, false) rfl rfl rfl (fun K hK => ?_) ?_
                  · obtain rfl := HSt.out.i1 rfl
                    go_simp; exact hK.out _ _ (HSX.out.trans ((Ba wx _).mono HSX.out.size)) ⟨by omega, t92, _, _, rfl, HSt.out.s2⟩
                  exact Steps.nil
                · refine .inr ⟨[17], by decide, by kernel_rfl, by simp, ?_⟩
                  refine Steps.cons (2, true) rfl rfl rfl (fun K hK => ?_) ?_
                  · obtain rfl := HSt.out.i1 rfl
                    go_simp; exact hK.out _ _ (HSX.out.trans ((Ba wx _).mono HSX.out.size)) ⟨by omega, t92, _, _, rfl, HSt.out.s2⟩
                  exact Steps.nil
                · refine .inr ⟨[1], by decide, by kernel_rfl, by simp, ?_⟩
                  refine Steps.cons (2, true) rfl rfl rfl (fun K hK => ?_) ?_
                  · go_simp; exact hK.out _ _ HSX.out ⟨by omega, _, t107, t108, rfl, HSt.out.load⟩
                  exact Steps.nil
                · refine .inl ⟨rfl, ?_⟩
                  obtain ⟨gq, rfl, hgq⟩ := HSt.out.i2 rfl
                  obtain rfl := HSt.out.i0 rfl
                  have HUQ := hid (urow_one hgq HMU.out)
                  have HOX := hid (own_at HOF.out (fun b hb => HSt.out.bel.block b (HOF.out.lt b hb).2))
                  have HSZ : Hid (WY.heap.size + 1 ≤ wx.heap.size) := (Array.getElem?_eq_some_iff.1 HXB.out).1
                  clear k2 hgq
                  refine hone 18 _ rfl (by kernel_rfl) (fun K hK => ?_)
                  refine stepU (some 109) rfl rfl _ _ 27 rfl (WY.heap.size + 1) 46 Try.underlying27 info_word _ nF ((xf.take nF).map (movedM os l)) rfl HOX.out (some ⟨gq, 0, none⟩) 1 1 [mv] rfl HUQ.out (by omega) HSZ.out ?_
                  intro v6 w6 ho hg
                  obtain ⟨a6, n6, c6, rfl⟩ : ∃ a6 n6 c6, v6 = .slice a6 n6 c6 := by rcases ho.2 with ⟨h, _⟩ | ⟨g, cap, cur, h, _⟩ <;> exact ⟨_, _, _, h⟩
                  obtain rfl : n6 = nF + 1 := by rcases ho.2 with ⟨h, h'⟩ | ⟨g, cap, cur, h, _⟩ <;> cases h <;> first | rfl | omega
                  have hx6 : w6.heap[WY.heap.size]? = some (.cells #[.int .i64 (T : Nat), .int .i64 xk, .slice aF nF cF] 52 (0, 0)) := (hg.block WY.heap.size (by have := HSZ.out; omega) (fun e => by have := (HOX.out.lt _ e.symm).1; omega)).trans HXB.out
                  have q1 := blk_free hx6 2
                  have q2 : w6.cell? ⟨WY.heap.size, 2, none⟩ = some (.slice aF nF cF) := blk_cell hx6 2
                  have hS6 : Below WY.heap.size WY w6 := HSX.out.grown hg HSX.out.size (fun k hk => by have := (HOX.out.lt k hk).1; omega)
                  have hS7 : Below WY.heap.size WY (w6.setCell ⟨WY.heap.size, 2, none⟩ (.slice a6 (nF + 1) c6)) := hS6.setCell (p := ⟨WY.heap.size, 2, none⟩) (Nat.le_refl _) _
                  have HX7 : Hid ((w6.setCell ⟨WY.heap.size, 2, none⟩ (.slice a6 (nF + 1) c6)).heap[WY.heap.size]? = some (.cells #[.int .i64 (T : Nat), .int .i64 xk, .slice a6 (nF + 1) c6] 52 (0, 0))) := blk_set (i := 2) hx6 _
                  have HO7 : Hid ((w6.setCell ⟨WY.heap.size, 2, none⟩ (.slice a6 (nF + 1) c6)).ownsRow (WY.heap.size + 1) 46 1 (.slice a6 (nF + 1) c6) (nF + 1) (uz ((xf.take nF).map (movedM os l) ++ [mv]))) := own_at ho (fun b hb => Below.heap_setCell _ _ _ _ (fun e => by
                    subst e
                    have := (ho.lt _ hb).1; simp at this; omega))
                  rw [← HMT.out] at HO7
                  clear ho hg hx6
                  refine hK.out _ _ hS6 (fun hHeld => ?_)
                  clear hK K hHeld
                  try simp only [Act.put, List.setIfInBounds_toArray, List.set_cons_zero, List.set_cons_succ]
                  refine hone 19 _ rfl (by kernel_rfl) (fun K hK => ?_)
                  go_simp
                  refine hK.out _ _ hS6 (fun hHeld => ?_)
                  clear hK K hHeld
                  try simp only [Act.put, List.setIfInBounds_toArray, List.set_cons_zero, List.set_cons_succ]
                  refine hone 20 _ rfl (by kernel_rfl) (fun K hK => ?_)
                  go_simp
                  refine hK.out _ _ hS7 (fun hHeld => ?_)
                  have HS7 := hid hS7
                  clear hK K hHeld q1 q2 hS6 hS7
                  refine wpAnyH_done (by kernel_rfl) ?_ _
                  generalize w6.setCell ⟨WY.heap.size, 2, none⟩ (.slice a6 (nF + 1) c6) = w7 at *
                  go_wp2_with fail
                  exact ⟨⟨nF + 1, by omega, by go_num, _, HX7.out, HO7.out, HS7.out⟩, by simp [intOf] <;> omega⟩
              · obtain rfl : nF = xf.length := by omega
                have HNL : Hid (xf.length = (xf.map (movedM os l)).length) := by unfold Hid; simp
                have HFU : Hid (∀ z ∈ xf.map (movedM os l), U64 z) := fun z hz => by
                  obtain ⟨z', hz', rfl⟩ := List.mem_map.1 hz; exact moved_u64 (HUF.out z' hz')
                have HTU : Hid (usedL (lsT.map Prod.fst) = usedL (keepL (os.take q) (l.take q))) := by unfold Hid; rw [HTM.out, used_map (fun x => by simp [movOb])]
                have HRM2 : Hid ((usedL (lsT.map Prod.fst) : Int) + (1 + ((xf.map (movedM os l)).length : Nat)) ≤ N) := by
                  have h1 := HRM.out
                  rw [HKS.out, usedL_append] at h1
                  simp [usedL] at h1
                  unfold Hid
                  rw [HTU.out, List.length_map]
                  omega
                have hof := HOF.out
                rw [List.take_length] at hof
                have HOF2 := hid hof
                clear hof
                obtain ⟨e1, e2⟩ : _ ∧ _ := ⟨(HBF.out.cell (p := ⟨g, 1, none⟩) (cell_lt HD1.out)).trans HD1.out, (HBF.out.cell (p := ⟨gl, q * 3 + 2, none⟩) (cell_lt HD3.out)).trans HD3.out⟩
                go_wp2_with fail
                clear e1 e2
                have hglt := (HT.out.foot_ge W2.heap.size (.inl rfl)).2
                obtain ⟨tl, ct, rfl⟩ := vl_slice HT.out
                refine wp_region_held_drew (S := fun _ => True) (by kernel_rfl) trivial (fun hHeld => ?_)
                refine htake 0 (some 111) (.pointer (some ⟨W2.heap.size, 0, none⟩)) rfl rfl (by kernel_rfl) (by kernel_rfl) (by kernel_rfl) (fun _ _ _ h => h) (Or.inl ⟨by rfl, fun wx hSw => ?_⟩) (by assumption) ?_
                · go_simp
                simp only [Act.put, List.setIfInBounds_toArray, List.set_cons_zero, List.set_cons_succ]
                refine htake 1 (some 112) (.pointer (some ⟨W2.heap.size, 0, none⟩)) rfl rfl (by kernel_rfl) (by kernel_rfl) (by kernel_rfl) (fun _ _ _ h => h) (Or.inl ⟨by rfl, fun wx hSw => ?_⟩) (by assumption) ?_
                · go_simp
                simp only [Act.put, List.setIfInBounds_toArray, List.set_cons_zero, List.set_cons_succ]
                refine htake 2 (some 113) (.pointer (some ⟨W2.heap.size, 0, none⟩)) rfl rfl (by kernel_rfl) (by kernel_rfl) (by kernel_rfl) (fun _ _ _ h => h) (Or.inl ⟨by rfl, fun wx hSw => ?_⟩) (by assumption) ?_
                · go_simp
                simp only [Act.put, List.setIfInBounds_toArray, List.set_cons_zero, List.set_cons_succ]
                refine htake 3 (some 114) (.pointer (some ⟨W2.heap.size, 1, none⟩)) rfl rfl (by kernel_rfl) (by kernel_rfl) (by kernel_rfl) (fun _ _ _ h => h) (Or.inl ⟨by rfl, fun wx hSw => ?_⟩) (by assumption) ?_
                · go_simp
                simp only [Act.put, List.setIfInBounds_toArray, List.set_cons_zero, List.set_cons_succ]
                have hlT : lsT.length ≤ 1099511627776 := by
                  have h1 := HT.out.room
                  have h2 := len_le_used (lsT.map Prod.fst)
                  rw [List.length_map] at h2
                  omega
                refine wpAnyH_from Lt Mt (fun a0 s a wx => s.1 ≤ 2 ∧ ∃ t37 t38 t39, a = ((a0.put (some 115) t37).put (some 116) t38).put (some 117) t39 ∧ TSt wz (.slice tl lsT.length ct) #[.int .i64 (T : Nat), .int .i64 xk, .slice aF xf.length cF] s.1 s.2 t37 t38 t39 wx) 4 3 (0, false) rfl ?_ ?_
                · exact ⟨by omega, u115, u116, u117, rfl, ⟨Bd wz 1, fun e => (by cases e), fun e => by omega, fun e => by omega⟩⟩
                clear hHeld
                rintro ⟨k, al⟩ a wx ⟨hk4, t37, t38, t39, rfl, hst⟩
                simp only [Act.put, List.setIfInBounds_toArray, List.set_cons_zero, List.set_cons_succ]
                simp only at hst hk4
                have HSt := hid hst
                clear hst
                have HBX := hid (HBF.out.trans (HSt.out.bel.mono HBF.out.size))
                have cg1 : wx.cell? ⟨W2.heap.size, 1, none⟩ = some (.slice tl lsT.length ct) := blk_cell ((HBX.out.block W2.heap.size hglt).trans HT.out.box) 1
                have hxb := (HSt.out.bel.block WY.heap.size (Array.getElem?_eq_some_iff.1 HXF.out).1).trans HXF.out
                have k0 : wx.cell? ⟨WY.heap.size, 0, none⟩ = some (.int .i64 (T : Nat)) := blk_cell hxb 0
                have k1 : wx.cell? ⟨WY.heap.size, 1, none⟩ = some (.int .i64 xk) := blk_cell hxb 1
                have k2 : wx.cell? ⟨WY.heap.size, 2, none⟩ = some (.slice aF xf.length cF) := blk_cell hxb 2
                clear hxb
                have hkk : k = 0 ∨ k = 1 ∨ k = 2 := by omega
                rcases hkk with rfl | rfl | rfl <;> cases al
                · refine .inr ⟨[4, 5], by decide, by kernel_rfl, by simp, ?_⟩
                  refine Steps.cons (0, true) rfl rfl rfl (fun K hK => ?_) ?_
                  · go_simp; exact hK.out _ _ trivial ⟨by omega, _, t38, t39, rfl, HSt.out.load⟩
                  refine Steps.cons (1, false) rfl rfl rfl (fun K hK => ?_) ?_
                  · go_simp; exact hK.out _ _ trivial ⟨by omega, t37, _, t39, rfl, HSt.out.s1⟩
                  exact Steps.nil
                · refine .inr ⟨[5], by decide, by kernel_rfl, by simp, ?_⟩
                  refine Steps.cons (1, true) rfl rfl rfl (fun K hK => ?_) ?_
                  · go_simp; exact hK.out _ _ trivial ⟨by omega, t37, _, t39, rfl, HSt.out.s1⟩
                  exact Steps.nil
                · refine .inr ⟨[4, 6], by decide, by kernel_rfl, by simp, ?_⟩
                  refine Steps.cons (1, true) rfl rfl rfl (fun K hK => ?_) ?_
                  · go_simp; exact hK.out _ _ trivial ⟨by omega, _, t38, t39, rfl, HSt.out.load⟩
                  refine Steps.cons (2, false) rfl rfl rfl (fun K hK => ?_) ?_
                  · obtain rfl := HSt.out.i1 rfl
                    go_simp; exact hK.out _ _ trivial ⟨by omega, t37, _, _, rfl, HSt.out.s2⟩
                  exact Steps.nil
                · refine .inr ⟨[6], by decide, by kernel_rfl, by simp, ?_⟩
                  refine Steps.cons (2, true) rfl rfl rfl (fun K hK => ?_) ?_
                  · obtain rfl := HSt.out.i1 rfl
                    go_simp; exact hK.out _ _ trivial ⟨by omega, t37, _, _, rfl, HSt.out.s2⟩
                  exact Steps.nil
                · refine .inr ⟨[4], by decide, by kernel_rfl, by simp, ?_⟩
                  refine Steps.cons (2, true) rfl rfl rfl (fun K hK => ?_) ?_
                  · go_simp; exact hK.out _ _ trivial ⟨by omega, _, t38, t39, rfl, HSt.out.load⟩
                  exact Steps.nil
                · refine .inl ⟨rfl, ?_⟩
                  obtain ⟨gx, rfl, hgx⟩ := HSt.out.i2 rfl
                  obtain rfl := HSt.out.i0 rfl
                  have HGX := hid hgx
                  have HOX := hid (uown_on HT.out.own HBX.out)
                  have HRW := hid (own_weak (own_at HOF2.out (fun b hb => HSt.out.bel.block b (HOF2.out.lt b hb).2)) (Nat.le_succ WY.heap.size))
                  have HSX : Hid (W2.heap.size ≤ wx.heap.size) := Nat.le_trans HB.out.size HBX.out.size
                  clear cg1 k0 k1 k2 hgx
                  refine hone 7 _ rfl (by kernel_rfl) (fun K hK => ?_)
                  refine stepO (some 118) rfl rfl _ _ 42 rfl W2.heap.size 52 Try.underlying42 info_obj _ lsT.length (ocs 0 lsT) rfl HOX.out gx 1 T (⟨xk, xf.map (movedM os l)⟩, aF, xf.length, cF) rfl ?cells hlT HSX.out ?_
                  case cells =>
                    intro j u hj
                    rw [blk_cell HGX.out]
                    simp only [List.getElem?_toArray]
                    exact hj
                  intro g1 cc w6 ho hg hl hlt6
                  rw [HTT.out, ← HTU.out] at ho
                  have HP := hid (HT.out.push HB.out.size HBX.out (by rw [List.length_map]; exact HRW.out) HNL.out ho hg hl HKD.out HFU.out HRM2.out)
                  have q1 := blk_free HP.out.1 1
                  have q2 : w6.cell? ⟨W2.heap.size, 1, none⟩ = some (.slice tl lsT.length ct) := blk_cell HP.out.1 1
                  clear ho hg hl hlt6
                  refine hK.out _ _ trivial (fun hHeld => ?_)
                  clear hK K hHeld
                  try simp only [Act.put, List.setIfInBounds_toArray, List.set_cons_zero, List.set_cons_succ]
                  refine hone 8 _ rfl (by kernel_rfl) (fun K hK => ?_)
                  go_simp
                  refine hK.out _ _ trivial (fun hHeld => ?_)
                  clear hK K hHeld
                  try simp only [Act.put, List.setIfInBounds_toArray, List.set_cons_zero, List.set_cons_succ]
                  refine hone 9 _ rfl (by kernel_rfl) (fun K hK => ?_)
                  go_simp
                  refine hK.out _ _ trivial (fun hHeld => ?_)
                  clear hK K hHeld
                  try simp only [Act.put, List.setIfInBounds_toArray, List.set_cons_zero, List.set_cons_succ]
                  refine hone 10 _ rfl (by kernel_rfl) (fun K hK => ?_)
                  go_simp
                  refine hK.out _ _ trivial (fun hHeld => ?_)
                  clear hK K hHeld q1 q2
                  refine wpAnyH_done (by kernel_rfl) ?_ _
                  obtain ⟨_, p1, p2, p3⟩ := HP.out
                  have P1 := hid p1
                  have P3 := hid (HB.out.trans (p3.below (fun b hb => (HT.out.foot_ge b hb).1) HB.out.size))
                  clear p1 p2 p3 HP
                  generalize w6.setCell ⟨W2.heap.size, 1, none⟩ (.slice (some ⟨g1, 0, none⟩) (lsT.length + 1) cc) = w7 at *
                  go_wp2_with fail
                  exact ⟨⟨q + 1, by omega, by go_num, _, _, P1.out, by rw [List.map_append, HTM.out, HKS.out]; simp [movOb], P3.out⟩, by simp [intOf] <;> omega⟩
        · obtain rfl : q = ls.length := by omega
          obtain ⟨WQ, rfl⟩ : ∃ x, x = wr := ⟨_, rfl⟩
          rw [← hlo, keep_all os l HLv] at HTM
          go_wp2_with fail
          go_loopw [14, 15] (fun r i wy => ∃ k : Nat, k ≤ nr ∧ i = .int .i64 k ∧ Hid (wy.ownsRow WQ.heap.size 46 1 r k (uz ((rs.take k).map (movedM os l))) ∧ Below WQ.heap.size WQ wy)) (fun _ i _ => nr - (intOf i).toNat)
          case atStart => exact ⟨0, Nat.zero_le _, rfl, World.ownsRow_nil _ _ _ _, Below.refl _ _⟩
          case round =>
            obtain ⟨k, hk, rfl, hI⟩ := hrel
            obtain ⟨ho, hb⟩ := hI.out
            obtain ⟨aF, nF, cF, rfl⟩ : ∃ aF nF cF, u14 = .slice aF nF cF := by rcases ho.2 with ⟨h, _⟩ | ⟨g, cap, cur, h, _⟩ <;> exact ⟨_, _, _, h⟩
            obtain rfl : nF = k := by rcases ho.2 with ⟨h, h'⟩ | ⟨g, cap, cur, h, _⟩ <;> cases h <;> first | rfl | omega
            have HOR := hid ho
            have HBQ := hid hb
            clear hI ho hb
            by_cases hlk : nF < nr
            · obtain ⟨bb, o, rfl, hlb, hcc⟩ := HR.out.some (by omega)
              have hcz := hcc nF hlk
              have hzu := HR.out.bd _ (getD_in_f (l := rs) (i := nF) (by omega))
              obtain ⟨z, hz⟩ : ∃ z, z = rs.getD nF 0 := ⟨_, rfl⟩
              rw [← hz] at hcz hzu
              have hcw := (((((HB1.out.cell (p := ⟨bb, o + nF, none⟩) hlb).trans hcz))))
              have h1 := (HB2.out.cell (p := ⟨bb, o + nF, none⟩) (cell_lt hcw)).trans hcw
              have h2 := (HB.out.cell (p := ⟨bb, o + nF, none⟩) (cell_lt h1)).trans h1
              have h3 := (HBQ.out.cell (p := ⟨bb, o + nF, none⟩) (cell_lt h2)).trans h2
              clear hcw h1 h2 hcz hcc
              have CM : Hid (∀ wx, Below WQ.heap.size WQ wx → Calls Try.prog 38 #[.pointer (some ⟨g, 0, none⟩), .slice (some ⟨gb, 0, none⟩) ls.length ls.length, .slice (some ⟨W1.heap.size, 0, none⟩) ls.length ls.length, .int .u64 z] wx fun e w' => e = .returned (.int .u64 (movedM os l z)) ∧ Below wx.heap.size wx w') := fun wx hb => by
                have := rmoved_any l gb W1.heap.size z hzu wx (HHY.out.on hb) hll2 (HBY.out.on hb) (by rw [← HOS.out]; exact HNY.out.on hb)
                rw [← HOS.out] at this; exact this
              obtain ⟨mv, hmv⟩ : ∃ m, m = movedM os l z := ⟨_, rfl⟩
              rw [← hmv] at CM
              have HMU : Hid (U64 mv) := by unfold Hid; rw [hmv]; exact moved_u64 hzu
              have HMT : Hid ((rs.take (nF + 1)).map (movedM os l) = (rs.take nF).map (movedM os l) ++ [mv]) := by
                unfold Hid
                rw [List.take_succ_eq_append_getElem (by omega), List.map_append, hmv, hz, List.getD_eq_getElem?_getD, List.getElem?_eq_getElem (by omega)]; rfl
              clear hz hzu hmv
              go_wp2_with (first
                | (go_at_call 38; (with_reducible refine (CM.out _ HBQ.out).mono ?_); rintro e wm ⟨rfl, bm⟩; have HBM := hid (HBQ.out.trans (bm.mono HBQ.out.size)); have HBN := hid (HBM.out.trans ((Ba wm (.cells #[.int .u64 mv] 46)).mono HBM.out.size)); have HO1 := hid (uown_on (uown_on HOR.out bm) (Ba wm (.cells #[.int .u64 mv] 46))); have HU1 := hid (urow_one (blk_new wm #[.int .u64 mv] 46) HMU.out); clear bm)
                | (at_builtin; refine appU rfl _ _ 27 rfl WQ.heap.size 46 Try.underlying27 info_word _ nF ((rs.take nF).map (movedM os l)) rfl HO1.out (some ⟨wm.heap.size, 0, none⟩) 1 1 [mv] rfl HU1.out (by omega) HBN.out.size ?_; intro v6 w6 ho hg))
              refine ⟨⟨nF + 1, by omega, by go_num, by rw [HMT.out]; exact ho, ?_⟩, by simp [intOf] <;> omega⟩
              exact HBN.out.grown hg HBN.out.size (fun k hk => (HO1.out.lt k hk).1)
            · obtain rfl : nF = nr := by omega
              go_wp2_with fail
              go_ret2
              have ho := HOR.out
              rw [List.take_of_length_le (by omega)] at ho
              have hlm : (rs.map (movedM os l)).length = nF := by rw [List.length_map]; exact hrl
              rw [← hlm] at ho
              obtain ⟨ao, cp, hv, hU⟩ := urow_own ho (fun z hz => by obtain ⟨z', hz', rfl⟩ := List.mem_map.1 hz; exact moved_u64 (HR.out.bd z' hz'))
              rw [hlm] at hv hU
              cases hv
              have hT := HT.out.on HBQ.out
              have hs : w.heap.size ≤ W2.heap.size := Nat.le_trans HB1.out.size HB2.out.size
              refine ⟨_, vT, lsT, aF, cF, rfl, hT.lower hs, HTM.out, hU, fun a ha => ?_, ?_⟩
              · have h1 := (HOR.out.lt a.block (by rw [ha]; rfl)).1
                refine ⟨?_, fun e => ?_⟩
                · have := HB.out.size; omega
                · have := (HT.out.foot_ge _ e).2; omega
              · exact ((Bt HB1.out HB2.out).trans (HB.out.mono hs)).trans (HBQ.out.mono (Nat.le_trans hs HB.out.size))
end Go.Proofs.Ythgkonjglappjaa
