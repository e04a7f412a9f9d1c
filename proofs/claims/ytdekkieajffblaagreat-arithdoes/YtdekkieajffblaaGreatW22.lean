/-
  Walks, of the document's answer: Neg.
-/
import Derived.Test.YtdekkieajffblaaGreatW21
set_option linter.unusedVariables false
set_option linter.unusedSimpArgs false
namespace Go.Proofs.YtdekkieajffblaaGreat
open Go.RowKit

section
variable {P : Program} {w : World} {ops : Array Oper} {o : Oper} {a : Act} {K : Act → World → Prop} {Q : Exit → Act → World → Prop} {E : Prop}

/-- 'append(own, src...)' as a step of a region that draws its order. -/
theorem stepRow (hgd : o.guard = none) (s x : Operand) (t : TypeId) (ho : o.op = .call { callee := .builtin .append, args := #[s, x], argTypes := #[t, t] })
    (base : Nat) (e : TypeId) (k : IntKind) (bytes : Nat) (hby : bytes ≤ 8) (ht : P.underlying t = some (.slice e)) (hi : (P.info? e).map (fun i => (i.zero, i.size, i.bytes)) = some (some (.int k 0), 1, bytes))
    (v : Value) (n : Nat) (l : List Nat) (hs : a.eval s = v) (hown : w.ownsRow base e 1 v n (cs k l))
    (B : Nat) (ao : Option Addr) (m c : Nat) (r : List Nat) (hx : a.eval x = .slice ao m c) (hr : Row k B w ao m c r) (hl : Dg B l) (hsm : n + m ≤ 1000000) (hbase : base ≤ w.heap.size)
    (h : ∀ ao' cap' w', Own k e B base w' ao' (n + m) cap' (l ++ r) → Below base w w' → K (a.put o.dst (.slice ao' (n + m) cap')) w') :
    if Region.wanted o (yielded ops a.tmps) = true then Oper.wp P o a w K Q else E := by
  have hw : Region.wanted o (yielded ops a.tmps) = true := by simp [Region.wanted, hgd]
  rw [if_pos hw]
  obtain ⟨i0, hi0, hz0, hz1, hz2⟩ := info_parts hi
  cases ao with
  | none =>
    have hc := hr.nil_ rfl
    subst hc
    have hm : m = 0 := by have := hr.fits; omega
    subst hm
    have hl2 : r = [] := List.length_eq_zero_iff.1 hr.len
    subst hl2
    have hrun := run_append_owned_none (P := P) (w := w) base t o.type e i0 1 ht hi0 v n (cs k l) hown
    obtain ⟨ao', cap', hv, hO⟩ := own_of hown hl
    subst hv
    unfold Oper.wp
    simp [execOp, ho, resolve, invoke, builtin, hs, hx, hrun, Result.andThen]
    exact h ao' cap' w (by simpa using hO) (Below.refl _ _)
  | some ad =>
    refine wp_append_own w s x t ho base e i0 (.int k 0) 1 bytes ht hi0 hz0 hz1 hz2 rfl (by decide) v n (cs k l) hs hown ad m c (cs k r) hx (by rw [cs_length, hr.len]; omega) ?_ (cs_one k r) (by unfold maxLen; omega) ?_ hbase ?_
    · intro j u hj
      obtain ⟨h1, rfl⟩ := cs_get hj
      obtain ⟨b, o', hao, _, hc⟩ := hr.rd.some (by omega)
      cases hao
      have := hc j h1
      unfold Addr.add
      by_cases hj0 : j = 0
      · subst hj0; simpa using this
      · rw [if_neg hj0]; exact this
    · have : (n + m) * bytes ≤ 1000000 * 8 := Nat.mul_le_mul hsm hby
      omega
    · intro v' w' h1 h2 _
      rw [← cs_append] at h1
      obtain ⟨ao', cap', hv, hO⟩ := own_of h1 (hl.append hr.dg)
      subst hv
      exact h ao' cap' w' hO (bel_of hown hbase h2)
theorem stepRowAt (d : Option Nat) (hd : o.dst = d) (hgd : o.guard = none) (s x : Operand) (t : TypeId) (ho : o.op = .call { callee := .builtin .append, args := #[s, x], argTypes := #[t, t] })
    (base : Nat) (e : TypeId) (k : IntKind) (bytes : Nat) (hby : bytes ≤ 8) (ht : P.underlying t = some (.slice e)) (hi : (P.info? e).map (fun i => (i.zero, i.size, i.bytes)) = some (some (.int k 0), 1, bytes))
    (v : Value) (n : Nat) (l : List Nat) (hs : a.eval s = v) (hown : w.ownsRow base e 1 v n (cs k l))
    (B : Nat) (ao : Option Addr) (m c : Nat) (r : List Nat) (hx : a.eval x = .slice ao m c) (hr : Row k B w ao m c r) (hl : Dg B l) (hsm : n + m ≤ 1000000) (hbase : base ≤ w.heap.size)
    (h : ∀ ao' cap' w', Own k e B base w' ao' (n + m) cap' (l ++ r) → Below base w w' → K (a.put d (.slice ao' (n + m) cap')) w') :
    if Region.wanted o (yielded ops a.tmps) = true then Oper.wp P o a w K Q else E := by
  subst hd
  exact stepRow hgd s x t ho base e k bytes hby ht hi v n l hs hown B ao m c r hx hr hl hsm hbase h
end

section
variable {P : Program} {ops : Array Oper} {Q : Exit → Act → World → Prop} {md : Region.Mode} {S : World → Prop}
/-- 'wpAnyH_take' with the slot named. -/
theorem htake (i : Nat) (d : Option Nat) (v : Value) {oi : Oper} {fuel : Nat} {listed : Array Bool} {a : Act} {w : World} (hi : ops[i]? = some oi) (hd : oi.dst = d)
    (hs : Region.noSelect ops = true) (hf : Region.free md ops listed i = true) (hr : (Region.ready md ops listed).contains i = true)
    (hQ : ∀ c a w, Q (.panic c) (a.put d v) w → Q (.panic c) a w) (hy : YieldsIf P ops S oi v a) (hS : S w)
    (h : wpAnyH P md ops Q S fuel (listed.setIfInBounds i true) (a.put d v) w) : wpAnyH P md ops Q S (fuel + 1) listed a w := by
  subst hd
  exact wpAnyH_take hi hs hf hr hQ hy hS h
/-- The one operation that may come up. -/
theorem hone (i : Nat) (o : Oper) {fuel : Nat} {listed : Array Bool} {a : Act} {w : World} (ho : ops[i]? = some o) (hr : Region.ready md ops listed = [i])
    (h : ∀ K' : Act → World → Prop, Shut (∀ a w, S w → (S w → wpAnyH P md ops Q S fuel (listed.setIfInBounds i true) a w) → K' a w) → if Region.wanted o (yielded ops a.tmps) = true then Oper.wp P o a w K' Q else K' (a.put o.dst undef) w) :
    wpAnyH P md ops Q S (fuel + 1) listed a w := wpAnyH_ready hr (by simp) (AllReadyH.cons ho h AllReadyH.nil)
end

set_option maxHeartbeats 2000000 in
theorem rneg_any (neg : Bool) (ao : Option Addr) (n cap : Nat) (l : List Nat) (w : World) (R : Row .u32 B32 w ao n cap l) (g1 : goodB neg l = true) :
    Calls Tryz.prog 100 #[.agg #[.bool neg, .slice ao n cap]] w fun e w' => ∃ x, e = .returned x ∧ IsInt w' x (- sgn neg (val B32 l)) ∧ Below w.heap.size w w' := by
  have HR := hid R
  have G1 := hid g1
  have hn40 : n ≤ 40 := by rw [← R.len]; exact goodB_len g1
  have hmx := R.most
  have hft := R.fits
  unfold maxLen at hmx
  have HLN := hid R.len
  clear R g1
  go_enter Tryz.func100, Tryz.ntmps100
  go_wp2
  have x1 := (Box.new 40 w neg ao n cap).alloc (.cells #[.bool false, .slice none 0 0] 40)
  have x2 := Box.new 40 (w.alloc (.cells #[.bool neg, .slice ao n cap] 40)) false none 0 0
  rw [size_alloc] at x2
  have b0 := Baa w (.cells #[.bool neg, .slice ao n cap] 40) (.cells #[.bool false, .slice none 0 0] 40)
  generalize hW : ((w.alloc (.cells #[.bool neg, .slice ao n cap] 40)).alloc (.cells #[.bool false, .slice none 0 0] 40)) = W at *
  clear hW
  have RW := hid (HR.out.below b0)
  have HB := hid b0
  have X1 := hid x1
  have X2 := hid x2
  obtain ⟨c10, c11⟩ := x1.c
  clear b0 x1 x2 HR
  have d10 := (cell_old W (.cells #[] 92) w.heap.size 0 X1.out.lt).trans c10
  have d11 := (cell_old W (.cells #[] 92) w.heap.size 1 X1.out.lt).trans c11
  cases neg
  · go_region_held3 (fun wx => wx.cell? ⟨w.heap.size, 0, none⟩ = some (.bool false) ∧ wx.cell? ⟨w.heap.size, 1, none⟩ = some (.slice ao n cap))
      (first | exact ⟨c10, c11⟩ | exact ⟨d10, d11⟩ | exact ⟨p10, p11⟩ | exact keepbs (by assumption) (by omega))
      (first | (refine stepRow rfl _ _ 38 rfl W.heap.size 92 .u32 4 (by decide) Tryz.underlying38 info_u32 _ 0 [] rfl (own0 W.drew .u32 92) B32 ao n cap l rfl (RW.out.below (Bb (Bd W 1) (Ba _ _) (Nat.le_refl _))) (Dg.nil _) (by omega) (by simp) ?_; intro ao' cap' w' hO hb'; have bA := Bb (Bt (Bd W 1) (Ba _ (.cells #[] 92))) hb' (Nat.le_refl _); have y1 := X1.out.on bA; have y2 := X2.out.on bA; obtain ⟨p10, p11⟩ := y1.c; obtain ⟨p20, p21⟩ := y2.c; obtain ⟨f20, f21⟩ := y2.f; have Y2 := hid y2; have HO := hid hO; have HBA := hid bA; clear y1 y2 bA hO hb'))
    have z := Y2.out.set2 (decide (0 < n)) ao' n cap'
    obtain ⟨y0, y1⟩ := z.c
    have ho := HO.out.row
    simp only [Nat.zero_add, List.nil_append] at ho
    have rx := ho.setBox2 Y2.out (decide (0 < n)) (.slice ao' n cap')
    have bF := ((Bt HB.out HBA.out).setCell (p := ⟨w.heap.size + 1, 0, none⟩) (by simp) (.bool (decide (0 < n)))).setCell (p := ⟨w.heap.size + 1, 1, none⟩) (by simp) (.slice ao' n cap')
    rename_i hHeld
    clear hHeld
    go_wp2
    refine bodyPost_ret (v := .agg #[.bool (decide (0 < n)), .slice ao' n cap']) (by simp [results, Tryz.results100, go_sem, y0, y1]) rfl ⟨_, rfl, ⟨(decide (0 < n)), l, ⟨ao', n, cap', rfl, rx⟩, ?_, ?_⟩, bF⟩
    · refine goodB_mk (goodB_tr G1.out) (goodB_len G1.out) fun h => ?_
      rw [HLN.out] at h; simp [h]
    · by_cases h : n = 0
      · have hl : l = [] := List.length_eq_zero_iff.1 (by rw [HLN.out, h])
        subst hl
        simp [sgn, val]
      · have : decide (0 < n) = true := by simp; omega
        rw [this]; simp [sgn]
  · refine wp_region_held_drew (S := fun wx => wx.cell? ⟨w.heap.size, 0, none⟩ = some (.bool true) ∧ wx.cell? ⟨w.heap.size, 1, none⟩ = some (.slice ao n cap)) (by kernel_rfl) ⟨c10, c11⟩ (fun hHeld => ?_)
    refine htake 0 (some 3) (.pointer (some ⟨w.heap.size, 0, none⟩)) rfl rfl (by kernel_rfl) (by kernel_rfl) (by kernel_rfl) (fun _ _ _ h => h) (Or.inl ⟨by rfl, fun wx hSw => ?_⟩) (by assumption) ?_
    · obtain ⟨s0, s1⟩ := hSw
      go_simp
    simp only [Act.put, List.setIfInBounds_toArray, List.set_cons_zero, List.set_cons_succ]
    refine htake 1 (some 4) (.bool true) rfl rfl (by kernel_rfl) (by kernel_rfl) (by kernel_rfl) (fun _ _ _ h => h) (Or.inl ⟨by rfl, fun wx hSw => ?_⟩) (by assumption) ?_
    · obtain ⟨s0, s1⟩ := hSw
      go_simp
    simp only [Act.put, List.setIfInBounds_toArray, List.set_cons_zero, List.set_cons_succ]
    refine htake 2 (some 5) (.bool false) rfl rfl (by kernel_rfl) (by kernel_rfl) (by kernel_rfl) (fun _ _ _ h => h) (Or.inl ⟨by rfl, fun wx hSw => ?_⟩) (by assumption) ?_
    · obtain ⟨s0, s1⟩ := hSw
      go_simp
    simp only [Act.put, List.setIfInBounds_toArray, List.set_cons_zero, List.set_cons_succ]
    refine htake 3 (some 6) (.bool false) rfl rfl (by kernel_rfl) (by kernel_rfl) (by kernel_rfl) (fun _ _ _ h => h) (Or.inl ⟨by rfl, fun wx hSw => ?_⟩) (by assumption) ?_
    · obtain ⟨s0, s1⟩ := hSw
      go_simp
    simp only [Act.put, List.setIfInBounds_toArray, List.set_cons_zero, List.set_cons_succ]
    refine htake 4 (some 7) undef rfl rfl (by kernel_rfl) (by kernel_rfl) (by kernel_rfl) (fun _ _ _ h => h) (Or.inr ⟨by rfl, rfl⟩) (by assumption) ?_
    simp only [Act.put, List.setIfInBounds_toArray, List.set_cons_zero, List.set_cons_succ]
    refine htake 5 (some 8) undef rfl rfl (by kernel_rfl) (by kernel_rfl) (by kernel_rfl) (fun _ _ _ h => h) (Or.inr ⟨by rfl, rfl⟩) (by assumption) ?_
    simp only [Act.put, List.setIfInBounds_toArray, List.set_cons_zero, List.set_cons_succ]
    refine htake 6 (some 9) undef rfl rfl (by kernel_rfl) (by kernel_rfl) (by kernel_rfl) (fun _ _ _ h => h) (Or.inr ⟨by rfl, rfl⟩) (by assumption) ?_
    simp only [Act.put, List.setIfInBounds_toArray, List.set_cons_zero, List.set_cons_succ]
    refine htake 7 (some 10) undef rfl rfl (by kernel_rfl) (by kernel_rfl) (by kernel_rfl) (fun _ _ _ h => h) (Or.inr ⟨by rfl, rfl⟩) (by assumption) ?_
    simp only [Act.put, List.setIfInBounds_toArray, List.set_cons_zero, List.set_cons_succ]
    refine htake 8 (some 11) (.bool false) rfl rfl (by kernel_rfl) (by kernel_rfl) (by kernel_rfl) (fun _ _ _ h => h) (Or.inl ⟨by rfl, fun wx hSw => ?_⟩) (by assumption) ?_
    · obtain ⟨s0, s1⟩ := hSw
      go_simp
    simp only [Act.put, List.setIfInBounds_toArray, List.set_cons_zero, List.set_cons_succ]
    refine htake 10 (some 13) (.pointer (some ⟨w.heap.size, 1, none⟩)) rfl rfl (by kernel_rfl) (by kernel_rfl) (by kernel_rfl) (fun _ _ _ h => h) (Or.inl ⟨by rfl, fun wx hSw => ?_⟩) (by assumption) ?_
    · obtain ⟨s0, s1⟩ := hSw
      go_simp
    simp only [Act.put, List.setIfInBounds_toArray, List.set_cons_zero, List.set_cons_succ]
    refine htake 11 (some 14) (.slice ao n cap) rfl rfl (by kernel_rfl) (by kernel_rfl) (by kernel_rfl) (fun _ _ _ h => h) (Or.inl ⟨by rfl, fun wx hSw => ?_⟩) (by assumption) ?_
    · obtain ⟨s0, s1⟩ := hSw
      go_simp
    simp only [Act.put, List.setIfInBounds_toArray, List.set_cons_zero, List.set_cons_succ]
    refine hone 9 _ rfl (by kernel_rfl) (fun K hK => ?_)
    go_simp
    refine hK.out _ _ ⟨d10, d11⟩ (fun hHeld => ?_)
    clear hK K
    refine hone 12 _ rfl (by kernel_rfl) (fun K hK => ?_)
    refine stepRowAt (some 15) rfl rfl _ _ 38 rfl W.heap.size 92 .u32 4 (by decide) Tryz.underlying38 info_u32 _ 0 [] rfl (own0 W.drew .u32 92) B32 ao n cap l rfl (RW.out.below (Bb (Bd W 1) (Ba _ _) (Nat.le_refl _))) (Dg.nil _) (by omega) (by simp) ?_
    intro ao' cap' w' hO hb'
    have bA := Bb (Bt (Bd W 1) (Ba _ (.cells #[] 92))) hb' (Nat.le_refl _)
    have y1 := X1.out.on bA
    have y2 := X2.out.on bA
    obtain ⟨p10, p11⟩ := y1.c
    obtain ⟨p20, p21⟩ := y2.c
    obtain ⟨f20, f21⟩ := y2.f
    have Y2 := hid y2
    have HO := hid hO
    have HBA := hid bA
    clear y1 y2 bA hO hb'
    refine hK.out _ _ ⟨p10, p11⟩ (fun hHeld => ?_)
    clear hK K
    simp only [Act.put, List.setIfInBounds_toArray, List.set_cons_zero, List.set_cons_succ]
    refine htake 13 (some 16) (.agg #[.bool false, .slice ao' (0 + n) cap']) rfl rfl (by kernel_rfl) (by kernel_rfl) (by kernel_rfl) (fun _ _ _ h => h) (Or.inl ⟨by rfl, fun wx hSw => ?_⟩) (by assumption) ?_
    · obtain ⟨s0, s1⟩ := hSw
      go_simp
    simp only [Act.put, List.setIfInBounds_toArray, List.set_cons_zero, List.set_cons_succ]
    refine hone 14 _ rfl (by kernel_rfl) (fun K hK => ?_)
    go_simp
    refine hK.out _ _ (keepbs hHeld (by omega)) (fun hHeld => ?_)
    clear hK K
    refine wpAnyH_done (by kernel_rfl) ?_ _
    have z := Y2.out.set2 false ao' n cap'
    obtain ⟨y0, y1⟩ := z.c
    have ho := HO.out.row
    simp only [Nat.zero_add, List.nil_append] at ho
    have rx := ho.setBox2 Y2.out false (.slice ao' n cap')
    have bF := ((Bt HB.out HBA.out).setCell (p := ⟨w.heap.size + 1, 0, none⟩) (by simp) (.bool false)).setCell (p := ⟨w.heap.size + 1, 1, none⟩) (by simp) (.slice ao' n cap')
    clear hHeld
    go_wp2
    refine bodyPost_ret (v := .agg #[.bool false, .slice ao' n cap']) (by simp [results, Tryz.results100, go_sem, y0, y1]) rfl ⟨_, rfl, ⟨false, l, ⟨ao', n, cap', rfl, rx⟩, ?_, ?_⟩, bF⟩
    · exact goodB_mk (goodB_tr G1.out) (goodB_len G1.out) fun h => rfl
    · simp [sgn]

end Go.Proofs.YtdekkieajffblaaGreat
