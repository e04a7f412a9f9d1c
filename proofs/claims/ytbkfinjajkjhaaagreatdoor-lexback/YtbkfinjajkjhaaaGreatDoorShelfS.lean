import Derived.Test.YtbkfinjajkjhaaaGreatDoorLM18
import Derived.Shelf.LaysM
import Derived.Shelf.Strconv.Itoa4
import Derived.Shelf.Strconv.Clone
import Derived.Test.YtbkfinjajkjhaaaGreatDoorProg
set_option linter.unusedVariables false
set_option linter.unusedSimpArgs false
set_option maxRecDepth 100000
namespace Go.Proofs.YtbkfinjajkjhaaaGreatDoor
def chS (n : Int) : List Nat := if letB n = true then chL n.toNat else []
def lbS (n : Int) (c : Nat) : List Nat := if 0 <= n /\ n <= 999999999 then lbL n.toNat c else []
def blS (n : Int) : List Nat := if n = 0 then [35, 102] else if n = 1 then [35, 116] else []
def spM (k b : Int) (t : ByteArray) : List Nat :=
 if k = 1 then [40] else if k = 2 then [41] else if k = 3 then [35, 40] else if k = 4 then [35, 117, 56, 40] else if k = 6 then [46] else if k = 7 then [35, 59]
 else if k = 8 then lbS b 61 else if k = 9 then lbS b 35 else if k = 10 then blS b else if k = 12 then chS b else if k = 13 then qt (bs t)
 else if k = 5 \/ k = 11 \/ k = 14 then bs t else []
theorem dec_letB {r : List Nat} (hd : Dg 256 r) : letB ((decN r).1 : Int) = true := by
 have h0 : r.getD 0 0 < 256 := by
  rw [List.getD_eq_getElem?_getD]
  cases h : r[0]? with
  | none => decide
  | some x => exact hd x (List.mem_of_getElem? h)
 have := Lib.decodeN_valid r.length (r.getD 0 0) (r.getD 1 0) (r.getD 2 0) (r.getD 3 0) h0
 unfold decN letB
 simp only [Bool.and_eq_true, Bool.or_eq_true, decide_eq_true_eq]
 omega
theorem letM_letB {t : List Nat} (hd : Dg 256 t) {v : Nat} (h : letM t = some v) : letB (v : Int) = true := by
 unfold letM at h
 split at h
 ·cases h
 ·split at h
  ·cases h
   rw [runeL_dec hd]
   split
   ·decide
   ·exact dec_letB hd
  ·repeat' split at h
   all_goals try (cases h; decide)
   all_goals try (cases h; done)
   unfold numH at h
   split at h
   ·rename_i hh
    cases h
    exact hh.2.2
   ·cases h
theorem charM_letB {r : List Nat} (hd : Dg 256 r) {y : Nat × Nat} (h : charM r = some y) : letB (y.1 : Int) = true := by
 unfold charM at h
 split at h
 ·cases h
 ·obtain ⟨v, hv, rfl⟩ := Option.map_eq_some_iff.1 h
  exact letM_letB ((hd.drop 2).take _) hv
theorem dgA_lt : ∀ (f : Nat) (r : List Nat) (n k j : Nat), n < 10 ^ j -> (dgA f r n k).1 < 10 ^ (j + f)
 | 0, _, _, _, _, h => h
 | f + 1, r, n, k, j, h => by
  unfold dgA
  split
  ·rename_i hh
   have := dgA_lt f (r.drop 1) (10 * n + (r.getD 0 0 - 48)) (k + 1) (j + 1) (by rw [Nat.pow_succ]; omega)
   rw [show j + (f + 1) = j + 1 + f by omega]; exact this
  ·exact Nat.lt_of_lt_of_le h (Nat.pow_le_pow_right (by omega) (by omega))
theorem labM_num {r : List Nat} {y : Nat × Nat × Nat} (h : labM r = some y) : y.2.1 < 1000000000 /\ (y.1 = 8 \/ y.1 = 9) := by
 have hb := dgA_lt 9 (r.drop 1) 0 0 0 (by decide)
 refine ⟨?_, (labM_end h).2⟩
 unfold labM labF at h
 split at h
 ·cases h
 ·split at h
  ·cases h; exact hb
  ·split at h
   ·cases h; exact hb
   ·cases h
theorem hv_lt10 : ∀ (l : List Nat) (a : Nat) (j : Nat), a < 10 ^ j -> (∀ c ∈ l, dgt c < 10) -> l.foldl (fun a c => a * 10 + dgt c) a < 10 ^ (j + l.length)
 | [], a, j, h, _ => h
 | c :: l, a, j, h, hd => by
  have hc := hd c List.mem_cons_self
  rw [List.foldl_cons, List.length_cons, show j + (l.length + 1) = j + 1 + l.length by omega]
  exact hv_lt10 l _ (j + 1) (by rw [Nat.pow_succ]; omega) (fun x hx => hd x (List.mem_cons_of_mem _ hx))
theorem int_len {w : List Nat} (hd : digitsB 10 (cutS w).2 = true) : (radL 10 (cutS w).1 (hv 10 (cutS w).2)).length <= w.length + 1 := by
 unfold digitsB at hd
 simp only [Bool.and_eq_true, decide_eq_true_eq] at hd
 have h1 : ∀ c ∈ (cutS w).2, dgt c < 10 := fun c hc => by
  have := of_decide_eq_true (List.all_eq_true.1 hd.1 c hc)
  omega
 have h2 := hv_lt10 (cutS w).2 0 0 (by decide) h1
 rw [Nat.zero_add] at h2
 have hpos : 0 < (cutS w).2.length := List.length_pos_iff.2 hd.2
 obtain ⟨d, hdl⟩ : ∃ d, (cutS w).2.length = d + 1 := ⟨(cutS w).2.length - 1, by omega⟩
 rw [hdl] at h2
 have h3 := rad_len (b := 10) (by omega) (k := d) (v := hv 10 (cutS w).2) h2
 have h4 := cutS_len w
 rw [rad_neg]
 split
 ·rw [List.length_cons]; omega
 ·omega
structure SpOk (x : Tkn) (n : Nat) : Prop where
 dg : Dg 256 (spM x.1 x.2.1 x.2.2.1)
 vd : Vd (spM x.1 x.2.1 x.2.2.1)
 ne : spM x.1 x.2.1 x.2.2.1 ≠ []
 tk : tkM (spM x.1 x.2.1 x.2.2.1) = some ((x.1, x.2.1, x.2.2.1, (spM x.1 x.2.1 x.2.2.1).length) : Tkn)
 len : (spM x.1 x.2.1 x.2.2.1).length + 1 <= 6 * n
theorem SpOk.low {x : Tkn} {n : Nat} {l : List Nat} (e : spM x.1 x.2.1 x.2.2.1 = l) (hl : ∀ c ∈ l, c < 128) (hne : l ≠ []) (ht : tkM l = some ((x.1, x.2.1, x.2.2.1, l.length) : Tkn)) (hn : l.length + 1 <= 6 * n) : SpOk x n := by
 subst e
 exact ⟨low_dg hl, low_vd hl, hne, ht, hn⟩
theorem take_one {r : List Nat} (hr : r ≠ []) : r.take 1 = [r.getD 0 0] := by
 cases r with
 | nil => exact absurd rfl hr
 | cons c t => rfl
theorem SpOk.src {r : List Nat} {x : Tkn} (hr : r ≠ []) (dr : Dg 256 r) (hv : Vd r) (h : tkM r = some x) (e : spM x.1 x.2.1 x.2.2.1 = r.take x.2.2.2) : SpOk x x.2.2.2 := by
 have hle := tkM_le hr h
 have hl := len_take hle.2
 have hb : Bnd r x.2.2.2 := by
  have := bnd_drop (l := r) (k := 0) (m := x.2.2.2) (Nat.zero_le _) hle.1 (by rw [List.drop_zero]; exact (tkM_end h).2)
  rwa [Nat.zero_add] at this
 have ht := tkM_loc hr (fst_take hle.2) (.inl hl.symm) dr (dr.take _) hv h
 obtain ⟨k, b, t, n⟩ := x
 simp only at *
 refine ⟨by simp only; rw [e]; exact dr.take _, by simp only; rw [e]; exact hv.take _ hle.2 hb, ?_, by simp only; rw [e, hl]; exact ht, by simp only; rw [e, hl]; omega⟩
 simp only
 rw [e]; intro e2; rw [e2] at hl; simp at hl; omega
theorem has_take {r t : List Nat} (h : hasB r t = true) : r.take t.length = t := of_decide_eq_true h
theorem sp_hash {r : List Nat} {x : Tkn} (hr : r ≠ []) (dr : Dg 256 r) (hv : Vd r) (h : tkM r = some x) (h2 : hashM r = some x) : SpOk x x.2.2.2 := by
 have h0 := h2
 unfold hashM at h2
 split at h2
 ·rename_i hh
  cases h2
  exact SpOk.src hr dr hv h (by rw [show r.take 2 = [35, 40] from has_take hh]; rfl)
 ·split at h2
  ·rename_i hh
   cases h2
   exact SpOk.src hr dr hv h (by rw [show r.take 4 = [35, 117, 56, 40] from has_take hh]; rfl)
  ·split at h2
   ·rename_i hh
    cases h2
    exact SpOk.src hr dr hv h (by rw [show r.take 2 = [35, 59] from has_take hh]; rfl)
   ·split at h2
    ·obtain ⟨y, hy, rfl⟩ := Option.map_eq_some_iff.1 h2
     have hl := charM_letB dr hy
     have h9 := chL_len hl
     have hs := (charM_le hy).1
     have e : spM 12 ((y.1 : Nat) : Int) ⟨#[]⟩ = chL y.1 := by
      show chS ((y.1 : Nat) : Int) = _
      unfold chS; rw [if_pos hl, Int.toNat_natCast]
     exact SpOk.low (x := (12, ((y.1 : Nat) : Int), ⟨#[]⟩, y.2)) e chL_low (List.length_pos_iff.1 (by omega)) (tk_char hl) (by show _ <= 6 * y.2; omega)
    ·split at h2
     ·rename_i y hy
      cases h2
      obtain ⟨hn, hk⟩ := labM_num hy
      have hs := (labM_le hy).1
      obtain ⟨k, n, m⟩ := y
      simp only at hn hk hs
      have hlen := rad_len (b := 10) (by omega) (k := 8) (v := n) (by omega)
      have ll : ∀ c, (lbL n c).length = (radL 10 false n).length + 2 := fun c => by unfold lbL; rw [List.length_cons, List.length_append, List.length_singleton]
      have es : ∀ c, lbS ((n : Nat) : Int) c = lbL n c := fun c => by unfold lbS; rw [if_pos (by omega), Int.toNat_natCast]
      rcases hk with rfl | rfl
      ·exact SpOk.low (x := (((8 : Nat) : Int), ((n : Nat) : Int), ⟨#[]⟩, m)) (l := lbL n 61) (es 61) (lbL_low (.inl rfl)) (List.cons_ne_nil _ _) (tk_label hn (.inl ⟨rfl, rfl⟩)) (by rw [ll]; show _ <= 6 * m; omega)
      ·exact SpOk.low (x := (((9 : Nat) : Int), ((n : Nat) : Int), ⟨#[]⟩, m)) (l := lbL n 35) (es 35) (lbL_low (.inr rfl)) (List.cons_ne_nil _ _) (tk_label hn (.inr ⟨rfl, rfl⟩)) (by rw [ll]; show _ <= 6 * m; omega)
     ·obtain ⟨v, hv3, rfl⟩ := Option.map_eq_some_iff.1 h2
      have hl := truthM_len hv3
      rw [List.length_take] at hl
      have h01 : v = 1 \/ v = 0 := by
       unfold truthM at hv3
       split at hv3
       ·cases hv3; exact .inl rfl
       ·split at hv3
        ·cases hv3; exact .inr rfl
        ·cases hv3
      rcases h01 with rfl | rfl
      ·exact SpOk.low (x := (10, 1, ⟨#[]⟩, wordN r)) (l := [35, 116]) rfl (by decide) (by decide) (by kernel_rfl) (by show 3 <= 6 * wordN r; omega)
      ·exact SpOk.low (x := (10, 0, ⟨#[]⟩, wordN r)) (l := [35, 102]) rfl (by decide) (by decide) (by kernel_rfl) (by show 3 <= 6 * wordN r; omega)
theorem sp_other {r : List Nat} {x : Tkn} (hr : r ≠ []) (dr : Dg 256 r) (hV : Vd r) (h : tkM r = some x) (h2 : otherM r = some x) : SpOk x x.2.2.2 := by
 unfold otherM at h2
 split at h2
 ·rename_i hh
  cases h2
  exact SpOk.src hr dr hV h (by rw [hh]; rfl)
 ·split at h2
  ·rename_i hh
   split at h2
   ·cases h2
   ·rename_i hb
    cases h2
    have hl := int_len hh
    have hw := wordN_le r
    rw [len_take hw] at hl
    have h1 := (tkM_le hr h).1
    simp only at h1
    obtain ⟨sg, hsg⟩ : ∃ s, s = (cutS (r.take (wordN r))).1 := ⟨_, rfl⟩
    obtain ⟨v, hvv⟩ : ∃ v, v = hv 10 (cutS (r.take (wordN r))).2 := ⟨_, rfl⟩
    rw [<- hsg, <- hvv] at hl ⊢
    rw [<- hvv] at hb
    have e : spM 11 0 (bstr (radL 10 sg v)) = radL 10 sg v := by
     show bs (bstr (radL 10 sg v)) = _
     exact bs_bstr (low_dg (rad_low sg v))
    have hne : radL 10 sg v ≠ [] := by
     intro e; have := rad_pos 10 v (by omega)
     rw [rad_neg] at e
     split at e
     ·cases e
     ·rw [e] at this; simp at this
    exact SpOk.low (x := (11, 0, bstr (radL 10 sg v), wordN r)) e (rad_low sg v) hne (tk_int (by omega)) (by show _ <= 6 * wordN r; omega)
  ·split at h2
   ·cases h2
    exact SpOk.src hr dr hV h (by
     show bs (bstr (r.take (wordN r))) = r.take (wordN r)
     exact bs_bstr (dr.take _))
   ·cases h2
theorem tk_spelt {r : List Nat} {x : Tkn} (hr : r ≠ []) (dr : Dg 256 r) (hv : Vd r) (h : tkM r = some x) : SpOk x x.2.2.2 := by
 have h0 := h
 unfold tkM at h
 split at h
 ·rename_i c; cases h; exact SpOk.src hr dr hv h0 (by rw [take_one hr, c]; rfl)
 ·split at h
  ·rename_i c; cases h; exact SpOk.src hr dr hv h0 (by rw [take_one hr, c]; rfl)
  ·split at h
   ·split at h
    ·cases h
     exact SpOk.src hr dr hv h0 (by show bs (bstr (r.take 2)) = r.take 2; exact bs_bstr (dr.take _))
    ·cases h
     exact SpOk.src hr dr hv h0 (by show bs (bstr (r.take 1)) = r.take 1; exact bs_bstr (dr.take _))
   ·split at h
    ·obtain ⟨y, hy, rfl⟩ := Option.map_eq_some_iff.1 h
     obtain ⟨I, i1, i2, i3, i4⟩ := text_letters hy
     have hq := qt_vd i1
     rw [<- i2] at hq i4
     have hle := (textM_le hr hy).1
     obtain ⟨T, n⟩ := y
     exact ⟨hq.2, hq.1, by show qt (bs T) ≠ []; exact List.cons_ne_nil _ _, tkq_text i1 i3 i2, by show (qt (bs T)).length + 1 <= 6 * n; simp only at i4 hle; omega⟩
    ·split at h
     ·exact sp_hash hr dr hv h0 h
     ·exact sp_other hr dr hv h0 h
def spell (L : List Ky) : List Nat := L.flatMap (fun y => spM y.1 y.2.1 y.2.2 ++ [32])
theorem spell_cons (y : Ky) (L : List Ky) : spell (y :: L) = spM y.1 y.2.1 y.2.2 ++ 32 :: spell L := by
 unfold spell; rw [List.flatMap_cons, List.append_assoc]; rfl
theorem pre_sp : Pre [32] := by
 obtain ⟨h1, h2⟩ := pre_low (P := [32]) (by decide)
 exact ⟨h1, h2, fun r => gq_blank (List.cons_ne_nil _ _) (by show blkB 32 = true; decide)⟩
theorem sq_spell {r : List Nat} {L : List Ky} (h : Sq r L) : Dg 256 r -> Vd r -> Sq (spell L) L /\ Dg 256 (spell L) /\ Vd (spell L) /\ (spell L).length <= 6 * r.length := by
 induction h with
 | @nil r h => intro _ _; exact ⟨.nil (.nil _), Dg.nil _, .nil, Nat.zero_le _⟩
 | @cons r q x L hg hq hx ht ih =>
  intro hd hv
  have hne : r.drop q ≠ [] := by intro e; have := congrArg List.length e; rw [List.length_drop, List.length_nil] at this; omega
  have hle := tkM_le hne hx
  have hle2 := hle.2
  rw [List.length_drop] at hle2
  have hs := gq_skL hg r 0 (by rw [List.drop_zero]) (Nat.zero_le _) (by rw [Nat.zero_add]; exact tk_ng hne hx)
  rw [Nat.zero_add] at hs
  have hb := skL_bnd (l := r) r.length 0 (by omega) (Nat.zero_le _) (.inl rfl)
  rw [hs] at hb
  have hbe : Bnd r (q + x.2.2.2) := bnd_drop (by omega) hle.1 (tkM_end hx).2
  have hvq := hv.drop q (by omega) hb.1
  have ok := tk_spelt hne (hd.drop q) hvq hx
  obtain ⟨i1, i2, i3, i4⟩ := ih (hd.drop _) (hv.drop _ (by omega) hbe)
  rw [List.length_drop] at i4
  obtain ⟨k, b, t, n⟩ := x
  obtain ⟨o1, o2, o3, o4, o5⟩ := ok
  simp only at o1 o2 o3 o4 o5
  obtain ⟨sp, hsp⟩ : ∃ sp, sp = spM k b t := ⟨_, rfl⟩
  have e : spell (kyT (k, b, t, n) :: L) = sp ++ 32 :: spell L := by rw [spell_cons, hsp]; rfl
  rw [<- hsp] at o1 o2 o3 o4 o5
  have hd32 : Dg 256 (32 :: spell L) := fun c hc => by
   rcases List.mem_cons.1 hc with rfl | hc
   ·decide
   ·exact i2 c hc
  rw [e]
  refine ⟨?_, o1.append hd32, vd_app o2 ((vd_cons (by decide)).2 i3), ?_⟩
  ·have htk : tkM (sp ++ 32 :: spell L) = some ((k, b, t, sp.length) : Tkn) := by
    refine tkM_loc o3 (fst_app (Nat.le_refl _)) (.inr (.inl ?_)) o1 (o1.append hd32) o2 o4
    rw [List.getD_eq_getElem?_getD, List.getElem?_append_right (Nat.le_refl _), Nat.sub_self]; rfl
   refine .cons (q := 0) (x := (k, b, t, sp.length)) (.nil _) (by rw [List.length_append, List.length_cons]; omega) (by rw [List.drop_zero]; exact htk) ?_
   show Sq ((sp ++ 32 :: spell L).drop (0 + sp.length)) L
   rw [Nat.zero_add, List.drop_left]
   exact sq_pre pre_sp i1
  ·rw [List.length_append, List.length_cons]
   simp only at hle2 i4
   omega
end Go.Proofs.YtbkfinjajkjhaaaGreatDoor
namespace Go.Proofs
open Go.Shelf
def Tryz.laysM173_ren : Go.Shelf.Ren := ⟨fun | 173 => 73 | 246 => 94 | 283 => 115 | 284 => 116 | 285 => 117 | 286 => 118 | 129 => 136 | 317 => 135 | 318 => 137 | 319 => 138 | 320 => 139 | 337 => 153 | 338 => 154 | n => n, fun | 2 => 2 | 3 => 3 | 9 => 9 | 4 => 4 | 171 => 122 | 0 => 0 | 53 => 82 | 37 => 22 | 5 => 5 | 173 => 125 | 212 => 142 | 51 => 97 | 20 => 20 | 213 => 143 | 46 => 80 | 232 => 161 | 233 => 162 | n => n, fun | 17 => 4 | 18 => 8 | 19 => 9 | n => n⟩
theorem Tryz.laysM173 : Go.Proofs.LaysM.n173 Tryz.prog Tryz.laysM173_ren := {
 mixed := by kernel_rfl
 f129 := Tryz.func136.trans (congrArg some (by kernel_rfl))
 f173 := Tryz.func73.trans (congrArg some (by kernel_rfl))
 f246 := Tryz.func94.trans (congrArg some (by kernel_rfl))
 f283 := Tryz.func115.trans (congrArg some (by kernel_rfl))
 f284 := Tryz.func116.trans (congrArg some (by kernel_rfl))
 f285 := Tryz.func117.trans (congrArg some (by kernel_rfl))
 f286 := Tryz.func118.trans (congrArg some (by kernel_rfl))
 f317 := Tryz.func135.trans (congrArg some (by kernel_rfl))
 f318 := Tryz.func137.trans (congrArg some (by kernel_rfl))
 f319 := Tryz.func138.trans (congrArg some (by kernel_rfl))
 f320 := Tryz.func139.trans (congrArg some (by kernel_rfl))
 f337 := Tryz.func153.trans (congrArg some (by kernel_rfl))
 f338 := Tryz.func154.trans (congrArg some (by kernel_rfl))
 t0 := Tryz.underlying0
 a0 := Tryz.isAgg0
 z0 := Tryz.sizeOf0
 v0 := Tryz.zeroValue0
 t2 := Tryz.underlying2
 a2 := Tryz.isAgg2
 z2 := Tryz.sizeOf2
 v2 := Tryz.zeroValue2
 t3 := Tryz.underlying3
 a3 := Tryz.isAgg3
 z3 := Tryz.sizeOf3
 v3 := Tryz.zeroValue3
 t4 := Tryz.underlying4
 a4 := Tryz.isAgg4
 z4 := Tryz.sizeOf4
 v4 := Tryz.zeroValue4
 t5 := Tryz.underlying5
 a5 := Tryz.isAgg5
 z5 := Tryz.sizeOf5
 v5 := Tryz.zeroValue5
 t9 := Tryz.underlying9
 a9 := Tryz.isAgg9
 z9 := Tryz.sizeOf9
 v9 := Tryz.zeroValue9
 t20 := Tryz.underlying20
 a20 := Tryz.isAgg20
 z20 := Tryz.sizeOf20
 v20 := Tryz.zeroValue20
 t37 := Tryz.underlying22
 a37 := Tryz.isAgg22
 z37 := Tryz.sizeOf22
 v37 := Tryz.zeroValue22
 t46 := Tryz.underlying80
 a46 := Tryz.isAgg80
 z46 := Tryz.sizeOf80
 v46 := Tryz.zeroValue80
 t51 := Tryz.underlying97
 a51 := Tryz.isAgg97
 z51 := Tryz.sizeOf97
 v51 := Tryz.zeroValue97
 t53 := Tryz.underlying82
 a53 := Tryz.isAgg82
 z53 := Tryz.sizeOf82
 v53 := Tryz.zeroValue82
 t171 := Tryz.underlying122
 a171 := Tryz.isAgg122
 z171 := Tryz.sizeOf122
 v171 := Tryz.zeroValue122
 t173 := Tryz.underlying125
 a173 := Tryz.isAgg125
 z173 := Tryz.sizeOf125
 v173 := Tryz.zeroValue125
 t212 := Tryz.underlying142
 a212 := Tryz.isAgg142
 z212 := Tryz.sizeOf142
 v212 := Tryz.zeroValue142
 t213 := Tryz.underlying143
 a213 := Tryz.isAgg143
 z213 := Tryz.sizeOf143
 t232 := Tryz.underlying161
 a232 := Tryz.isAgg161
 z232 := Tryz.sizeOf161
 v232 := Tryz.zeroValue161
 t233 := Tryz.underlying162
 a233 := Tryz.isAgg162
 z233 := Tryz.sizeOf162
 v233 := Tryz.zeroValue162
 g17 := by kernel_rfl
 g18 := by kernel_rfl
 g19 := by kernel_rfl
 i0 := by kernel_rfl
 i2 := by kernel_rfl
 i3 := by kernel_rfl
 i4 := by kernel_rfl
 i5 := by kernel_rfl
 i9 := by kernel_rfl
 i20 := by kernel_rfl
 i37 := by kernel_rfl
 i46 := by kernel_rfl
 i51 := by kernel_rfl
 i53 := by kernel_rfl
 i171 := by kernel_rfl
 i173 := by kernel_rfl
 i212 := by kernel_rfl
 i232 := by kernel_rfl
 i233 := by kernel_rfl
 m17 := by kernel_rfl
 m18 := by kernel_rfl
 m19 := by kernel_rfl }
end Go.Proofs
