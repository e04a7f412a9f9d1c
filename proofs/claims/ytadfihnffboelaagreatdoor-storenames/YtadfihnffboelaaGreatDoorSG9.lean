/-
  Mathematics: what is shown of what was put, behind a collection.
-/
import Derived.Test.YtadfihnffboelaaGreatDoorSG6
set_option linter.unusedVariables false
set_option linter.unusedSimpArgs false
namespace Go.Proofs.YtadfihnffboelaaGreatDoor
open Go.RowKit

theorem word_nohd (k n : Int) (hk : k ≠ 8) : isHd (wordR k n 0) = false := by
  unfold isHd
  refine decide_eq_false (fun e => ?_)
  cases h : rightB k n 0
  · have e0 : wordR k n 0 = 0 := by unfold wordR; rw [h]; rfl
    rw [e0] at e
    revert e; decide
  · have := (say h hk rfl).1
    unfold nK at this
    rw [this] at e
    exact hk e
theorem plainWd_nohd (ls : List ByteArray) (d : Nd) : isHd (plainWd ls d) = false := by
  unfold plainWd
  repeat' split
  all_goals exact word_nohd _ _ (by decide)
theorem putS_nohd {nm : List ByteArray} {a : Nat} {cs : List Nd} : ∀ q, q ≤ cs.length → ∀ z ∈ (putS nm a (cs.take q)).ws, isHd z = false
  | 0, _ => by simp [putS]
  | q + 1, h => by
    rw [putS_take (by omega)]
    have ih := putS_nohd (nm := nm) (a := a) (cs := cs) q (by omega)
    unfold stepP
    split
    · intro z hz
      rcases List.mem_append.1 hz with hz | hz
      · exact ih z hz
      · obtain rfl := List.mem_singleton.1 hz; exact plainWd_nohd _ _
    · intro z hz
      rcases List.mem_append.1 hz with hz | hz
      · exact ih z hz
      · obtain rfl := List.mem_singleton.1 hz; exact word_nohd _ _ (by decide)
theorem zero_nohd : isHd 0 = false := by decide
theorem getD_nohd {ws : List Int} (h : ∀ z ∈ ws, isHd z = false) (i : Nat) : isHd (ws.getD i 0) = false := by
  by_cases hi : i < ws.length
  · exact h _ (getD_mem_w hi)
  · rw [List.getD_eq_getElem?_getD, List.getElem?_eq_none (by omega)]; exact zero_nohd
theorem fields_nohd (d : Nd) {ws : List Int} (h : ∀ z ∈ ws, isHd z = false) : ∀ z ∈ fieldsL d ws, isHd z = false := by
  intro z hz
  unfold fieldsL at hz
  split at hz
  · unfold bigL at hz
    rcases List.mem_cons.1 hz with rfl | hz
    · exact word_nohd _ _ (by decide)
    · obtain ⟨x, _, rfl⟩ := List.mem_map.1 hz; exact word_nohd _ _ (by decide)
  split at hz
  · obtain ⟨x, _, rfl⟩ := List.mem_map.1 hz; exact word_nohd _ _ (by decide)
  split at hz
  · unfold bytesL at hz
    obtain ⟨x, _, rfl⟩ := List.mem_map.1 hz; exact word_nohd _ _ (by decide)
  · obtain ⟨x, _, rfl⟩ := List.mem_map.1 hz; exact getD_nohd h _
/-- The objects of nodes. -/
def objsOf (ws : List Int) (cs : List Nd) : List Ob := (cs.filter (fun d => decide (0 < sizeN d))).map (fun d => ⟨fieldsK d, fieldsL d ws⟩)
theorem fieldsK_rng (d : Nd) : 1 ≤ fieldsK d ∧ fieldsK d ≤ 5 := by
  unfold fieldsK
  repeat' split
  all_goals omega
theorem objsOf_take {ws : List Int} {cs : List Nd} {q : Nat} (h : q < cs.length) : objsOf ws (cs.take (q + 1)) = objsOf ws (cs.take q) ++ (if 0 < sizeN (cs.getD q default) then [⟨fieldsK (cs.getD q default), fieldsL (cs.getD q default) ws⟩] else []) := by
  have e : cs.getD q default = cs[q] := by rw [List.getD_eq_getElem?_getD, List.getElem?_eq_getElem h]; rfl
  unfold objsOf
  rw [List.take_succ_eq_append_getElem h, List.filter_append, List.map_append, e]
  congr 1
  by_cases hz : 0 < sizeN cs[q]
  · rw [if_pos hz, List.filter_cons_of_pos (by exact decide_eq_true hz)]; rfl
  · rw [if_neg hz, List.filter_cons_of_neg (by rw [decide_eq_false hz]; decide)]; rfl
theorem objsOf_used {ws : List Int} {cs : List Nd} (hs : cs.all (fun d => decide (0 ≤ sizeN d)) = true) : ∀ q, q ≤ cs.length → ((usedL (objsOf ws (cs.take q)) : Nat) : Int) = sumN (cs.take q)
  | 0, _ => by simp [objsOf, usedL, sumN]
  | q + 1, h => by
    have hq : q < cs.length := by omega
    have ih := objsOf_used (ws := ws) hs q (by omega)
    have hm : cs.getD q default ∈ cs := by rw [List.getD_eq_getElem?_getD, List.getElem?_eq_getElem hq]; exact List.getElem_mem _
    have h0 := of_decide_eq_true (List.all_eq_true.1 hs _ hm)
    rw [objsOf_take hq, sumN_take hq, usedL_append]
    by_cases hz : 0 < sizeN (cs.getD q default)
    · have := fieldsL_len (ws := ws) hz
      rw [if_pos hz]
      show ((usedL (objsOf ws (cs.take q)) + (1 + (fieldsL (cs.getD q default) ws).length + 0) : Nat) : Int) = _
      omega
    · rw [if_neg hz]
      show ((usedL (objsOf ws (cs.take q)) + 0 : Nat) : Int) = _
      omega
/-- Where there is room all of them are laid. -/
theorem putO_is {N : Int} {os : List Ob} {ws : List Int} {cs : List Nd} (hw : ∀ z ∈ ws, isHd z = false) (hs : cs.all (fun d => decide (0 ≤ sizeN d)) = true) (hr : ((usedL os : Nat) : Int) + sumN cs ≤ N) : ∀ q, q ≤ cs.length → putO N ws os (cs.take q) = os ++ objsOf ws (cs.take q)
  | 0, _ => by simp [putO, objsOf]
  | q + 1, h => by
    have hq : q < cs.length := by omega
    have ih := putO_is (N := N) (os := os) hw hs hr q (by omega)
    have hu := objsOf_used (ws := ws) hs q (by omega)
    have hsum := sumN_le hs (q + 1)
    rw [sumN_take hq] at hsum
    rw [putO_take hq, objsOf_take hq, ih]
    by_cases hz : 0 < sizeN (cs.getD q default)
    · rw [if_pos hz, if_pos hz]
      have hk := fieldsK_rng (cs.getD q default)
      have hl := fieldsL_len (ws := ws) hz
      have hany : (fieldsL (cs.getD q default) ws).any isHd = false := by
        rw [List.any_eq_false]
        intro z hz'
        rw [fields_nohd _ hw z hz']; decide
      have hal : (allocM (os ++ objsOf ws (cs.take q)) N (fieldsK (cs.getD q default)) (fieldsL (cs.getD q default) ws)).2 = 0 := by
        unfold allocM
        rw [if_neg (by omega), hany, if_neg (by decide), if_neg (by rw [usedL_append]; omega)]
      unfold allocO
      rw [if_pos hal, List.append_assoc]
    · rw [if_neg hz, if_neg hz, List.append_nil]
section
variable {N : Int} {os : List Ob} {nm : List ByteArray} {cs : List Nd}
/-- What is known of a graph that is put. -/
structure PutOk (N : Int) (os : List Ob) (nm : List ByteArray) (cs : List Nd) : Prop where
  nd : ∀ d ∈ cs, nodeB cs.length d = true
  cn : ∀ d ∈ cs, CNd d
  sz : cs.all (fun d => decide (0 ≤ sizeN d)) = true
  room : ((usedL os : Nat) : Int) + sumN cs ≤ N
  most : N ≤ 4194304
  nms : nm.length + cs.length ≤ 1000000000
theorem PutOk.objs (h : PutOk N os nm cs) : putO N (putS nm (usedL os) cs).ws os cs = os ++ objsOf (putS nm (usedL os) cs).ws cs := by
  have hw := putS_nohd (nm := nm) (a := usedL os) (cs := cs) cs.length (Nat.le_refl _)
  rw [List.take_length] at hw
  have := putO_is (N := N) (os := os) hw h.sz h.room cs.length (Nat.le_refl _)
  rw [List.take_length] at this
  exact this
theorem PutOk.used (h : PutOk N os nm cs) : ((usedL (os ++ objsOf (putS nm (usedL os) cs).ws cs) : Nat) : Int) = (usedL os : Nat) + sumN cs ∧ usedL (os ++ objsOf (putS nm (usedL os) cs).ws cs) ≤ 4194304 := by
  have := objsOf_used (ws := (putS nm (usedL os) cs).ws) h.sz cs.length (Nat.le_refl _)
  rw [List.take_length] at this
  have hr := h.room
  have hm := h.most
  rw [usedL_append]
  omega
/-- Where the object of a node lies. -/
theorem PutOk.place (h : PutOk N os nm cs) {i : Nat} (hi : i < cs.length) (hz : 0 < sizeN (cs.getD i default)) :
    ∃ k, findM (os ++ objsOf (putS nm (usedL os) cs).ws cs) ((putS nm (usedL os) cs).ws.getD i 0) = some k ∧ (os ++ objsOf (putS nm (usedL os) cs).ws cs).getD k default = ⟨fieldsK (cs.getD i default), fieldsL (cs.getD i default) (putS nm (usedL os) cs).ws⟩ ∧ (putS nm (usedL os) cs).ws.getD i 0 = wordR 2 ((putS nm (usedL os) (cs.take i)).at_ : Nat) 0 ∧ ((putS nm (usedL os) (cs.take i)).at_ : Int) = (usedL os : Nat) + sumN (cs.take i) ∧ k = (os ++ objsOf (putS nm (usedL os) cs).ws (cs.take i)).length := by
  have hu := h.used.2
  have hw := putS_word (nm := nm) (a := usedL os) hi
  rw [if_neg (by omega)] at hw
  have hat := putS_at (nm := nm) (a := usedL os) h.sz i (by omega)
  generalize hws : (putS nm (usedL os) cs).ws = ws at *
  have hou := objsOf_used (ws := ws) h.sz i (by omega)
  have hsplit : ∃ rest, objsOf ws cs = objsOf ws (cs.take i) ++ (⟨fieldsK (cs.getD i default), fieldsL (cs.getD i default) ws⟩ :: rest) := by
    have e1 : cs = cs.take (i + 1) ++ cs.drop (i + 1) := (List.take_append_drop _ _).symm
    refine ⟨objsOf ws (cs.drop (i + 1)), ?_⟩
    conv => lhs; rw [e1]
    have e2 : ∀ x y : List Nd, objsOf ws (x ++ y) = objsOf ws x ++ objsOf ws y := fun x y => by unfold objsOf; rw [List.filter_append, List.map_append]
    rw [e2, objsOf_take hi, if_pos hz, List.append_assoc]; rfl
  obtain ⟨rest, hsp⟩ := hsplit
  have hk : (os ++ objsOf ws (cs.take i)).length < (os ++ objsOf ws cs).length := by
    rw [hsp, ← List.append_assoc]; simp
  have hatk : atO (os ++ objsOf ws cs) (os ++ objsOf ws (cs.take i)).length = (putS nm (usedL os) (cs.take i)).at_ := by
    unfold atO
    rw [hsp, ← List.append_assoc, List.take_left, usedL_append]
    omega
  refine ⟨(os ++ objsOf ws (cs.take i)).length, ?_, ?_, hw, hat, rfl⟩
  · rw [hw, ← hatk]
    exact find_ptr hk (by omega)
  · rw [hsp, ← List.append_assoc, List.getD_eq_getElem?_getD, List.getElem?_append_right (Nat.le_refl _), Nat.sub_self]; rfl
/-- What was put is told. -/
theorem PutOk.told (h : PutOk N os nm cs) {i : Nat} (hi : i < cs.length) :
    wordD (os ++ objsOf (putS nm (usedL os) cs).ws cs) (putS nm (usedL os) cs).nm ((putS nm (usedL os) cs).ws.getD i 0) = { cs.getD i default with kids := (cs.getD i default).kids.map (fun k => (putS nm (usedL os) cs).ws.getD k.toNat 0) } := by
  have hm : cs.getD i default ∈ cs := by rw [List.getD_eq_getElem?_getD, List.getElem?_eq_getElem hi]; exact List.getElem_mem _
  have hnd := h.nd _ hm
  have hcn := h.cn _ hm
  have h0 := of_decide_eq_true (List.all_eq_true.1 h.sz _ hm)
  by_cases hz : 0 < sizeN (cs.getD i default)
  · obtain ⟨k, hf, hg, _⟩ := h.place hi hz
    unfold wordD
    rw [hf]
    simp only [hg]
    exact told_obj hnd hz _ _ _
  · have hz0 : sizeN (cs.getD i default) = 0 := by omega
    have hw := putS_word (nm := nm) (a := usedL os) hi
    rw [if_pos hz0] at hw
    rw [hw]
    have hpre : plainN (putS nm (usedL os) (cs.take i)).nm (cs.getD i default) <+: (putS nm (usedL os) cs).nm := by
      have h1 := putS_pre (nm := nm) (a := usedL os) (cs := cs) (q := i + 1) (p := cs.length) (by omega) (Nat.le_refl _)
      rw [List.take_length, putS_take hi] at h1
      unfold stepP at h1
      rw [if_pos hz0] at h1
      exact h1
    have hlen : (putS nm (usedL os) cs).nm.length ≤ 1000000000 := by
      have := putS_nm (nm := nm) (a := usedL os) (cs := cs) cs.length (Nat.le_refl _)
      rw [List.take_length] at this
      have := h.nms
      omega
    rw [told_plain hnd hcn hz0 _ hpre hlen]
    obtain ⟨_, _, _, _, h5, _⟩ := node_parts hnd
    have hk : (cs.getD i default).kids = [] := by
      rcases size_zero hcn hz0 with e | e | e | e | e | e | ⟨e, _⟩ <;> rw [e] at h5 <;> exact no_kids h5 (by decide) (by decide) (by decide) (by decide) (by decide)
    exact nd_ext rfl rfl rfl (by rw [hk]; rfl)
theorem plain_kind (ls : List ByteArray) (d : Nd) (hk : d.kind = 1 ∨ d.kind = 2 ∨ d.kind = 4 ∨ d.kind = 6 ∨ d.kind = 10 ∨ d.kind = 11 ∨ d.kind = 3) : nK (plainWd ls d) ≠ 2 := by
  have key : ∀ k n : Int, k ≠ 8 → k ≠ 2 → nK (wordR k n 0) ≠ 2 := fun k n h8 h2 => by
    cases h : rightB k n 0
    · have e0 : wordR k n 0 = 0 := by unfold wordR; rw [h]; rfl
      rw [e0]; exact nK_zero
    · rw [(say h h8 rfl).1]; exact h2
  unfold plainWd
  repeat' split
  all_goals exact key _ _ (by decide) (by decide)
/-- Of things that are no atoms no two have one word. -/
theorem PutOk.apart (h : PutOk N os nm cs) {i j : Nat} (hi : i < cs.length) (hj : j < cs.length) (e : (putS nm (usedL os) cs).ws.getD i 0 = (putS nm (usedL os) cs).ws.getD j 0) : i = j ∨ atomB (cs.getD i default).kind = true := by
  have mem : ∀ {i}, i < cs.length → cs.getD i default ∈ cs := fun {i} hi => by rw [List.getD_eq_getElem?_getD, List.getElem?_eq_getElem hi]; exact List.getElem_mem _
  have pos : ∀ {i}, i < cs.length → 0 ≤ sizeN (cs.getD i default) := fun {i} hi => of_decide_eq_true (List.all_eq_true.1 h.sz _ (mem hi))
  have kin : ∀ {i}, i < cs.length → sizeN (cs.getD i default) = 0 → (cs.getD i default).kind = 1 ∨ (cs.getD i default).kind = 2 ∨ (cs.getD i default).kind = 4 ∨ (cs.getD i default).kind = 6 ∨ (cs.getD i default).kind = 10 ∨ (cs.getD i default).kind = 11 ∨ (cs.getD i default).kind = 3 := fun {i} hi hz => by
    rcases size_zero (h.cn _ (mem hi)) hz with e | e | e | e | e | e | ⟨e, _⟩ <;> omega
  by_cases hzi : sizeN (cs.getD i default) = 0
  · right
    unfold atomB
    rcases kin hi hzi with e | e | e | e | e | e | e <;> rw [e] <;> decide
  · left
    have hpi := pos hi
    obtain ⟨k, hf, _, hwi, hai, _⟩ := h.place hi (by omega)
    by_cases hzj : sizeN (cs.getD j default) = 0
    · have hwj := putS_word (nm := nm) (a := usedL os) hj
      rw [if_pos hzj] at hwj
      have := find_place hf
      rw [e, hwj] at this
      exact absurd this (plain_kind _ _ (kin hj hzj))
    · have hpj := pos hj
      obtain ⟨k', hf', _, hwj, haj, _⟩ := h.place hj (by omega)
      have s1 := sumN_le h.sz i
      have s2 := sumN_le h.sz j
      have hm := h.most
      have hr := h.room
      rw [hwi, hwj] at e
      have e2 : ((putS nm (usedL os) (cs.take i)).at_ : Int) = ((putS nm (usedL os) (cs.take j)).at_ : Int) := by
        have a1 := (say2 (n := (putS nm (usedL os) (cs.take i)).at_) (by omega)).2
        have a2 := (say2 (n := (putS nm (usedL os) (cs.take j)).at_) (by omega)).2
        rw [e] at a1
        exact a1.symm.trans a2
      have mono : ∀ p q : Nat, p < q → q ≤ cs.length → 0 < sizeN (cs.getD p default) → sumN (cs.take p) < sumN (cs.take q) := fun p q hpq hq hz => by
        have e1 : cs.take q = cs.take (p + 1) ++ (cs.take q).drop (p + 1) := by
          conv => lhs; rw [← List.take_append_drop (p + 1) (cs.take q)]
          rw [List.take_take, Nat.min_eq_left (by omega)]
        rw [e1, sumN_app, sumN_take (by omega)]
        have : 0 ≤ sumN ((cs.take q).drop (p + 1)) := sumN_nonneg (fun d hd => of_decide_eq_true (List.all_eq_true.1 h.sz _ (List.mem_of_mem_take (List.mem_of_mem_drop hd))))
        omega
      rcases Nat.lt_trichotomy i j with hlt | hlt | hlt
      · have := mono i j hlt (by omega) (by omega); omega
      · exact hlt
      · have := mono j i hlt (by omega) (by omega); omega
end
end Go.Proofs.YtadfihnffboelaaGreatDoor

set_option linter.unusedVariables false
set_option linter.unusedSimpArgs false
namespace Go.Proofs.YtadfihnffboelaaGreatDoor
open Go.RowKit

/-- Each word once. -/
def dd : List Int → List Int
  | [] => []
  | x :: l => if x ∈ l then dd l else x :: dd l
theorem mem_dd : ∀ {l : List Int} {x : Int}, x ∈ dd l ↔ x ∈ l
  | [], x => Iff.rfl
  | y :: l, x => by
    unfold dd
    by_cases h : y ∈ l
    · rw [if_pos h, mem_dd, List.mem_cons]
      constructor
      · exact .inr
      · rintro (rfl | e)
        · exact h
        · exact e
    · rw [if_neg h, List.mem_cons, List.mem_cons, mem_dd]
theorem nodup_dd : ∀ (l : List Int), (dd l).Nodup
  | [] => List.nodup_nil
  | y :: l => by
    unfold dd
    by_cases h : y ∈ l
    · rw [if_pos h]; exact nodup_dd l
    · rw [if_neg h]; exact List.nodup_cons.2 ⟨fun e => h (mem_dd.1 e), nodup_dd l⟩
theorem ok_kids {d : Nd} (h : okD d = true) (ha : atomB d.kind = true) : d.kids = [] := by
  unfold okD at h
  rw [Bool.and_eq_true] at h
  have hk : d.kind = 1 ∨ d.kind = 2 ∨ d.kind = 3 ∨ d.kind = 4 ∨ d.kind = 6 ∨ d.kind = 10 ∨ d.kind = 11 := by
    unfold atomB at ha
    simp only [Bool.or_eq_true, decide_eq_true_eq] at ha
    omega
  refine no_kids h.2 ?_ ?_ ?_ ?_ ?_ <;> omega
section
variable {D Dc : Int → Nd} {roots rootsc W Wc rs rc : List Int} {ns nc : List Nd} {ψ : Int → Int} {f : Nat}
/-- Two graphs that tell the same, each in its own way, have one order. -/
theorem told_two (T : Told D roots W ns rs) (Tc : Told Dc rootsc Wc nc rc) (hr : roots = rootsc.map ψ) (hok : ∀ x, okD (D x) = true)
    (hψ : ∀ x, Rch Dc rootsc x → sameA (D (ψ x)) (Dc x) ∧ (D (ψ x)).kids = (Dc x).kids.map ψ)
    (hi : ∀ x y, Rch Dc rootsc x → Rch Dc rootsc y → ψ x = ψ y → x = y ∨ atomB (Dc x).kind = true)
    (hb : ∀ x, Rch Dc rootsc x → atomB (Dc x).kind = true → (Dc x).kids = []) (F : Fine ns rs f) (Fc : Fine nc rc f) : canonG ns rs f = canonG nc rc f := by
  have hin : ∀ i, i < ns.length → W.getD i 0 ∈ W := fun i hi => getD_mem_w (by rw [T.len]; exact hi)
  have hc : ∀ x ∈ dd W, ∀ y ∈ (D x).kids, y ∈ dd W := fun x hx y hy => by
    obtain ⟨i, hi, rfl⟩ := mem_getD_w (mem_dd.1 hx)
    rw [T.len] at hi
    rw [← T.kids i hi] at hy
    obtain ⟨k, hk, rfl⟩ := List.mem_map.1 hy
    have := T.kr i hi k hk
    exact mem_dd.2 (hin _ (by omega))
  have hrt : ∀ x ∈ roots, x ∈ dd W := fun x hx => by
    rw [← T.rts] at hx
    obtain ⟨k, hk, rfl⟩ := List.mem_map.1 hx
    have := T.rr k hk
    exact mem_dd.2 (hin _ (by omega))
  have TM := told_mk (D := D) (roots := roots) (nodup_dd W) hc hrt
  have hg := TM.good (fun x _ => hok x)
  have hn := mk_nodup (D := D) (nodup_dd W)
  have e1 : canonG (mkG D (dd W)) (roots.map (fun y => (((dd W).idxOf y : Nat) : Int))) f = canonG ns rs f := by
    have TM' : Told D (roots.map id) (dd W) (mkG D (dd W)) (roots.map (fun y => (((dd W).idxOf y : Nat) : Int))) := by rw [List.map_id]; exact TM
    exact told_canon T TM' hn (fun x _ => ⟨⟨rfl, rfl, rfl⟩, (List.map_id _).symm⟩) (fun x y _ _ e => .inl e) (fun x _ ha => ok_kids (hok x) ha) F hg
  have e2 : canonG (mkG D (dd W)) (roots.map (fun y => (((dd W).idxOf y : Nat) : Int))) f = canonG nc rc f := by
    rw [hr] at TM hg ⊢
    exact told_canon Tc TM hn hψ hi hb Fc hg
  rw [← e1, e2]
end
/-- A graph tells itself. -/
theorem told_self {ns : List Nd} {rs : List Int} (h : goodG ns rs = true) : Told (fun i => ns.getD i.toNat default) rs ((List.range ns.length).map (fun n : Nat => (n : Int))) ns rs := by
  have hW : ∀ i, i < ns.length → ((List.range ns.length).map (fun n : Nat => (n : Int))).getD i 0 = (i : Int) := fun i hi => by
    rw [List.getD_eq_getElem?_getD, List.getElem?_map, List.getElem?_range hi]; rfl
  obtain ⟨hk, hr⟩ := goodG_parts h
  have hid : ∀ l : List Int, (∀ k ∈ l, 0 ≤ k ∧ k < ns.length) → l.map (fun k => ((List.range ns.length).map (fun n : Nat => (n : Int))).getD k.toNat 0) = l := fun l hl => by
    conv => rhs; rw [← List.map_id l]
    refine List.map_congr_left (fun k hk => ?_)
    have := hl k hk
    rw [hW _ (by omega)]
    show (k.toNat : Int) = k
    omega
  have hkr : ∀ i, i < ns.length → ∀ k ∈ (ns.getD i default).kids, 0 ≤ k ∧ k < ns.length := fun i hi => by
    have hm : ns.getD i default ∈ ns := by rw [List.getD_eq_getElem?_getD, List.getElem?_eq_getElem hi]; exact List.getElem_mem _
    exact places_rng (nodeB_parts (goodG_nodes h _ hm)).2
  refine ⟨by simp, fun i hi => ?_, fun i hi => ?_, hkr, hid rs (places_rng hr), places_rng hr, fun i j hi hj e => .inl ?_⟩
  · rw [hW i hi]; exact ⟨rfl, rfl, rfl⟩
  · rw [hW i hi, hid _ (hkr i hi)]; rfl
  · rw [hW i hi, hW j hj] at e; omega
/-- What is met in a graph are its nodes. -/
theorem rch_self {ns : List Nd} {rs : List Int} (h : goodG ns rs = true) {x : Int} (hx : Rch (fun i => ns.getD i.toNat default) rs x) : 0 ≤ x ∧ x < ns.length := by
  obtain ⟨hk, hr⟩ := goodG_parts h
  induction hx with
  | root hm => exact places_rng hr _ hm
  | @kid x y _ hy ih =>
    have hm : ns.getD x.toNat default ∈ ns := by rw [List.getD_eq_getElem?_getD, List.getElem?_eq_getElem (by omega)]; exact List.getElem_mem _
    exact places_rng (nodeB_parts (goodG_nodes h _ hm)).2 y hy
theorem good_bare {ns : List Nd} {rs : List Int} (h : goodG ns rs = true) {x : Int} (hx : 0 ≤ x ∧ x < ns.length) (ha : atomB (ns.getD x.toNat default).kind = true) : (ns.getD x.toNat default).kids = [] := by
  have hm : ns.getD x.toNat default ∈ ns := by rw [List.getD_eq_getElem?_getD, List.getElem?_eq_getElem (by omega)]; exact List.getElem_mem _
  exact goodG_bare h _ hm ha
section
variable {N : Int} {os : List Ob} {nm : List ByteArray} {cs ns : List Nd} {crs rs W : List Int} {f : Nat}
/-- What is shown of what was put is the graph. -/
theorem show_put (h : PutOk N os nm cs) (hg : goodG cs crs = true) (T : Told (wordD (os ++ objsOf (putS nm (usedL os) cs).ws cs) (putS nm (usedL os) cs).nm) (crs.map (fun k => (putS nm (usedL os) cs).ws.getD k.toNat 0)) W ns rs)
    (F : Fine ns rs f) (Fc : Fine cs crs f) : canonG ns rs f = canonG cs crs f := by
  refine told_two T (told_self hg) rfl (fun x => ok_word _ _ x) (fun x hx => ?_) (fun x y hx hy e => ?_) (fun x hx ha => good_bare hg (rch_self hg hx) ha) F Fc
  · have hr := rch_self hg hx
    have := h.told (i := x.toNat) (by omega)
    rw [this]
    exact ⟨⟨rfl, rfl, rfl⟩, rfl⟩
  · have hx' := rch_self hg hx
    have hy' := rch_self hg hy
    rcases h.apart (i := x.toNat) (j := y.toNat) (by omega) (by omega) e with e | e
    · left; omega
    · exact .inr e
end
end Go.Proofs.YtadfihnffboelaaGreatDoor

set_option linter.unusedVariables false
set_option linter.unusedSimpArgs false
namespace Go.Proofs.YtadfihnffboelaaGreatDoor
open Go.RowKit

section
variable {N : Int} {os : List Ob} {nm : List ByteArray} {cs ns : List Nd} {crs rs W : List Int} {f : Nat}
/-- The words, the objects, the roots of what was put. -/
abbrev pW (nm : List ByteArray) (os : List Ob) (cs : List Nd) (x : Int) : Int := (putS nm (usedL os) cs).ws.getD x.toNat 0
abbrev pO (nm : List ByteArray) (os : List Ob) (cs : List Nd) : List Ob := os ++ objsOf (putS nm (usedL os) cs).ws cs
abbrev pR (nm : List ByteArray) (os : List Ob) (cs : List Nd) (crs : List Int) : List Int := crs.map (pW nm os cs)
abbrev gD (cs : List Nd) (x : Int) : Nd := cs.getD x.toNat default
theorem PutOk.mem (h : PutOk N os nm cs) {i : Nat} (hi : i < cs.length) : cs.getD i default ∈ cs ∧ 0 ≤ sizeN (cs.getD i default) := by
  have hm : cs.getD i default ∈ cs := by rw [List.getD_eq_getElem?_getD, List.getElem?_eq_getElem hi]; exact List.getElem_mem _
  exact ⟨hm, of_decide_eq_true (List.all_eq_true.1 h.sz _ hm)⟩
/-- All nodes of a graph in its order are met. -/
theorem ordered_all (ho : Ordered cs crs) : ∀ j : Nat, j < cs.length → Rch (gD cs) crs (j : Int) := fun j => by
  induction j using Nat.strongRecOn with
  | _ j ih =>
    intro hj
    rcases ho.src j hj with e | ⟨i, hi, e⟩
    · exact .root e
    · refine .kid (ih i hi (by omega)) ?_
      show (j : Int) ∈ (cs.getD ((i : Int)).toNat default).kids
      rw [Int.toNat_natCast]; exact e
end
end Go.Proofs.YtadfihnffboelaaGreatDoor
