/-
  Walk: graph.Same.
-/
import Derived.Test.YtfkdpomhojhapaaDoorM6
import Derived.Test.YtfkdpomhojhapaaDoorG2
import Derived.Test.YtfkdpomhojhapaaDoorG20
set_option linter.unusedVariables false
set_option linter.unusedSimpArgs false
namespace Go.Proofs.YtfkdpomhojhapaaDoor
open Go.RowKit

/-- The places of atoms, in the order of meeting. -/
def atomsL (ns : List Nd) : List Int → Nat → List Int
  | [], _ => []
  | o :: ord, k => if atomB (ns.getD o.toNat default).kind = true then (k : Int) :: atomsL ns ord (k + 1) else atomsL ns ord (k + 1)
theorem atomsL_snoc (ns : List Nd) (o : Int) : ∀ (ord : List Int) (k : Nat), atomsL ns (ord ++ [o]) k = atomsL ns ord k ++ (if atomB (ns.getD o.toNat default).kind = true then [((k + ord.length : Nat) : Int)] else [])
  | [], k => by simp [atomsL]
  | x :: ord, k => by
    have ih := atomsL_snoc ns o ord (k + 1)
    simp only [List.cons_append, atomsL, ih, List.length_cons]
    have e : k + 1 + ord.length = k + (ord.length + 1) := by omega
    rw [e]
    split <;> simp
theorem atomsL_rng (ns : List Nd) : ∀ (ord : List Int) (k : Nat), ∀ z ∈ atomsL ns ord k, (k : Int) ≤ z ∧ z < k + ord.length
  | [], k, z, h => by simp [atomsL] at h
  | x :: ord, k, z, h => by
    have ih := atomsL_rng ns ord (k + 1)
    simp only [atomsL] at h
    have hs : z ∈ atomsL ns ord (k + 1) → (k : Int) ≤ z ∧ z < k + ((x :: ord).length : Nat) := fun h => by
      have := ih z h; simp; omega
    split at h
    · rcases List.mem_cons.1 h with rfl | h
      · simp; omega
      · exact hs h
    · exact hs h
theorem atomsL_len (ns : List Nd) : ∀ (ord : List Int) (k : Nat), (atomsL ns ord k).length ≤ ord.length
  | [], k => by simp [atomsL]
  | x :: ord, k => by
    have ih := atomsL_len ns ord (k + 1)
    simp only [atomsL]; split <;> simp <;> omega
/-- Does the node at this new place have the same as d? -/
def sameAt (ns : List Nd) (ord : List Int) (d : Nd) (z : Int) : Bool := decide (sameA (ns.getD (ord.getD z.toNat 0).toNat default) d)
theorem findA_atoms_go (ns : List Nd) (d : Nd) (all : List Int) : ∀ (ord : List Int) (k : Nat), (∀ j, j < ord.length → all.getD (k + j) 0 = ord.getD j 0) →
    ((findA ns ord d).map fun j => ((k + j : Nat) : Int)) = (atomsL ns ord k).find? (sameAt ns all d)
  | [], k, _ => by simp [findA, atomsL]
  | o :: ord, k, h => by
    have h0 := h 0 (by simp)
    rw [Nat.add_zero] at h0
    have ih := findA_atoms_go ns d all ord (k + 1) (fun j hj => by have := h (j + 1) (by simpa using hj); rw [show k + 1 + j = k + (j + 1) by omega]; rw [this]; simp)
    have hsame : sameAt ns all d (k : Int) = decide (sameA (ns.getD o.toNat default) d) := by unfold sameAt; rw [Int.toNat_natCast, h0]; rfl
    unfold findA at *
    rw [List.findIdx?_cons, atomsL]
    by_cases ha : atomB (ns.getD o.toNat default).kind = true
    · rw [if_pos ha, List.find?_cons, hsame, ha, Bool.true_and]
      by_cases hs : sameA (ns.getD o.toNat default) d
      · rw [decide_eq_true hs]; simp
      · rw [decide_eq_false hs]
        simp only [Bool.false_eq_true, if_false]
        rw [← ih, Option.map_map]
        congr 1
        funext j; simp; omega
    · rw [if_neg ha, Bool.eq_false_iff.2 ha, Bool.false_and]
      simp only [Bool.false_eq_true, if_false]
      rw [← ih, Option.map_map]
      congr 1
      funext j; simp; omega
theorem findA_atoms (ns : List Nd) (ord : List Int) (d : Nd) : ((findA ns ord d).map fun (j : Nat) => (j : Int)) = (atomsL ns ord 0).find? (sameAt ns ord d) := by
  have := findA_atoms_go ns d ord ord 0 (fun j _ => by rw [Nat.zero_add])
  simp only [Nat.zero_add] at this
  exact this
theorem rmetS_self {ns : List Nd} {pt ord : List Int} {n : Nat} (h : 0 ≤ pt.getD n 0 ∨ atomB (ns.getD n default).kind = false) : rmetS ns pt ord n = pt.getD n 0 := by unfold rmetS; rw [if_pos h]
theorem rmetS_some {ns : List Nd} {pt ord : List Int} {n : Nat} {z : Int} (h : ¬ (0 ≤ pt.getD n 0 ∨ atomB (ns.getD n default).kind = false)) (hf : (atomsL ns ord 0).find? (sameAt ns ord (ns.getD n default)) = some z) : rmetS ns pt ord n = z := by
  unfold rmetS; rw [if_neg h]
  rw [← findA_atoms] at hf
  cases hq : findA ns ord (ns.getD n default) with
  | none => rw [hq] at hf; cases hf
  | some j => rw [hq] at hf; exact Option.some.inj hf
theorem rmetS_none {ns : List Nd} {pt ord : List Int} {n : Nat} (h : ¬ (0 ≤ pt.getD n 0 ∨ atomB (ns.getD n default).kind = false)) (hf : (atomsL ns ord 0).find? (sameAt ns ord (ns.getD n default)) = none) : rmetS ns pt ord n = -1 := by
  unfold rmetS; rw [if_neg h]
  rw [← findA_atoms] at hf
  cases hq : findA ns ord (ns.getD n default) with
  | none => rfl
  | some j => rw [hq] at hf; cases hf
theorem find_take {l : List Int} {p : Int → Bool} {m : Nat} (hm : m < l.length) (h : (l.take m).find? p = none) : (p (l.getD m 0) = true → l.find? p = some (l.getD m 0)) ∧ (p (l.getD m 0) = false → (l.take (m + 1)).find? p = none) := by
  have e : l.getD m 0 = l[m] := by rw [List.getD_eq_getElem?_getD, List.getElem?_eq_getElem hm]; rfl
  constructor
  · intro hp
    have h2 : l = l.take m ++ l.drop m := (List.take_append_drop m l).symm
    rw [h2, List.find?_append, h]
    rw [← h2, e]
    rw [List.drop_eq_getElem_cons hm, List.find?_cons, ← e, hp]; simp
  · intro hp
    rw [List.take_succ_eq_append_getElem hm, List.find?_append, h, ← e, List.find?_cons, hp]; rfl
end Go.Proofs.YtfkdpomhojhapaaDoor

set_option linter.unusedVariables false
set_option linter.unusedSimpArgs false
set_option maxRecDepth 100000
namespace Go.Proofs.YtfkdpomhojhapaaDoor
open Go.RowKit

instance : DecidableEq Nd := fun a b => decidable_of_iff (a.kind = b.kind ∧ a.num = b.num ∧ a.text = b.text ∧ a.kids = b.kids) (by cases a; cases b; simp)
theorem take_succ_of {α : Type} (d : α) {l : List α} {m : Nat} (h : m < l.length) : l.take (m + 1) = l.take m ++ [l.getD m d] := by
  rw [List.take_succ_eq_append_getElem h, List.getD_eq_getElem?_getD, List.getElem?_eq_getElem h]; rfl
theorem ne_of_getD {α : Type} (d : α) {l l' : List α} {m : Nat} (h : l.getD m d ≠ l'.getD m d) : l ≠ l' := fun e => h (by rw [e])

set_option maxHeartbeats 1000000 in
theorem eqInts_any (ao : Option Addr) (n cap : Nat) (l : List Int) (ao' : Option Addr) (n' cap' : Nat) (l' : List Int) (w : World) (R : IRow w ao n cap l) (R' : IRow w ao' n' cap' l') :
    Calls Tryd.prog 20 #[.slice ao n cap, .slice ao' n' cap'] w fun e w' => e = .returned (.bool (decide (l = l'))) ∧ Below w.heap.size w w' := by
  have HR := hid R
  have HR' := hid R'
  have hf := R.fits
  have hm := R.most
  have hf' := R'.fits
  have hm' := R'.most
  have hln := R.len
  have hln' := R'.len
  unfold maxLen at hm hm'
  clear R R'
  by_cases hnn : n = n'
  · subst hnn
    go_enter Tryd.func20, Tryd.ntmps20
    go_wp2
    go_loopw [13] (fun i wr => ∃ m : Nat, m ≤ n ∧ i = .int .i64 m ∧ Hid (l.take m = l'.take m ∧ Below w.heap.size w wr)) (fun i _ => n - (intOf i).toNat)
    case atStart => exact ⟨0, Nat.zero_le _, rfl, rfl, Below.refl _ _⟩
    case round =>
      obtain ⟨m, hmn, rfl, hI⟩ := hrel
      by_cases hlt : m < n
      · obtain ⟨b, o, rfl, hl, hc⟩ := HR.out.some (by omega)
        obtain ⟨b', o', rfl, hl', hc'⟩ := HR'.out.some (by omega)
        have hc1 := (hI.out.2.cell (p := ⟨b, o + m, none⟩) hl).trans (hc m hlt)
        have hc2 := (hI.out.2.cell (p := ⟨b', o' + m, none⟩) hl').trans (hc' m hlt)
        obtain ⟨x, hx⟩ : ∃ x, x = l.getD m 0 := ⟨_, rfl⟩
        obtain ⟨y, hy⟩ : ∃ x, x = l'.getD m 0 := ⟨_, rfl⟩
        rw [← hx] at hc1
        rw [← hy] at hc2
        have HX := hid hx
        have HY := hid hy
        have HT1 := hid hI.out.1
        have HB1 := hid hI.out.2
        clear hc hc' hx hy hI
        by_cases hxy : x = y
        · have e1 : (x != y) = false := by simp [hxy]
          go_wp2
          go_quiet (fail)
          have HBE : Hid (Below w.heap.size w (wr.drewN nq)) := Bt HB1.out (Bd wr nq)
          go_wp2
          refine ⟨⟨m + 1, by omega, by go_num, ?_, HBE.out⟩, by simp [intOf] <;> omega⟩
          rw [take_succ_of 0 (by rw [hln]; exact hlt), take_succ_of 0 (by rw [hln']; exact hlt), HT1.out, ← HX.out, ← HY.out, hxy]
        · have e1 : (x != y) = true := by simp [hxy]
          go_wp2
          go_quiet (fail)
          have HBE : Hid (Below w.heap.size w (wr.drewN nq)) := Bt HB1.out (Bd wr nq)
          go_wp2
          go_ret
          refine ⟨?_, HBE.out⟩
          have : l ≠ l' := ne_of_getD 0 (m := m) (by rw [← HX.out, ← HY.out]; exact hxy)
          simp [this]
      · obtain rfl : m = n := by omega
        have h1 := hI.out.1
        rw [List.take_of_length_le (by omega), List.take_of_length_le (by omega)] at h1
        have HBE := hid hI.out.2
        clear hI
        go_wp2
        go_ret
        exact ⟨by simp [h1], HBE.out⟩
  · have hne : l ≠ l' := fun e => hnn (by rw [← hln, ← hln', e])
    have e1 : ((n : Int) != (n' : Int)) = true := by simp; omega
    have e2 : decide (l = l') = false := by simp [hne]
    rw [e2]
    go_enter Tryd.func20, Tryd.ntmps20
    go_wp2
    go_ret
    exact ⟨rfl, Below.refl _ _⟩

set_option maxHeartbeats 2000000 in
theorem sameNode_any (k m : Int) (t : ByteArray) (ao : Option Addr) (n cap : Nat) (l : List Int) (k' m' : Int) (t' : ByteArray) (ao' : Option Addr) (n' cap' : Nat) (l' : List Int) (w : World) (R : IRow w ao n cap l) (R' : IRow w ao' n' cap' l') :
    Calls Tryd.prog 19 #[.agg #[.int .i64 k, .int .i64 m, .string t, .slice ao n cap], .agg #[.int .i64 k', .int .i64 m', .string t', .slice ao' n' cap']] w fun e w' => e = .returned (.bool (decide ((⟨k, m, t, l⟩ : Nd) = ⟨k', m', t', l'⟩))) ∧ Below w.heap.size w w' := by
  have HR := hid R
  have HR' := hid R'
  clear R R'
  by_cases h1 : k = k'
  · subst h1
    by_cases h2 : m = m'
    · subst h2
      by_cases h3 : t = t'
      · subst h3
        have bA := Baa w (.cells #[.int .i64 k, .int .i64 m, .string t, .slice ao n cap] 32) (.cells #[.int .i64 k, .int .i64 m, .string t, .slice ao' n' cap'] 32)
        have HBA := hid bA
        clear bA
        go_enter Tryd.func19, Tryd.ntmps19
        go_wp2_with fail
        refine (eqInts_any ao n cap l ao' n' cap' l' _ (HR.out.below HBA.out) (HR'.out.below HBA.out)).mono ?_
        rintro e w2 ⟨rfl, b2⟩
        have HBE := hid (Bt HBA.out b2)
        clear b2
        go_wp2
        go_ret
        exact ⟨by simp, HBE.out⟩
      · have e1 : (t.toList == t'.toList) = false := by rw [str_eq]; simp [h3]
        go_enter Tryd.func19, Tryd.ntmps19
        go_wp2_with fail
        go_ret
        exact ⟨by simp [h3], Baa _ _ _⟩
    · have e1 : (m == m') = false := by simp [h2]
      go_enter Tryd.func19, Tryd.ntmps19
      go_wp2_with fail
      go_ret
      exact ⟨by simp [h2], Baa _ _ _⟩
  · have e1 : (k == k') = false := by simp [h1]
    go_enter Tryd.func19, Tryd.ntmps19
    go_wp2_with fail
    go_ret
    exact ⟨by simp [h1], Baa _ _ _⟩

set_option maxHeartbeats 4000000 in
theorem eqNodes_any (ao : Option Addr) (n cap : Nat) (l : List Nd) (ao' : Option Addr) (n' cap' : Nat) (l' : List Nd) (w : World) (R : NRow w ao n cap l) (R' : NRow w ao' n' cap' l') :
    Calls Tryd.prog 18 #[.slice ao n cap, .slice ao' n' cap', .func (.func 19) #[] #[]] w fun e w' => e = .returned (.bool (decide (l = l'))) ∧ Below w.heap.size w w' := by
  have HR := hid R
  have HR' := hid R'
  have hf := R.fits
  have hm := R.most
  have hf' := R'.fits
  have hm' := R'.most
  have hln := R.len
  have hln' := R'.len
  unfold maxLen at hm hm'
  clear R R'
  by_cases hnn : n = n'
  · subst hnn
    go_enter Tryd.func18, Tryd.ntmps18
    go_wp2_with fail
    go_loopw [17] (fun i wr => ∃ m : Nat, m ≤ n ∧ i = .int .i64 m ∧ Hid (l.take m = l'.take m ∧ Below w.heap.size w wr)) (fun i _ => n - (intOf i).toNat)
    case atStart => exact ⟨0, Nat.zero_le _, rfl, rfl, Below.refl _ _⟩
    case round =>
      obtain ⟨m, hmn, rfl, hI⟩ := hrel
      by_cases hlt : m < n
      · obtain ⟨b, o, rfl, hl, hc⟩ := HR.out.some (by omega)
        obtain ⟨b', o', rfl, hl', hc'⟩ := HR'.out.some (by omega)
        have hd := (hc m hlt).below hl hI.out.2
        have hd' := (hc' m hlt).below hl' hI.out.2
        have hlw : b < wr.heap.size := Nat.lt_of_lt_of_le hl hI.out.2.size
        have hlw' : b' < wr.heap.size := Nat.lt_of_lt_of_le hl' hI.out.2.size
        obtain ⟨d, hx⟩ : ∃ x, x = l.getD m default := ⟨_, rfl⟩
        obtain ⟨d', hy⟩ : ∃ x, x = l'.getD m default := ⟨_, rfl⟩
        rw [← hx] at hd
        rw [← hy] at hd'
        have HX := hid hx
        have HY := hid hy
        have HT1 := hid hI.out.1
        have HB1 := hid hI.out.2
        obtain ⟨k1, k2, k3, ak, nk, ck, k4, k5⟩ := hd
        obtain ⟨j1, j2, j3, aj, nj, cj, j4, j5⟩ := hd'
        obtain ⟨dk, dn, dt, dl⟩ := d
        obtain ⟨ek, en, et, el⟩ := d'
        simp only [] at k1 k2 k3 k5 j1 j2 j3 j5
        have K5 := hid k5
        have J5 := hid j5
        have J1 : ∀ ob, (wr.alloc ob).cell? ⟨b', o' + m * 4, none⟩ = some (.int .i64 ek) := fun ob => (cell_old _ _ _ _ hlw').trans j1
        have J2 : ∀ ob, (wr.alloc ob).cell? ⟨b', o' + m * 4 + 1, none⟩ = some (.int .i64 en) := fun ob => (cell_old _ _ _ _ hlw').trans j2
        have J3 : ∀ ob, (wr.alloc ob).cell? ⟨b', o' + m * 4 + 2, none⟩ = some (.string et) := fun ob => (cell_old _ _ _ _ hlw').trans j3
        have J4 : ∀ ob, (wr.alloc ob).cell? ⟨b', o' + m * 4 + 3, none⟩ = some (.slice aj nj cj) := fun ob => (cell_old _ _ _ _ hlw').trans j4
        clear hc hc' hx hy hI k5 j5 j1 j2 j3 j4
        go_wp2_with fail
        have bA := Baa wr (.cells #[.int .i64 dk, .int .i64 dn, .string dt, .slice ak nk ck] 32) (.cells #[.int .i64 ek, .int .i64 en, .string et, .slice aj nj cj] 32)
        refine (sameNode_any dk dn dt ak nk ck dl ek en et aj nj cj el _ (K5.out.below bA) (J5.out.below bA)).mono ?_
        rintro e w2 ⟨rfl, b2⟩
        have HBE := hid (Bt HB1.out (Bt bA b2))
        clear bA b2 J1 J2 J3 J4 k1 k2 k3 k4
        by_cases hxy : (⟨dk, dn, dt, dl⟩ : Nd) = ⟨ek, en, et, el⟩
        · rw [decide_eq_true hxy]
          have HXY := hid hxy
          clear hxy
          go_wp2
          refine ⟨⟨m + 1, by omega, by go_num, ?_, HBE.out⟩, by simp [intOf] <;> omega⟩
          rw [take_succ_of default (by rw [hln]; exact hlt), take_succ_of default (by rw [hln']; exact hlt), HT1.out, ← HX.out, ← HY.out, HXY.out]
        · rw [decide_eq_false hxy]
          have HXY := hid hxy
          clear hxy
          go_wp2
          go_ret
          refine ⟨?_, HBE.out⟩
          have : l ≠ l' := ne_of_getD default (m := m) (by rw [← HX.out, ← HY.out]; exact HXY.out)
          simp [this]
      · obtain rfl : m = n := by omega
        have h1 := hI.out.1
        rw [List.take_of_length_le (by omega), List.take_of_length_le (by omega)] at h1
        have HBE := hid hI.out.2
        clear hI
        go_wp2
        go_ret
        exact ⟨by simp [h1], HBE.out⟩
  · have hne : l ≠ l' := fun e => hnn (by rw [← hln, ← hln', e])
    have e1 : ((n : Int) != (n' : Int)) = true := by simp; omega
    have e2 : decide (l = l') = false := by simp [hne]
    rw [e2]
    go_enter Tryd.func18, Tryd.ntmps18
    go_wp2
    go_ret
    exact ⟨rfl, Below.refl _ _⟩
end Go.Proofs.YtfkdpomhojhapaaDoor

set_option linter.unusedVariables false
set_option linter.unusedSimpArgs false
set_option maxRecDepth 100000
namespace Go.Proofs.YtfkdpomhojhapaaDoor
open Go.RowKit

/-- A graph that lies there and is small enough to be walked. -/
structure GOk (w : World) (an : Option Addr) (nn cn : Nat) (ar : Option Addr) (nr cr : Nat) (ns : List Nd) (rs : List Int) : Prop where
  is : GIs w an nn cn ar nr cr ns rs
  small : smallG ns
  kids : ∀ d ∈ ns, d.kids.length ≤ 100
  nn_le : nn ≤ 1000
  nr_le : nr ≤ 1000
theorem GOk.below {w w' : World} {an ar : Option Addr} {nn cn nr cr : Nat} {ns : List Nd} {rs : List Int} (h : GOk w an nn cn ar nr cr ns rs) (hb : Below w.heap.size w w') : GOk w' an nn cn ar nr cr ns rs := ⟨h.is.below hb, h.small, h.kids, h.nn_le, h.nr_le⟩
def canonN (ns : List Nd) (rs : List Int) : List Nd × List Int := canonG ns rs 100001
theorem canonN_any {an ar : Option Addr} {nn cn nr cr : Nat} {ns : List Nd} {rs : List Int} {w : World} (G : GOk w an nn cn ar nr cr ns rs) (hT : Tabs w) :
    Calls Tryd.prog 17 #[.agg #[.slice an nn cn, .slice ar nr cr]] w fun e w' => ∃ an' nn' cn' ar' nr' cr', e = .returned (GVal an' nn' cn' ar' nr' cr') ∧ GIs w' an' nn' cn' ar' nr' cr' (canonN ns rs).1 (canonN ns rs).2 ∧ Below w.heap.size w w' :=
  canon_any an ar nn cn nr cr ns rs w G.is G.small G.kids G.nn_le G.nr_le hT 100001 (by have := G.nn_le; omega) (by omega)
def sameGB (ns : List Nd) (rs : List Int) (ns' : List Nd) (rs' : List Int) : Bool := goodG ns rs && goodG ns' rs' && decide ((canonN ns rs).1 = (canonN ns' rs').1) && decide ((canonN ns rs).2 = (canonN ns' rs').2)

end Go.Proofs.YtfkdpomhojhapaaDoor
