/-
  Deeds that are handed in; few.
-/
import Derived.Test.YthiniidgklilnaaV7
set_option linter.unusedVariables false
set_option linter.unusedSimpArgs false
set_option maxRecDepth 100000
namespace Go.Proofs.Ythiniidgklilnaa
open Go.RowKit

/-- A deed at a place of memory. -/
def DIs (w : World) (b o : Nat) (d : Dd) : Prop :=
  w.cell? ⟨b, o, none⟩ = some (.int .i64 d.kind) ∧ w.cell? ⟨b, o + 1, none⟩ = some (.int .i64 d.type) ∧ w.cell? ⟨b, o + 2, none⟩ = some (.int .i64 d.n) ∧ w.cell? ⟨b, o + 3, none⟩ = some (.int .i64 d.at_) ∧
  (∃ la ln lc, w.cell? ⟨b, o + 4, none⟩ = some (.slice la ln lc) ∧ URow w la ln lc d.l) ∧
  w.cell? ⟨b, o + 5, none⟩ = some (.int .u64 d.w) ∧ w.cell? ⟨b, o + 6, none⟩ = some (.int .u64 d.w2) ∧ w.cell? ⟨b, o + 7, none⟩ = some (.bool d.raw)
structure DRow (w : World) (ao : Option Addr) (n cap : Nat) (ds : List Dd) : Prop where
  len : ds.length = n
  fits : n ≤ cap
  most : cap ≤ maxLen
  ok : ∀ d ∈ ds, DOk d
  rd : ds = [] ∨ ∃ b o, ao = some ⟨b, o, none⟩ ∧ b < w.heap.size ∧ ∀ i, i < ds.length → DIs w b (o + i * 8) (ds.getD i default)
theorem DIs.on {w w' : World} {b o : Nat} {d : Dd} (h : DIs w b o d) (hb : b < w.heap.size) (hw : Below w.heap.size w w') : DIs w' b o d := by
  obtain ⟨h0, h1, h2, h3, ⟨la, ln, lc, h4, hU⟩, h5, h6, h7⟩ := h
  have k : ∀ i, w'.cell? ⟨b, i, none⟩ = w.cell? ⟨b, i, none⟩ := fun i => hw.cell (p := ⟨b, i, none⟩) hb
  exact ⟨(k _).trans h0, (k _).trans h1, (k _).trans h2, (k _).trans h3, ⟨la, ln, lc, (k _).trans h4, hU.on hw⟩, (k _).trans h5, (k _).trans h6, (k _).trans h7⟩
theorem DRow.on {w w' : World} {ao : Option Addr} {n cap : Nat} {ds : List Dd} (h : DRow w ao n cap ds) (hw : Below w.heap.size w w') : DRow w' ao n cap ds := by
  refine ⟨h.len, h.fits, h.most, h.ok, ?_⟩
  rcases h.rd with e | ⟨b, o, e, h1, h2⟩
  · exact .inl e
  · exact .inr ⟨b, o, e, Nat.lt_of_lt_of_le h1 hw.size, fun i hi => (h2 i hi).on h1 hw⟩
theorem DRow.some {w : World} {ao : Option Addr} {n cap : Nat} {ds : List Dd} (h : DRow w ao n cap ds) (hn : 0 < n) : ∃ b o, ao = Option.some ⟨b, o, none⟩ ∧ b < w.heap.size ∧ ∀ i, i < n → DIs w b (o + i * 8) (ds.getD i default) := by
  rcases h.rd with e | h2
  · have := h.len; simp [e] at this; omega
  · rw [h.len] at h2; exact h2
theorem getD_in_dd {l : List Dd} {i : Nat} (h : i < l.length) : l.getD i default ∈ l := by
  rw [List.getD_eq_getElem?_getD, List.getElem?_eq_getElem h]; exact List.getElem_mem h
/-- Is a deed small? -/
def smallD (d : Dd) : Bool := decide (d.l.length ≤ 100) && !(decide (d.kind = 1) && (decide (1000 < d.n) && decide (d.n ≤ 4194304)))
def fewD (ds : List Dd) : Bool := decide (ds.length ≤ 100) && ds.all smallD
theorem all_take {ds : List Dd} {q : Nat} (h : (ds.take q).all smallD = true) (hq : q < ds.length) (hz : smallD (ds.getD q default) = true) : (ds.take (q + 1)).all smallD = true := by
  rw [List.take_succ_eq_append_getElem hq, List.all_append, h]
  rw [List.getD_eq_getElem?_getD, List.getElem?_eq_getElem hq] at hz
  simp only [Option.getD_some] at hz
  simp [hz]
theorem all_not {ds : List Dd} {q : Nat} (hq : q < ds.length) (hz : smallD (ds.getD q default) = false) : ds.all smallD = false := by
  rw [List.getD_eq_getElem?_getD, List.getElem?_eq_getElem hq] at hz
  rw [← Bool.not_eq_true]
  intro h
  have := List.all_eq_true.1 h ds[q] (List.getElem_mem hq)
  simp only [Option.getD_some] at hz
  rw [hz] at this; cases this
set_option maxHeartbeats 8000000 in
theorem fewd_any (ao : Option Addr) (n cap : Nat) (ds : List Dd) (w : World) (R : DRow w ao n cap ds) :
    Calls Try.prog 4 #[.slice ao n cap] w fun e w' => e = .returned (.bool (fewD ds)) ∧ w' = w := by
  have HR := hid R
  have hn := R.len
  have hf := R.fits
  have hm := R.most
  unfold maxLen at hm
  clear R
  by_cases h1 : 100 < n
  · have hfw : fewD ds = false := by unfold fewD; rw [decide_eq_false (by omega)]; rfl
    rw [hfw]
    clear hfw
    go_enter Try.func4, Try.ntmps4
    go_wp2
    go_ret
    exact ⟨rfl, rfl⟩
  go_enter Try.func4, Try.ntmps4
  go_wp2
  go_loop [3] (fun i => ∃ q : Nat, q ≤ n ∧ i = .int .i64 q ∧ Hid ((ds.take q).all smallD = true)) (fun i => n - (intOf i).toNat)
  case atStart => exact ⟨0, Nat.zero_le _, rfl, by simp [Hid]⟩
  case round =>
    obtain ⟨q, hq, rfl, hI⟩ := hrel
    by_cases hlt : q < n
    · obtain ⟨b, o, rfl, hlb, hcc⟩ := HR.out.some (by omega)
      have hdi := hcc q hlt
      obtain ⟨d, hd⟩ : ∃ d, d = ds.getD q default := ⟨_, rfl⟩
      have hok : DOk d := by rw [hd]; exact HR.out.ok _ (getD_in_dd (by omega))
      rw [← hd] at hdi
      have HD := hid hd
      obtain ⟨c0, c1, c2, c3, ⟨la, ln, lc, c4, hU⟩, c5, c6, c7⟩ := hdi
      have hul := hU.len
      have hul2 := hU.fits
      have hul3 := hU.most
      unfold maxLen at hul3
      have hn1 := hok.n
      have hk1 := hok.kind
      unfold Z64 at hn1 hk1
      have HS : Hid (smallD d = (decide (d.l.length ≤ 100) && !(decide (d.kind = 1) && (decide (1000 < d.n) && decide (d.n ≤ 4194304))))) := rfl
      obtain ⟨dk, dt, dn, da, dl, dw, dw2, dr⟩ := d
      simp only at c0 c1 c2 c3 c4 c5 c6 c7 hul hn1 hk1 HS
      clear hcc hd hok hU c1 c3 c5 c6 c7
      by_cases e1 : 100 < ln
      · have hs : smallD ⟨dk, dt, dn, da, dl, dw, dw2, dr⟩ = false := by rw [HS.out, decide_eq_false (by omega)]; rfl
        have hfw : Hid (fewD ds = false) := by unfold Hid fewD; rw [all_not (q := q) (by omega) (by rw [← HD.out]; exact hs)]; simp
        clear hs
        go_wp2
        go_ret
        rw [hfw.out]
        exact ⟨rfl, rfl⟩
      · by_cases e2 : dk = 1 ∧ 1000 < dn ∧ dn ≤ 4194304
        · have hs : smallD ⟨dk, dt, dn, da, dl, dw, dw2, dr⟩ = false := by rw [HS.out, decide_eq_true e2.1, decide_eq_true e2.2.1, decide_eq_true e2.2.2]; simp
          have hfw : Hid (fewD ds = false) := by unfold Hid fewD; rw [all_not (q := q) (by omega) (by rw [← HD.out]; exact hs)]; simp
          obtain ⟨e3, e4, e5⟩ := e2
          have e3' : (dk == 1) = true := by simpa using e3
          clear hs
          go_wp2
          go_ret
          rw [hfw.out]
          exact ⟨rfl, rfl⟩
        · have hs : smallD ⟨dk, dt, dn, da, dl, dw, dw2, dr⟩ = true := by
            rw [HS.out, decide_eq_true (by omega)]
            by_cases e3 : dk = 1
            · by_cases e4 : 1000 < dn
              · rw [decide_eq_false (by omega : ¬ dn ≤ 4194304)]; simp
              · rw [decide_eq_false e4]; simp
            · rw [decide_eq_false e3]; simp
          have hnx := hid (all_take hI.out (by omega) (by rw [← HD.out]; exact hs))
          clear hs HS
          go_wp2
          all_goals first
            | exact ⟨⟨q + 1, by omega, by go_num, hnx.out⟩, by simp [intOf] <;> omega⟩
            | (exfalso; simp_all; omega)
            | (exfalso; simp_all; done)
    · obtain rfl : q = n := by omega
      have hall := hI.out
      rw [List.take_of_length_le (by omega)] at hall
      have hfw : Hid (fewD ds = true) := by unfold Hid fewD; rw [hall, decide_eq_true (by omega)]; rfl
      clear hI hall
      go_wp2
      go_ret
      rw [hfw.out]
      exact ⟨rfl, rfl⟩
end Go.Proofs.Ythiniidgklilnaa
