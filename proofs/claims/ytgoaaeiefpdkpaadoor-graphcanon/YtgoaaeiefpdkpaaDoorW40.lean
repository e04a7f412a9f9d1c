/-
  Walks, of the document's answer: digit.
-/
import Derived.Test.YtgoaaeiefpdkpaaDoorW43
import Derived.Test.YtgoaaeiefpdkpaaDoorW13
import Derived.Test.YtgoaaeiefpdkpaaDoorW3
import Derived.Laws.Bits128
set_option linter.unusedVariables false
set_option linter.unusedSimpArgs false
namespace Go.Proofs.YtgoaaeiefpdkpaaDoor
open Go.RowKit

/-- A node as data. -/
structure Nd where
  kind : Int
  num : Int
  text : ByteArray
  kids : List Int
instance : Inhabited Nd := ⟨⟨0, 0, ByteArray.empty, []⟩⟩

def I64 (z : Int) : Prop := -9223372036854775808 ≤ z ∧ z ≤ 9223372036854775807

/-- A slice of numbers of 64 bits, which are those of l. -/
structure IRow (w : World) (ao : Option Addr) (n cap : Nat) (l : List Int) : Prop where
  len : l.length = n
  fits : n ≤ cap
  most : cap ≤ maxLen
  nil_ : ao = none → cap = 0
  bd : ∀ z ∈ l, I64 z
  rd : l = [] ∨ ∃ b o, ao = some ⟨b, o, none⟩ ∧ b < w.heap.size ∧ ∀ i, i < l.length → w.cell? ⟨b, o + i, none⟩ = some (.int .i64 (l.getD i 0))
theorem IRow.some {w : World} {ao : Option Addr} {n cap : Nat} {l : List Int} (h : IRow w ao n cap l) (hl : 0 < n) :
    ∃ b o, ao = some ⟨b, o, none⟩ ∧ b < w.heap.size ∧ ∀ i, i < n → w.cell? ⟨b, o + i, none⟩ = some (.int .i64 (l.getD i 0)) := by
  rcases h.rd with e | h2
  · have := h.len; simp [e] at this; omega
  · rw [h.len] at h2; exact h2
theorem IRow.below {w w' : World} {ao : Option Addr} {n cap : Nat} {l : List Int} (h : IRow w ao n cap l) (hb : Below w.heap.size w w') : IRow w' ao n cap l := by
  refine ⟨h.len, h.fits, h.most, h.nil_, h.bd, ?_⟩
  rcases h.rd with e | ⟨b, o, e, hl, hc⟩
  · exact .inl e
  · exact .inr ⟨b, o, e, Nat.lt_of_lt_of_le hl hb.size, fun i hi => (hb.cell (p := ⟨b, o + i, none⟩) hl).trans (hc i hi)⟩
theorem IRow.nil (w : World) (ao : Option Addr) : IRow w ao 0 0 [] := ⟨rfl, Nat.le_refl _, Nat.zero_le _, fun _ => rfl, fun _ h => (by cases h), .inl rfl⟩
theorem IRow.get {w : World} {ao : Option Addr} {n cap : Nat} {l : List Int} (h : IRow w ao n cap l) {i : Nat} (hi : i < n) : I64 (l.getD i 0) := by
  have hi' : i < l.length := by rw [h.len]; exact hi
  rw [List.getD_eq_getElem?_getD, List.getElem?_eq_getElem hi']
  exact h.bd _ (List.getElem_mem hi')

/-- A node's cells lie there. -/
def NdAt (w : World) (b o : Nat) (d : Nd) : Prop :=
  w.cell? ⟨b, o, none⟩ = some (.int .i64 d.kind) ∧ w.cell? ⟨b, o + 1, none⟩ = some (.int .i64 d.num) ∧ w.cell? ⟨b, o + 2, none⟩ = some (.string d.text) ∧
    ∃ ao n cap, w.cell? ⟨b, o + 3, none⟩ = some (.slice ao n cap) ∧ IRow w ao n cap d.kids
theorem NdAt.below {w w' : World} {b o : Nat} {d : Nd} (h : NdAt w b o d) (hl : b < w.heap.size) (hb : Below w.heap.size w w') : NdAt w' b o d := by
  obtain ⟨h1, h2, h3, ao, n, cap, h4, h5⟩ := h
  exact ⟨(hb.cell (p := ⟨b, o, none⟩) hl).trans h1, (hb.cell (p := ⟨b, o + 1, none⟩) hl).trans h2, (hb.cell (p := ⟨b, o + 2, none⟩) hl).trans h3, ao, n, cap, (hb.cell (p := ⟨b, o + 3, none⟩) hl).trans h4, h5.below hb⟩
/-- What a node's numbers and text fit into. -/
def NdOk (d : Nd) : Prop := I64 d.kind ∧ I64 d.num ∧ d.text.size ≤ maxLen
/-- A slice of nodes, which are those of l. -/
structure NRow (w : World) (ao : Option Addr) (n cap : Nat) (l : List Nd) : Prop where
  len : l.length = n
  fits : n ≤ cap
  most : cap ≤ maxLen
  nil_ : ao = none → cap = 0
  ok : ∀ d ∈ l, NdOk d
  rd : l = [] ∨ ∃ b o, ao = some ⟨b, o, none⟩ ∧ b < w.heap.size ∧ ∀ i, i < l.length → NdAt w b (o + i * 4) (l.getD i default)
theorem NRow.some {w : World} {ao : Option Addr} {n cap : Nat} {l : List Nd} (h : NRow w ao n cap l) (hl : 0 < n) :
    ∃ b o, ao = some ⟨b, o, none⟩ ∧ b < w.heap.size ∧ ∀ i, i < n → NdAt w b (o + i * 4) (l.getD i default) := by
  rcases h.rd with e | h2
  · have := h.len; simp [e] at this; omega
  · rw [h.len] at h2; exact h2
theorem NRow.below {w w' : World} {ao : Option Addr} {n cap : Nat} {l : List Nd} (h : NRow w ao n cap l) (hb : Below w.heap.size w w') : NRow w' ao n cap l := by
  refine ⟨h.len, h.fits, h.most, h.nil_, h.ok, ?_⟩
  rcases h.rd with e | ⟨b, o, e, hl, hc⟩
  · exact .inl e
  · exact .inr ⟨b, o, e, Nat.lt_of_lt_of_le hl hb.size, fun i hi => (hc i hi).below hl hb⟩
theorem NRow.get {w : World} {ao : Option Addr} {n cap : Nat} {l : List Nd} (h : NRow w ao n cap l) {i : Nat} (hi : i < n) : NdOk (l.getD i default) := by
  have hi' : i < l.length := by rw [h.len]; exact hi
  rw [List.getD_eq_getElem?_getD, List.getElem?_eq_getElem hi']
  exact h.ok _ (List.getElem_mem hi')
theorem NRow.nil (w : World) (ao : Option Addr) : NRow w ao 0 0 [] := ⟨rfl, Nat.le_refl _, Nat.zero_le _, fun _ => rfl, fun _ h => (by cases h), .inl rfl⟩

/-- A graph's value. -/
def GVal (an : Option Addr) (nn cn : Nat) (ar : Option Addr) (nr cr : Nat) : Value := .agg #[.slice an nn cn, .slice ar nr cr]
/-- The graph with these nodes and roots lies there. -/
structure GIs (w : World) (an : Option Addr) (nn cn : Nat) (ar : Option Addr) (nr cr : Nat) (ns : List Nd) (rs : List Int) : Prop where
  nodes : NRow w an nn cn ns
  roots : IRow w ar nr cr rs
theorem GIs.below {w w' : World} {an ar : Option Addr} {nn cn nr cr : Nat} {ns : List Nd} {rs : List Int} (h : GIs w an nn cn ar nr cr ns rs) (hb : Below w.heap.size w w') : GIs w' an nn cn ar nr cr ns rs := ⟨h.nodes.below hb, h.roots.below hb⟩

/-- A block of two slices: a graph in a variable. -/
def GBox (t : TypeId) (w : World) (p : Nat) (an : Option Addr) (nn cn : Nat) (ar : Option Addr) (nr cr : Nat) : Prop := w.heap[p]? = some (.cells #[.slice an nn cn, .slice ar nr cr] t (0, 0))
theorem GBox.lt {t : TypeId} {w : World} {p : Nat} {an ar : Option Addr} {nn cn nr cr : Nat} (h : GBox t w p an nn cn ar nr cr) : p < w.heap.size := (Array.getElem?_eq_some_iff.1 h).1
theorem GBox.on {t : TypeId} {w w' : World} {p : Nat} {an ar : Option Addr} {nn cn nr cr : Nat} (h : GBox t w p an nn cn ar nr cr) (hb : Below w.heap.size w w') : GBox t w' p an nn cn ar nr cr := (hb.block p h.lt).trans h
theorem GBox.c {t : TypeId} {w : World} {p : Nat} {an ar : Option Addr} {nn cn nr cr : Nat} (h : GBox t w p an nn cn ar nr cr) : w.cell? ⟨p, 0, none⟩ = some (.slice an nn cn) ∧ w.cell? ⟨p, 1, none⟩ = some (.slice ar nr cr) := ⟨blk_cell h 0, blk_cell h 1⟩
theorem GBox.new (t : TypeId) (w : World) (an ar : Option Addr) (nn cn nr cr : Nat) : GBox t (w.alloc (.cells #[.slice an nn cn, .slice ar nr cr] t)) w.heap.size an nn cn ar nr cr := blk_new _ _ _

/-- Few and small, up to place k. -/
def fewTo (ns : List Nd) (k : Nat) : Bool := (ns.take k).all fun d => decide (d.text.size ≤ 2000) && decide (d.kids.length ≤ 100)
def fewB (ns : List Nd) (rs : List Int) (most : Nat) : Bool := decide (ns.length ≤ most) && decide (rs.length ≤ most) && fewTo ns ns.length
theorem fewTo_succ {ns : List Nd} {k : Nat} (h : k < ns.length) : fewTo ns (k + 1) = (fewTo ns k && (decide ((ns.getD k default).text.size ≤ 2000) && decide ((ns.getD k default).kids.length ≤ 100))) := by
  unfold fewTo
  rw [List.take_succ_eq_append_getElem h, List.all_append, List.getD_eq_getElem?_getD, List.getElem?_eq_getElem h]; simp
theorem fewTo_false {ns : List Nd} {k j : Nat} (hk : k < j) (hj : j ≤ ns.length) (h : fewTo ns (k + 1) = false) : fewTo ns j = false := by
  unfold fewTo at *
  rw [List.all_eq_false] at h ⊢
  obtain ⟨x, hx, h2⟩ := h
  refine ⟨x, ?_, h2⟩
  exact (List.take_prefix_take_left (l := ns) (by omega : k + 1 ≤ j)).subset hx

end Go.Proofs.YtgoaaeiefpdkpaaDoor

set_option linter.unusedVariables false
set_option linter.unusedSimpArgs false
namespace Go.Proofs.YtgoaaeiefpdkpaaDoor
open Go.RowKit

theorem and_255n (t : Nat) (h : t < 9223372036854775808) : bits .and .i64 (t : Int) 255 = ((t % 256 : Nat) : Int) := by
  have h1 : (BitVec.ofInt 64 (t : Int)).toNat = t := by
    rw [BitVec.ofInt_natCast, BitVec.toNat_ofNat]; exact Nat.mod_eq_of_lt (by omega)
  show IntKind.i64.wrap ((BitVec.ofInt 64 (t : Int) &&& BitVec.ofInt 64 255).toNat : Int) = _
  rw [BitVec.toNat_and, h1]
  have h2 : (BitVec.ofInt 64 255).toNat = 2 ^ 8 - 1 := by decide
  rw [h2, Nat.and_two_pow_sub_one_eq_mod, IntKind.wrap_i64]
  omega

/-- What a byte says as a digit, as the document has it; -1: nothing. -/
def dgi (c : Nat) : Int := if dgt c = 36 then -1 else (dgt c : Int)

set_option maxHeartbeats 800000 in
theorem rdigit_any (c : Nat) (hc : c < 256) (w : World) :
    Calls Tryd.prog 47 #[.int .u8 c] w fun e w' => e = .returned (.int .i64 (dgi c)) ∧ w' = w := by
  by_cases a1 : 48 ≤ c ∧ c ≤ 57
  · obtain ⟨a, b⟩ := a1
    have HV : Hid (dgi c = (c : Int) - 48) := by
      have : dgt c = c - 48 := by unfold dgt; rw [if_pos ⟨a, b⟩]
      unfold Hid dgi; rw [this, if_neg (by omega)]; omega
    go_enter Tryd.func47, Tryd.ntmps47
    go_wp2
    go_ret
    exact ⟨ret_i64 (by rw [HV.out] <;> omega), rfl⟩
  · by_cases a2 : 97 ≤ c ∧ c ≤ 122
    · obtain ⟨a, b⟩ := a2
      have HV : Hid (dgi c = (c : Int) - 87) := by
        have : dgt c = c - 87 := by unfold dgt; rw [if_neg a1, if_pos ⟨a, b⟩]
        unfold Hid dgi; rw [this, if_neg (by omega)]; omega
      clear a1
      go_enter Tryd.func47, Tryd.ntmps47
      go_wp2
      go_ret
      exact ⟨ret_i64 (by rw [HV.out] <;> omega), rfl⟩
    · by_cases a3 : 65 ≤ c ∧ c ≤ 90
      · obtain ⟨a, b⟩ := a3
        have HV : Hid (dgi c = (c : Int) - 55) := by
          have : dgt c = c - 55 := by unfold dgt; rw [if_neg a1, if_neg a2, if_pos ⟨a, b⟩]
          unfold Hid dgi; rw [this, if_neg (by omega)]; omega
        clear a1 a2
        go_enter Tryd.func47, Tryd.ntmps47
        go_wp2
        go_ret
        exact ⟨ret_i64 (by rw [HV.out] <;> omega), rfl⟩
      · have HV : Hid (dgi c = -1) := by
          have : dgt c = 36 := by unfold dgt; rw [if_neg a1, if_neg a2, if_neg a3]
          unfold Hid dgi; rw [this, if_pos rfl]
        have hr : c < 48 ∨ (57 < c ∧ c < 65) ∨ (90 < c ∧ c < 97) ∨ 122 < c := by omega
        clear a1 a2 a3
        rcases hr with h | ⟨h, h'⟩ | ⟨h, h'⟩ | h
        all_goals
          go_enter Tryd.func47, Tryd.ntmps47
          go_wp2
          go_ret
          exact ⟨ret_i64 (by rw [HV.out]), rfl⟩

theorem cutS_sign {l : List Nat} {c : Nat} {r : List Nat} (h : l = c :: r) (hc : c = 43 ∨ c = 45) : cutS l = (decide (c = 45), r) := by
  subst h; simp [cutS, hc]
theorem cutS_plain {l : List Nat} {c : Nat} {r : List Nat} (h : l = c :: r) (hc : ¬ (c = 43 ∨ c = 45)) : cutS l = (false, c :: r) := by
  subst h; simp [cutS, hc]
theorem digitsB_of {rx : Nat} {l : List Nat} (h0 : 0 < l.length) (h : ∀ j, j < l.length → dgt (l.getD j 0) < rx) : digitsB (rx : Int) l = true := by
  unfold digitsB
  rw [Bool.and_eq_true]
  refine ⟨?_, by simp; intro e; rw [e] at h0; simp at h0⟩
  rw [List.all_eq_true]
  intro x hx
  obtain ⟨j, hj, rfl⟩ := List.mem_iff_getElem.1 hx
  have := h j hj
  rw [List.getD_eq_getElem?_getD, List.getElem?_eq_getElem hj] at this
  simpa using this
theorem digitsB_not {rx : Nat} {l : List Nat} {j : Nat} (hj : j < l.length) (h : rx ≤ dgt (l.getD j 0)) : digitsB (rx : Int) l = false := by
  unfold digitsB
  rw [Bool.and_eq_false_iff]
  left
  rw [List.all_eq_false]
  exact ⟨l.getD j 0, getD_mem hj, by simp; rw [← List.getD_eq_getElem?_getD]; omega⟩
theorem digitsB_nil {rx : Int} : digitsB rx [] = false := by simp [digitsB]
theorem getD_drop' (l : List Nat) (a j : Nat) : (l.drop a).getD j 0 = l.getD (a + j) 0 := by
  rw [List.getD_eq_getElem?_getD, List.getElem?_drop, ← List.getD_eq_getElem?_getD]

end Go.Proofs.YtgoaaeiefpdkpaaDoor
