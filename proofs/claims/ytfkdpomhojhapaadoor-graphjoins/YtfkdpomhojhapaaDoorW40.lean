/-
  Walks, of the document's answer: digit.
-/
import Derived.Test.YtfkdpomhojhapaaDoorW14
import Derived.Test.YtfkdpomhojhapaaDoorW16
import Derived.Test.YtfkdpomhojhapaaDoorW42
import Derived.Test.YtfkdpomhojhapaaDoorW13
import Derived.Test.YtfkdpomhojhapaaDoorW3
import Derived.Laws.Bits128
set_option linter.unusedVariables false
set_option linter.unusedSimpArgs false
namespace Go.Proofs.YtfkdpomhojhapaaDoor
open Go.RowKit

theorem Tr.tail {a : Nat} {t : List Nat} (h : Tr (a :: t)) : Tr t := by
  cases t with
  | nil => exact .inl rfl
  | cons c t =>
    rcases h with h | h
    · cases h
    · refine .inr ?_
      simpa using h
theorem digits_unique {B : Nat} (hB : 1 < B) : ∀ {D D' : List Nat}, Dg B D → Dg B D' → Tr D → Tr D' → val B D = val B D' → D = D'
  | [], [], _, _, _, _, _ => rfl
  | [], b :: t', _, _, _, h4, h => by
    have := h4.ne_zero (B := B) (by omega) (by simp)
    exact absurd h.symm this
  | a :: t, [], _, _, h3, _, h => by
    have := h3.ne_zero (B := B) (by omega) (by simp)
    exact absurd h this
  | a :: t, b :: t', h1, h2, h3, h4, h => by
    have ha : a < B := h1 a (by simp)
    have hb : b < B := h2 b (by simp)
    rw [val_cons, val_cons] at h
    have e1 : a = b := by
      have := congrArg (· % B) h
      simp only [Nat.add_mul_mod_self_left] at this
      rwa [Nat.mod_eq_of_lt ha, Nat.mod_eq_of_lt hb] at this
    subst e1
    have e2 : val B t = val B t' := Nat.eq_of_mul_eq_mul_left (show 0 < B by omega) (by omega)
    rw [digits_unique hB (fun x hx => h1 x (by simp [hx])) (fun x hx => h2 x (by simp [hx])) h3.tail h4.tail e2]
theorem bs_ext {s t : ByteArray} (h : bs s = bs t) : s = t := by
  cases s with | mk a => cases t with | mk b =>
  have : a.toList = b.toList := map_toNat_inj h
  rw [Array.toList_inj.1 this]

/-- What Print answers. -/
def Printed (neg : Bool) (v : Nat) (radix : Int) (s : ByteArray) (en : Int) : Prop :=
  (¬ (2 ≤ radix ∧ radix ≤ 36) ∧ bs s = [] ∧ en = 1) ∨
  ((2 ≤ radix ∧ radix ≤ 36) ∧ en = 0 ∧ ∃ D, Dg radix.toNat D ∧ Tr D ∧ val radix.toNat D = v ∧ bs s = (if D = [] then [48] else (if neg then [45] else []) ++ (D.map chr).reverse))
theorem Printed.one {neg : Bool} {v : Nat} {radix : Int} {s s' : ByteArray} {en en' : Int} (h : Printed neg v radix s en) (h' : Printed neg v radix s' en') : s' = s ∧ en' = en := by
  rcases h with ⟨a, b, c⟩ | ⟨a, b, D, d1, d2, d3, d4⟩ <;> rcases h' with ⟨a', b', c'⟩ | ⟨a', b', D', d1', d2', d3', d4'⟩
  · exact ⟨bs_ext (b'.trans b.symm), c'.trans c.symm⟩
  · exact absurd a' a
  · exact absurd a a'
  · have : D' = D := digits_unique (by omega) d1' d1 d2' d2 (d3'.trans d3.symm)
    subst this
    exact ⟨bs_ext (d4'.trans d4.symm), b'.trans b.symm⟩
def PrPost (w : World) (neg : Bool) (v : Nat) (radix : Int) (e : Ending) (w' : World) : Prop := ∃ s en, e = .returned (.tuple #[.string s, .int .i64 en]) ∧ Printed neg v radix s en ∧ Below w.heap.size w w'

set_option maxHeartbeats 2000000 in
theorem print_all (neg : Bool) (ao : Option Addr) (n cap : Nat) (l : List Nat) (radix : Int) (w : World) (R : Row .u32 B32 w ao n cap l) (g1 : goodB neg l = true) :
    Calls Tryd.prog 54 #[.agg #[.bool neg, .slice ao n cap], .int .i64 radix] w (PrPost w neg (val B32 l) radix) := by
  by_cases hr : 2 ≤ radix ∧ radix ≤ 36
  · obtain ⟨rx, rfl⟩ := Int.eq_ofNat_of_zero_le (by omega : 0 ≤ radix)
    by_cases h0 : n = 0
    · subst h0
      have HC : Hid (∀ wx, Calls Tryd.prog 56 #[.int .i64 rx] wx fun e w' => e = .returned (.bool true) ∧ w' = wx) := fun wx => (isRadix_any rx wx).mono fun e w' ⟨h1, h2⟩ => ⟨by rw [h1]; simp; omega, h2⟩
      have hl : l = [] := List.length_eq_zero_iff.1 R.len
      subst hl
      have HR := hid R
      have G1 := hid g1
      have HRX := hid hr
      clear R g1 hr
      go_enter Tryd.func54, Tryd.ntmps54
      go_wp2_with fail
      refine (HC.out _).mono ?_
      rintro e wx ⟨rfl, hwx⟩
      rw [hwx]
      clear hwx
      go_wp2_with fail
      refine (good_any neg ao 0 cap [] _ (HR.out.below (Ba _ _))).mono ?_
      rintro e w1 ⟨rfl, hb1⟩
      rw [G1.out]
      have X1 := hid ((Box.new 56 w neg ao 0 cap).on hb1)
      have HB1 := hid (Bt (Ba w (.cells #[.bool neg, .slice ao 0 cap] 56)) hb1)
      obtain ⟨c0, c1⟩ := X1.out.c
      clear hb1
      go_wp2
      go_ret2
      exact ⟨_, _, rfl, .inr ⟨HRX.out, rfl, [], Dg.nil _, Tr.nil, rfl, by rw [if_pos rfl]; rfl⟩, HB1.out⟩
    · refine (print_any neg ao n cap l rx w R g1 (by omega) (by omega) h0).mono fun e w' ⟨s, D, h1, h2, h3, h4, h5, h6⟩ => ⟨s, 0, h1, .inr ⟨hr, rfl, D, h2, h3, h4, ?_⟩, h6⟩
      have hD : D ≠ [] := by
        intro e
        subst e
        have := (goodB_tr g1).ne_zero (B := B32) (by decide) (fun e => h0 (by rw [← R.len, e]; rfl))
        exact this h4.symm
      rw [h5, if_neg hD]
  · have HC : Hid (∀ wx, Calls Tryd.prog 56 #[.int .i64 radix] wx fun e w' => e = .returned (.bool false) ∧ w' = wx) := fun wx => (isRadix_any radix wx).mono fun e w' ⟨h1, h2⟩ => ⟨by rw [h1]; simp; omega, h2⟩
    have HR := hid hr
    clear hr R g1
    go_enter Tryd.func54, Tryd.ntmps54
    go_wp2_with (go_at_call 56; refine (HC.out _).mono ?_; rintro e wx ⟨rfl, hwx⟩; rw [hwx]; clear hwx)
    go_ret2
    exact ⟨_, _, rfl, .inl ⟨HR.out, rfl, rfl⟩, Ba _ _⟩

set_option maxHeartbeats 2000000 in
theorem rprint_all (neg : Bool) (ao : Option Addr) (n cap : Nat) (l : List Nat) (radix : Int) (w : World) (R : Row .u32 B32 w ao n cap l) (hn : n ≤ 40) :
    Calls Tryd.prog 39 #[.agg #[.bool neg, .slice ao n cap], .int .i64 radix] w (PrPost w neg (val B32 l) radix) := by
  by_cases hlo : radix < 2
  · have e1 : decide (radix < 2) = true := by simp [hlo]
    have HN : Hid (¬ (2 ≤ radix ∧ radix ≤ 36)) := fun h => by omega
    clear R
    go_enter Tryd.func39, Tryd.ntmps39
    go_wp2
    go_ret2
    exact ⟨_, _, rfl, .inl ⟨HN.out, rfl, rfl⟩, Ba _ _⟩
  by_cases hhi : 36 < radix
  · have e1 : decide (radix < 2) = false := by simp; omega
    have e2 : decide (36 < radix) = true := by simp [hhi]
    have HN : Hid (¬ (2 ≤ radix ∧ radix ≤ 36)) := fun h => by omega
    clear R
    go_enter Tryd.func39, Tryd.ntmps39
    go_wp2
    go_ret2
    exact ⟨_, _, rfl, .inl ⟨HN.out, rfl, rfl⟩, Ba _ _⟩
  obtain ⟨rx, rfl⟩ := Int.eq_ofNat_of_zero_le (by omega : 0 ≤ radix)
  exact (rprint_any neg ao n cap l rx w R hn (by omega) (by omega)).mono fun e w' ⟨s, D, h1, h2, h3, h4, h5, h6⟩ => ⟨s, 0, h1, .inr ⟨by omega, rfl, D, h2, h3, h4, h5⟩, h6⟩

end Go.Proofs.YtfkdpomhojhapaaDoor

set_option linter.unusedVariables false
set_option linter.unusedSimpArgs false
namespace Go.Proofs.YtfkdpomhojhapaaDoor
open Go.RowKit

/-- A node as data. -/
structure Nd where
  kind : Int
  num : Int
  text : ByteArray
  kids : List Int
instance : Inhabited Nd := ⟨⟨0, 0, ByteArray.empty, []⟩⟩

def I64 (z : Int) : Prop := -9223372036854775808 ≤ z ∧ z ≤ 9223372036854775807

/-- A slice of numbers of 64 bits, which are those of l. -/
structure IRow (w : World) (ao : Option Addr) (n cap : Nat) (l : List Int) : Prop where
  len : l.length = n
  fits : n ≤ cap
  most : cap ≤ maxLen
  nil_ : ao = none → cap = 0
  bd : ∀ z ∈ l, I64 z
  rd : l = [] ∨ ∃ b o, ao = some ⟨b, o, none⟩ ∧ b < w.heap.size ∧ ∀ i, i < l.length → w.cell? ⟨b, o + i, none⟩ = some (.int .i64 (l.getD i 0))
theorem IRow.some {w : World} {ao : Option Addr} {n cap : Nat} {l : List Int} (h : IRow w ao n cap l) (hl : 0 < n) :
    ∃ b o, ao = some ⟨b, o, none⟩ ∧ b < w.heap.size ∧ ∀ i, i < n → w.cell? ⟨b, o + i, none⟩ = some (.int .i64 (l.getD i 0)) := by
  rcases h.rd with e | h2
  · have := h.len; simp [e] at this; omega
  · rw [h.len] at h2; exact h2
theorem IRow.below {w w' : World} {ao : Option Addr} {n cap : Nat} {l : List Int} (h : IRow w ao n cap l) (hb : Below w.heap.size w w') : IRow w' ao n cap l := by
  refine ⟨h.len, h.fits, h.most, h.nil_, h.bd, ?_⟩
  rcases h.rd with e | ⟨b, o, e, hl, hc⟩
  · exact .inl e
  · exact .inr ⟨b, o, e, Nat.lt_of_lt_of_le hl hb.size, fun i hi => (hb.cell (p := ⟨b, o + i, none⟩) hl).trans (hc i hi)⟩
theorem IRow.nil (w : World) (ao : Option Addr) : IRow w ao 0 0 [] := ⟨rfl, Nat.le_refl _, Nat.zero_le _, fun _ => rfl, fun _ h => (by cases h), .inl rfl⟩
theorem IRow.get {w : World} {ao : Option Addr} {n cap : Nat} {l : List Int} (h : IRow w ao n cap l) {i : Nat} (hi : i < n) : I64 (l.getD i 0) := by
  have hi' : i < l.length := by rw [h.len]; exact hi
  rw [List.getD_eq_getElem?_getD, List.getElem?_eq_getElem hi']
  exact h.bd _ (List.getElem_mem hi')

/-- A node's cells lie there. -/
def NdAt (w : World) (b o : Nat) (d : Nd) : Prop :=
  w.cell? ⟨b, o, none⟩ = some (.int .i64 d.kind) ∧ w.cell? ⟨b, o + 1, none⟩ = some (.int .i64 d.num) ∧ w.cell? ⟨b, o + 2, none⟩ = some (.string d.text) ∧
    ∃ ao n cap, w.cell? ⟨b, o + 3, none⟩ = some (.slice ao n cap) ∧ IRow w ao n cap d.kids
theorem NdAt.below {w w' : World} {b o : Nat} {d : Nd} (h : NdAt w b o d) (hl : b < w.heap.size) (hb : Below w.heap.size w w') : NdAt w' b o d := by
  obtain ⟨h1, h2, h3, ao, n, cap, h4, h5⟩ := h
  exact ⟨(hb.cell (p := ⟨b, o, none⟩) hl).trans h1, (hb.cell (p := ⟨b, o + 1, none⟩) hl).trans h2, (hb.cell (p := ⟨b, o + 2, none⟩) hl).trans h3, ao, n, cap, (hb.cell (p := ⟨b, o + 3, none⟩) hl).trans h4, h5.below hb⟩
/-- What a node's numbers and text fit into. -/
def NdOk (d : Nd) : Prop := I64 d.kind ∧ I64 d.num ∧ d.text.size ≤ maxLen
/-- A slice of nodes, which are those of l. -/
structure NRow (w : World) (ao : Option Addr) (n cap : Nat) (l : List Nd) : Prop where
  len : l.length = n
  fits : n ≤ cap
  most : cap ≤ maxLen
  nil_ : ao = none → cap = 0
  ok : ∀ d ∈ l, NdOk d
  rd : l = [] ∨ ∃ b o, ao = some ⟨b, o, none⟩ ∧ b < w.heap.size ∧ ∀ i, i < l.length → NdAt w b (o + i * 4) (l.getD i default)
theorem NRow.some {w : World} {ao : Option Addr} {n cap : Nat} {l : List Nd} (h : NRow w ao n cap l) (hl : 0 < n) :
    ∃ b o, ao = some ⟨b, o, none⟩ ∧ b < w.heap.size ∧ ∀ i, i < n → NdAt w b (o + i * 4) (l.getD i default) := by
  rcases h.rd with e | h2
  · have := h.len; simp [e] at this; omega
  · rw [h.len] at h2; exact h2
theorem NRow.below {w w' : World} {ao : Option Addr} {n cap : Nat} {l : List Nd} (h : NRow w ao n cap l) (hb : Below w.heap.size w w') : NRow w' ao n cap l := by
  refine ⟨h.len, h.fits, h.most, h.nil_, h.ok, ?_⟩
  rcases h.rd with e | ⟨b, o, e, hl, hc⟩
  · exact .inl e
  · exact .inr ⟨b, o, e, Nat.lt_of_lt_of_le hl hb.size, fun i hi => (hc i hi).below hl hb⟩
theorem NRow.get {w : World} {ao : Option Addr} {n cap : Nat} {l : List Nd} (h : NRow w ao n cap l) {i : Nat} (hi : i < n) : NdOk (l.getD i default) := by
  have hi' : i < l.length := by rw [h.len]; exact hi
  rw [List.getD_eq_getElem?_getD, List.getElem?_eq_getElem hi']
  exact h.ok _ (List.getElem_mem hi')
theorem NRow.nil (w : World) (ao : Option Addr) : NRow w ao 0 0 [] := ⟨rfl, Nat.le_refl _, Nat.zero_le _, fun _ => rfl, fun _ h => (by cases h), .inl rfl⟩

/-- A graph's value. -/
def GVal (an : Option Addr) (nn cn : Nat) (ar : Option Addr) (nr cr : Nat) : Value := .agg #[.slice an nn cn, .slice ar nr cr]
/-- The graph with these nodes and roots lies there. -/
structure GIs (w : World) (an : Option Addr) (nn cn : Nat) (ar : Option Addr) (nr cr : Nat) (ns : List Nd) (rs : List Int) : Prop where
  nodes : NRow w an nn cn ns
  roots : IRow w ar nr cr rs
theorem GIs.below {w w' : World} {an ar : Option Addr} {nn cn nr cr : Nat} {ns : List Nd} {rs : List Int} (h : GIs w an nn cn ar nr cr ns rs) (hb : Below w.heap.size w w') : GIs w' an nn cn ar nr cr ns rs := ⟨h.nodes.below hb, h.roots.below hb⟩

/-- A block of two slices: a graph in a variable. -/
def GBox (t : TypeId) (w : World) (p : Nat) (an : Option Addr) (nn cn : Nat) (ar : Option Addr) (nr cr : Nat) : Prop := w.heap[p]? = some (.cells #[.slice an nn cn, .slice ar nr cr] t (0, 0))
theorem GBox.lt {t : TypeId} {w : World} {p : Nat} {an ar : Option Addr} {nn cn nr cr : Nat} (h : GBox t w p an nn cn ar nr cr) : p < w.heap.size := (Array.getElem?_eq_some_iff.1 h).1
theorem GBox.on {t : TypeId} {w w' : World} {p : Nat} {an ar : Option Addr} {nn cn nr cr : Nat} (h : GBox t w p an nn cn ar nr cr) (hb : Below w.heap.size w w') : GBox t w' p an nn cn ar nr cr := (hb.block p h.lt).trans h
theorem GBox.c {t : TypeId} {w : World} {p : Nat} {an ar : Option Addr} {nn cn nr cr : Nat} (h : GBox t w p an nn cn ar nr cr) : w.cell? ⟨p, 0, none⟩ = some (.slice an nn cn) ∧ w.cell? ⟨p, 1, none⟩ = some (.slice ar nr cr) := ⟨blk_cell h 0, blk_cell h 1⟩
theorem GBox.new (t : TypeId) (w : World) (an ar : Option Addr) (nn cn nr cr : Nat) : GBox t (w.alloc (.cells #[.slice an nn cn, .slice ar nr cr] t)) w.heap.size an nn cn ar nr cr := blk_new _ _ _

/-- Few and small, up to place k. -/
def fewTo (ns : List Nd) (k : Nat) : Bool := (ns.take k).all fun d => decide (d.text.size ≤ 2000) && decide (d.kids.length ≤ 100)
def fewB (ns : List Nd) (rs : List Int) (most : Nat) : Bool := decide (ns.length ≤ most) && decide (rs.length ≤ most) && fewTo ns ns.length
theorem fewTo_succ {ns : List Nd} {k : Nat} (h : k < ns.length) : fewTo ns (k + 1) = (fewTo ns k && (decide ((ns.getD k default).text.size ≤ 2000) && decide ((ns.getD k default).kids.length ≤ 100))) := by
  unfold fewTo
  rw [List.take_succ_eq_append_getElem h, List.all_append, List.getD_eq_getElem?_getD, List.getElem?_eq_getElem h]; simp
theorem fewTo_false {ns : List Nd} {k j : Nat} (hk : k < j) (hj : j ≤ ns.length) (h : fewTo ns (k + 1) = false) : fewTo ns j = false := by
  unfold fewTo at *
  rw [List.all_eq_false] at h ⊢
  obtain ⟨x, hx, h2⟩ := h
  refine ⟨x, ?_, h2⟩
  exact (List.take_prefix_take_left (l := ns) (by omega : k + 1 ≤ j)).subset hx

end Go.Proofs.YtfkdpomhojhapaaDoor

set_option linter.unusedVariables false
set_option linter.unusedSimpArgs false
namespace Go.Proofs.YtfkdpomhojhapaaDoor
open Go.RowKit

theorem and_255n (t : Nat) (h : t < 9223372036854775808) : bits .and .i64 (t : Int) 255 = ((t % 256 : Nat) : Int) := by
  have h1 : (BitVec.ofInt 64 (t : Int)).toNat = t := by
    rw [BitVec.ofInt_natCast, BitVec.toNat_ofNat]; exact Nat.mod_eq_of_lt (by omega)
  show IntKind.i64.wrap ((BitVec.ofInt 64 (t : Int) &&& BitVec.ofInt 64 255).toNat : Int) = _
  rw [BitVec.toNat_and, h1]
  have h2 : (BitVec.ofInt 64 255).toNat = 2 ^ 8 - 1 := by decide
  rw [h2, Nat.and_two_pow_sub_one_eq_mod, IntKind.wrap_i64]
  omega

/-- What a byte says as a digit, as the document has it; -1: nothing. -/
def dgi (c : Nat) : Int := if dgt c = 36 then -1 else (dgt c : Int)

set_option maxHeartbeats 800000 in
theorem rdigit_any (c : Nat) (hc : c < 256) (w : World) :
    Calls Tryd.prog 47 #[.int .u8 c] w fun e w' => e = .returned (.int .i64 (dgi c)) ∧ w' = w := by
  by_cases a1 : 48 ≤ c ∧ c ≤ 57
  · obtain ⟨a, b⟩ := a1
    have HV : Hid (dgi c = (c : Int) - 48) := by
      have : dgt c = c - 48 := by unfold dgt; rw [if_pos ⟨a, b⟩]
      unfold Hid dgi; rw [this, if_neg (by omega)]; omega
    go_enter Tryd.func47, Tryd.ntmps47
    go_wp2
    go_ret
    exact ⟨ret_i64 (by rw [HV.out] <;> omega), rfl⟩
  · by_cases a2 : 97 ≤ c ∧ c ≤ 122
    · obtain ⟨a, b⟩ := a2
      have HV : Hid (dgi c = (c : Int) - 87) := by
        have : dgt c = c - 87 := by unfold dgt; rw [if_neg a1, if_pos ⟨a, b⟩]
        unfold Hid dgi; rw [this, if_neg (by omega)]; omega
      clear a1
      go_enter Tryd.func47, Tryd.ntmps47
      go_wp2
      go_ret
      exact ⟨ret_i64 (by rw [HV.out] <;> omega), rfl⟩
    · by_cases a3 : 65 ≤ c ∧ c ≤ 90
      · obtain ⟨a, b⟩ := a3
        have HV : Hid (dgi c = (c : Int) - 55) := by
          have : dgt c = c - 55 := by unfold dgt; rw [if_neg a1, if_neg a2, if_pos ⟨a, b⟩]
          unfold Hid dgi; rw [this, if_neg (by omega)]; omega
        clear a1 a2
        go_enter Tryd.func47, Tryd.ntmps47
        go_wp2
        go_ret
        exact ⟨ret_i64 (by rw [HV.out] <;> omega), rfl⟩
      · have HV : Hid (dgi c = -1) := by
          have : dgt c = 36 := by unfold dgt; rw [if_neg a1, if_neg a2, if_neg a3]
          unfold Hid dgi; rw [this, if_pos rfl]
        have hr : c < 48 ∨ (57 < c ∧ c < 65) ∨ (90 < c ∧ c < 97) ∨ 122 < c := by omega
        clear a1 a2 a3
        rcases hr with h | ⟨h, h'⟩ | ⟨h, h'⟩ | h
        all_goals
          go_enter Tryd.func47, Tryd.ntmps47
          go_wp2
          go_ret
          exact ⟨ret_i64 (by rw [HV.out]), rfl⟩

theorem cutS_sign {l : List Nat} {c : Nat} {r : List Nat} (h : l = c :: r) (hc : c = 43 ∨ c = 45) : cutS l = (decide (c = 45), r) := by
  subst h; simp [cutS, hc]
theorem cutS_plain {l : List Nat} {c : Nat} {r : List Nat} (h : l = c :: r) (hc : ¬ (c = 43 ∨ c = 45)) : cutS l = (false, c :: r) := by
  subst h; simp [cutS, hc]
theorem digitsB_of {rx : Nat} {l : List Nat} (h0 : 0 < l.length) (h : ∀ j, j < l.length → dgt (l.getD j 0) < rx) : digitsB (rx : Int) l = true := by
  unfold digitsB
  rw [Bool.and_eq_true]
  refine ⟨?_, by simp; intro e; rw [e] at h0; simp at h0⟩
  rw [List.all_eq_true]
  intro x hx
  obtain ⟨j, hj, rfl⟩ := List.mem_iff_getElem.1 hx
  have := h j hj
  rw [List.getD_eq_getElem?_getD, List.getElem?_eq_getElem hj] at this
  simpa using this
theorem digitsB_not {rx : Nat} {l : List Nat} {j : Nat} (hj : j < l.length) (h : rx ≤ dgt (l.getD j 0)) : digitsB (rx : Int) l = false := by
  unfold digitsB
  rw [Bool.and_eq_false_iff]
  left
  rw [List.all_eq_false]
  exact ⟨l.getD j 0, getD_mem hj, by simp; rw [← List.getD_eq_getElem?_getD]; omega⟩
theorem digitsB_nil {rx : Int} : digitsB rx [] = false := by simp [digitsB]
theorem getD_drop' (l : List Nat) (a j : Nat) : (l.drop a).getD j 0 = l.getD (a + j) 0 := by
  rw [List.getD_eq_getElem?_getD, List.getElem?_drop, ← List.getD_eq_getElem?_getD]

end Go.Proofs.YtfkdpomhojhapaaDoor
