/-
  Walks of the program's store, for Show: bytesNode, textNode.
-/
import Derived.Test.YtadfihnffboelaaGreatDoorSG9
import Derived.Test.YtadfihnffboelaaGreatDoorX3
import Derived.Test.YtadfihnffboelaaGreatDoorSG1
import Derived.Laws.Cover4
import Derived.Laws.BytesArg
set_option linter.unusedVariables false
set_option linter.unusedSimpArgs false
set_option maxRecDepth 100000
namespace Go.Proofs.YtadfihnffboelaaGreatDoor
open Go.RowKit

/-- A node without kids as a value. -/
def bareV (d : Nd) : Value := .agg #[.int .i64 d.kind, .int .i64 d.num, .string d.text, .slice none 0 0]
/-- A node that is nought, in a block of its own. -/
def NZ (g : Nat) (w : World) : Prop := w.heap[g]? = some (.cells #[.int .i64 0, .int .i64 0, .string ⟨#[]⟩, .slice none 0 0] 68 (0, 0))
theorem NZ.c {g : Nat} {w : World} (h : NZ g w) : w.cell? ⟨g, 0, none⟩ = some (.int .i64 0) ∧ w.cell? ⟨g, 1, none⟩ = some (.int .i64 0) ∧ w.cell? ⟨g, 2, none⟩ = some (.string ⟨#[]⟩) ∧ w.cell? ⟨g, 3, none⟩ = some (.slice none 0 0) ∧ w.frozen? ⟨g, 0, none⟩ = false ∧ w.frozen? ⟨g, 1, none⟩ = false ∧ w.frozen? ⟨g, 2, none⟩ = false ∧ w.frozen? ⟨g, 3, none⟩ = false :=
  ⟨blk_cell h 0, blk_cell h 1, blk_cell h 2, blk_cell h 3, blk_free h 0, blk_free h 1, blk_free h 2, blk_free h 3⟩
theorem NZ.new (w : World) : NZ w.heap.size (w.alloc (.cells #[.int .i64 0, .int .i64 0, .string ⟨#[]⟩, .slice none 0 0] 68)) := blk_new _ _ _
theorem NZ.on {g : Nat} {w w' : World} (h : NZ g w) (hb : Below w.heap.size w w') : NZ g w' := (hb.block g (Array.getElem?_eq_some_iff.1 h).1).trans h
theorem void_any (w : World) : Calls Tryz.prog 137 #[] w fun e w' => e = .returned (bareV voidN) ∧ Below w.heap.size w w' := by
  have hst := blk_new w #[.int .i64 11, .int .i64 0, .string ⟨#[]⟩, .slice none 0 0] 68
  have t0 := blk_cell hst 0
  have t1 := blk_cell hst 1
  have t2 := blk_cell hst 2
  have t3 := blk_cell hst 3
  have HB := hid (Ba w (.cells #[.int .i64 11, .int .i64 0, .string ⟨#[]⟩, .slice none 0 0] 68))
  clear hst
  go_enter Tryz.func137, Tryz.ntmps137
  go_wp2_with fail
  (try simp only [Exit.inBlock, Exit.then]); refine bodyPost_ret (by simp [results, Tryz.results137, go_sem, t0, t1, t2, t3]; rfl) rfl ?_
  exact ⟨rfl, HB.out⟩
/-- Is a word a number from 0 to most? -/
def uptoB (most x : Int) : Bool := decide (nK x = 1) && (decide (0 ≤ nN x) && decide (nN x ≤ most))
theorem upto_any (most x : Int) (hx : U64 x) (w : World) : Calls Tryz.prog 160 #[.int .i64 most, .int .u64 x] w fun e w' => ∃ n, e = .returned (.tuple #[.int .i64 n, .bool (uptoB most x)]) ∧ (uptoB most x = true → n = nN x) ∧ w' = w := by
  have C := hid (int_any x hx w)
  have e1 : isR 1 x = decide (nK x = 1) := rfl
  have e2 : hasR 1 x = if nK x = 1 then nN x else 0 := rfl
  have HU : Hid (uptoB most x = (decide (nK x = 1) && (decide (0 ≤ nN x) && decide (nN x ≤ most)))) := rfl
  rw [e1, e2] at C
  obtain ⟨k, hk⟩ : ∃ k, k = nK x := ⟨_, rfl⟩
  obtain ⟨n, hn⟩ : ∃ k, k = nN x := ⟨_, rfl⟩
  rw [← hk, ← hn] at C HU
  rw [← hn]
  clear hk hn hx e1 e2
  by_cases h1 : k = 1
  · subst h1
    rw [if_pos rfl] at C
    by_cases h2 : 0 ≤ n
    · have d2 : decide (0 ≤ n) = true := decide_eq_true h2
      by_cases h3 : n ≤ most
      · have d3 : decide (n ≤ most) = true := decide_eq_true h3
        rw [d2, d3] at HU
        go_enter Tryz.func160, Tryz.ntmps160
        go_wp2_with (go_at_call 138; (with_reducible refine C.out.mono ?_); rintro e W1 ⟨rfl, hw1⟩; rw [hw1]; clear hw1)
        go_ret2
        exact ⟨n, by rw [HU.out]; rfl, fun _ => rfl, rfl⟩
      · have d3 : decide (n ≤ most) = false := decide_eq_false h3
        rw [d2, d3] at HU
        go_enter Tryz.func160, Tryz.ntmps160
        go_wp2_with (go_at_call 138; (with_reducible refine C.out.mono ?_); rintro e W1 ⟨rfl, hw1⟩; rw [hw1]; clear hw1)
        go_ret2
        exact ⟨n, by rw [HU.out]; rfl, fun _ => rfl, rfl⟩
    · have d2 : decide (0 ≤ n) = false := decide_eq_false h2
      rw [d2] at HU
      go_enter Tryz.func160, Tryz.ntmps160
      go_wp2_with (go_at_call 138; (with_reducible refine C.out.mono ?_); rintro e W1 ⟨rfl, hw1⟩; rw [hw1]; clear hw1)
      go_ret2
      exact ⟨n, by rw [HU.out]; rfl, fun _ => rfl, rfl⟩
  · rw [if_neg h1, decide_eq_false h1] at C
    rw [decide_eq_false h1, Bool.false_and] at HU
    clear h1
    go_enter Tryz.func160, Tryz.ntmps160
    go_wp2_with (go_at_call 138; (with_reducible refine C.out.mono ?_); rintro e W1 ⟨rfl, hw1⟩; rw [hw1]; clear hw1)
    go_ret2
    exact ⟨0, by rw [HU.out]; rfl, fun h => (by rw [HU.out] at h; cases h), rfl⟩
/-- A node, and the words that its kids show, which lie where the fields do. -/
def KPost (d : Nd) (ao : Option Addr) (w : World) (e : Ending) (w' : World) : Prop := ∃ ak nk ck, e = .returned (.tuple #[bareV d, .slice ak nk ck]) ∧ URow w' ak nk ck d.kids ∧ (∀ a, ak = some a → ∃ a0, ao = some a0 ∧ a0.block = a.block) ∧ Below w.heap.size w w'
theorem unil (w : World) : URow w none 0 0 [] := ⟨rfl, Nat.le_refl _, Nat.zero_le _, fun _ => rfl, fun z h => (by cases h), .inl rfl⟩
theorem KPost.void {ao : Option Addr} {w w' : World} (hb : Below w.heap.size w w') : KPost voidN ao w (.returned (.tuple #[bareV voidN, .slice none 0 0])) w' := ⟨none, 0, 0, rfl, unil _, fun a e => (by cases e), hb⟩
theorem pair_any (ao : Option Addr) (n cap : Nat) (f : List Int) (w : World) (R : URow w ao n cap f) (hn : n ≤ 5000000) : Calls Tryz.prog 129 #[.slice ao n cap] w (KPost (if f.length = 2 then ⟨7, 0, ByteArray.empty, f⟩ else voidN) ao w) := by
  have hl := R.len
  have hft := R.fits
  have hmx := R.most
  unfold maxLen at hmx
  have HR := hid R
  have hz := NZ.new w
  have HB := hid (Ba w (.cells #[.int .i64 0, .int .i64 0, .string ⟨#[]⟩, .slice none 0 0] 68))
  rw [hl]
  by_cases h2 : n = 2
  · rw [if_pos h2]
    have hst := blk_new w #[.int .i64 7, .int .i64 0, .string ⟨#[]⟩, .slice none 0 0] 68
    have t0 := blk_cell hst 0
    have t1 := blk_cell hst 1
    have t2 := blk_cell hst 2
    have t3 := blk_cell hst 3
    have HB2 := hid (Ba w (.cells #[.int .i64 7, .int .i64 0, .string ⟨#[]⟩, .slice none 0 0] 68))
    subst h2
    clear hz hst R hl
    go_enter Tryz.func129, Tryz.ntmps129
    go_wp2_with fail
    (try simp only [Exit.inBlock, Exit.then]); refine bodyPost_ret (by simp [results, Tryz.results129, go_sem, t0, t1, t2, t3]; rfl) rfl ?_
    exact ⟨ao, 2, cap, rfl, HR.out.on HB2.out, fun a e => ⟨a, e, rfl⟩, HB2.out⟩
  · rw [if_neg h2]
    have CV : Hid (∀ W, Calls Tryz.prog 137 #[] W fun e w' => e = .returned (bareV voidN) ∧ Below W.heap.size W w') := fun W => void_any W
    have e2 : ((n : Int) != 2) = true := by simp; omega
    have HZ := hid hz
    have eb : bareV voidN = .agg #[.int .i64 11, .int .i64 0, .string ⟨#[]⟩, .slice none 0 0] := rfl
    rw [eb] at CV
    clear hz R hl h2 eb
    go_enter Tryz.func129, Tryz.ntmps129
    go_wp2_with (go_at_call 137; (with_reducible refine (CV.out _).mono ?_); rintro e W1 ⟨rfl, b1⟩; have hz1 := HZ.out.on b1; obtain ⟨c0, c1, c2, c3, f0, f1, f2, f3⟩ := hz1.c; have hst := store4 (v1 := .int .i64 11) (v2 := .int .i64 0) (v3 := .string ⟨#[]⟩) (v4 := .slice none 0 0) hz1; have t0 := blk_cell hst 0; have t1 := blk_cell hst 1; have t2 := blk_cell hst 2; have t3 := blk_cell hst 3; have HB2 := hid (store4_below (v1 := .int .i64 11) (v2 := .int .i64 0) (v3 := .string ⟨#[]⟩) (v4 := .slice none 0 0) (Bt HB.out b1) (Nat.le_refl w.heap.size)); clear b1 hz1 hst)
    (try simp only [Exit.inBlock, Exit.then]); refine bodyPost_ret (by simp [results, Tryz.results129, go_sem, t0, t1, t2, t3]; rfl) rfl ?_
    exact KPost.void HB2.out
theorem vector_any (ao : Option Addr) (n cap : Nat) (f : List Int) (w : World) (R : URow w ao n cap f) (hn : n ≤ 5000000) : Calls Tryz.prog 131 #[.slice ao n cap] w (KPost (if f.length ≤ 1024 then ⟨8, 0, ByteArray.empty, f⟩ else voidN) ao w) := by
  have hl := R.len
  have hft := R.fits
  have hmx := R.most
  unfold maxLen at hmx
  have HR := hid R
  have hz := NZ.new w
  have HB := hid (Ba w (.cells #[.int .i64 0, .int .i64 0, .string ⟨#[]⟩, .slice none 0 0] 68))
  rw [hl]
  by_cases h2 : n ≤ 1024
  · rw [if_pos h2]
    have e2 : decide ((1024 : Int) < n) = false := by simp; omega
    have hst := blk_new w #[.int .i64 8, .int .i64 0, .string ⟨#[]⟩, .slice none 0 0] 68
    have t0 := blk_cell hst 0
    have t1 := blk_cell hst 1
    have t2 := blk_cell hst 2
    have t3 := blk_cell hst 3
    have HB2 := hid (Ba w (.cells #[.int .i64 8, .int .i64 0, .string ⟨#[]⟩, .slice none 0 0] 68))
    clear hz hst R hl
    go_enter Tryz.func131, Tryz.ntmps131
    go_wp2_with fail
    (try simp only [Exit.inBlock, Exit.then]); refine bodyPost_ret (by simp [results, Tryz.results131, go_sem, t0, t1, t2, t3]; rfl) rfl ?_
    exact ⟨ao, n, cap, rfl, HR.out.on HB2.out, fun a e => ⟨a, e, rfl⟩, HB2.out⟩
  · rw [if_neg h2]
    have CV : Hid (∀ W, Calls Tryz.prog 137 #[] W fun e w' => e = .returned (bareV voidN) ∧ Below W.heap.size W w') := fun W => void_any W
    have e2 : decide ((1024 : Int) < n) = true := by simp; omega
    have HZ := hid hz
    have eb : bareV voidN = .agg #[.int .i64 11, .int .i64 0, .string ⟨#[]⟩, .slice none 0 0] := rfl
    rw [eb] at CV
    clear hz R hl h2 eb
    go_enter Tryz.func131, Tryz.ntmps131
    go_wp2_with (go_at_call 137; (with_reducible refine (CV.out _).mono ?_); rintro e W1 ⟨rfl, b1⟩; have hz1 := HZ.out.on b1; obtain ⟨c0, c1, c2, c3, f0, f1, f2, f3⟩ := hz1.c; have hst := store4 (v1 := .int .i64 11) (v2 := .int .i64 0) (v3 := .string ⟨#[]⟩) (v4 := .slice none 0 0) hz1; have t0 := blk_cell hst 0; have t1 := blk_cell hst 1; have t2 := blk_cell hst 2; have t3 := blk_cell hst 3; have HB2 := hid (store4_below (v1 := .int .i64 11) (v2 := .int .i64 0) (v3 := .string ⟨#[]⟩) (v4 := .slice none 0 0) (Bt HB.out b1) (Nat.le_refl w.heap.size)); clear b1 hz1 hst)
    (try simp only [Exit.inBlock, Exit.then]); refine bodyPost_ret (by simp [results, Tryz.results131, go_sem, t0, t1, t2, t3]; rfl) rfl ?_
    exact KPost.void HB2.out
end Go.Proofs.YtadfihnffboelaaGreatDoor

set_option linter.unusedVariables false
set_option linter.unusedSimpArgs false
set_option maxRecDepth 100000
namespace Go.Proofs.YtadfihnffboelaaGreatDoor
open Go.RowKit

/-- Numbers of a kind as values. -/
def kz (k : IntKind) (l : List Int) : List Value := l.map (Value.int k)
theorem kz_append (k : IntKind) (a b : List Int) : kz k (a ++ b) = kz k a ++ kz k b := by simp [kz]
theorem info_u8' : (Tryz.prog.info? 5).map (fun i => (i.zero, i.size, i.bytes)) = some (some (.int .u8 0), 1, 1) := by kernel_rfl
theorem info_i32' : (Tryz.prog.info? 21).map (fun i => (i.zero, i.size, i.bytes)) = some (some (.int .i32 0), 1, 4) := by kernel_rfl
/-- 'append(row, x)' of numbers of a kind. -/
theorem appK {P : Program} {w : World} {ops : Array Oper} {rest : List Oper} {o : Oper} {a : Act} {Q : Exit → Act → World → Prop} (k : IntKind) (by_ : Nat) (hby8 : by_ ≤ 8) (hgd : o.guard = none) (s x : Operand) (t : TypeId) (ho : o.op = .call { callee := .builtin .append, args := #[s, x], argTypes := #[t, t] })
    (base : Nat) (e : TypeId) (ht : P.underlying t = some (.slice e)) (hi : (P.info? e).map (fun i => (i.zero, i.size, i.bytes)) = some (some (.int k 0), 1, by_))
    (v : Value) (n : Nat) (l : List Int) (hs : a.eval s = v) (hown : w.ownsRow base e 1 v n (kz k l))
    (ad : Addr) (c : Nat) (d : Int) (hx : a.eval x = .slice (some ad) 1 c) (hd : w.cell? ad = some (.int k d)) (hsm : n ≤ 10000000) (hbase : base ≤ w.heap.size)
    (h : ∀ g cap w', w'.ownsRow base e 1 (.slice (some ⟨g, 0, none⟩) (n + 1) cap) (n + 1) (kz k (l ++ [d])) → w.grownBy w' v.ownBlock → (v.ownBlock = some g ∨ g = w.heap.size) → g < w'.heap.size → wpList P ops Q rest (a.put o.dst (.slice (some ⟨g, 0, none⟩) (n + 1) cap)) w') :
    wpList P ops Q (o :: rest) a w := by
  obtain ⟨i0, hi0, hz0, hz1, hz2⟩ : ∃ i0, P.info? e = some i0 ∧ i0.zero = some (.int k 0) ∧ i0.size = 1 ∧ i0.bytes = by_ := by
    cases h : P.info? e with
    | none => rw [h] at hi; cases hi
    | some i => rw [h] at hi; simp at hi; exact ⟨i, rfl, hi.1, hi.2.1, hi.2.2⟩
  refine wpList_append_lies w hgd s x t ho base e i0 (.int k 0) 1 by_ ht hi0 hz0 hz1 hz2 rfl (by decide) v n (kz k l) hs hown ad 1 c [.int k d] hx rfl ?_ ?_ (by decide) (by unfold maxLen; omega) ?_ hbase w.heap.size rfl ?_
  · intro j u hj
    match j, hj with
    | 0, hj => simp at hj; subst hj; simpa [Addr.add] using hd
  · intro u hu; simp at hu; subst hu; rfl
  · have : (n + 1) * by_ ≤ 10000001 * 8 := Nat.mul_le_mul (by omega) hby8
    omega
  · intro g cap w' h1 h2 h3 h4
    refine h g cap w' ?_ h2 h3 h4
    rw [kz_append]; exact h1
theorem kz_get {k : IntKind} {l : List Int} {i : Nat} (h : i < l.length) : (kz k l)[i]? = some (.int k (l.getD i 0)) := by
  unfold kz
  rw [List.getElem?_map, List.getD_eq_getElem?_getD, List.getElem?_eq_getElem h]; rfl
theorem kz_cell {k : IntKind} {w : World} {base : Nat} {e : TypeId} {v : Value} {l : List Int} (h : w.ownsRow base e 1 v l.length (kz k l)) : (v = .slice none 0 0 ∧ l = []) ∨ ∃ g cap, v = .slice (some ⟨g, 0, none⟩) l.length cap ∧ ∀ j, j < l.length → w.cell? ((⟨g, 0, none⟩ : Addr).add j) = some (.int k (l.getD j 0)) := by
  rcases h.2 with ⟨e1, e2⟩ | ⟨g, cap, cur, e1, e2, e3, e4, e5, e6, e7⟩
  · exact .inl ⟨e1, List.length_eq_zero_iff.1 e2⟩
  · refine .inr ⟨g, cap, e1, fun j hj => ?_⟩
    have hc : w.cell? ⟨g, j, none⟩ = some (.int k (l.getD j 0)) := by
      rw [blk_cell e3, ← kz_get hj, ← e7, List.getElem?_take, if_pos (by omega)]
      simp
    unfold Addr.add
    by_cases h0 : j = 0
    · subst h0; simpa using hc
    · rw [if_neg h0]; simpa using hc
theorem conv_bytes {w : World} {base : Nat} {v : Value} {l : List Int} (h : w.ownsRow base 5 1 v l.length (kz .u8 l)) (hb : ∀ x ∈ l, 0 ≤ x ∧ x < 256) : (convert 177 9 v).run Tryz.prog w = .ok (.string (textOf (l.map Int.toNat))) w := by
  rcases kz_cell h with ⟨rfl, rfl⟩ | ⟨g, cap, rfl, hc⟩
  · exact run_convert_bytes_nil (P := Tryz.prog) w 177 5 Tryz.underlying177 Tryz.underlying5 0 0 9 Tryz.underlying9
  · have hl : ((l.map Int.toNat).map UInt8.ofNat).length = l.length := by simp
    have := run_convert_bytes_back (P := Tryz.prog) w 177 9 5 ⟨g, 0, none⟩ cap ((l.map Int.toNat).map UInt8.ofNat) Tryz.underlying177 Tryz.underlying5 Tryz.underlying9 (fun j hj => by
      rw [hl] at hj
      rw [hc j hj]
      have hx := hb _ (getD_in_f hj)
      have e : ((l.map Int.toNat).map UInt8.ofNat)[j].toNat = (l.getD j 0).toNat := by
        rw [List.getElem_map, List.getElem_map, UInt8.toNat_ofNat', List.getD_eq_getElem?_getD, List.getElem?_eq_getElem hj]
        rw [List.getD_eq_getElem?_getD, List.getElem?_eq_getElem hj] at hx
        simp only [Option.getD_some] at hx ⊢
        omega
      rw [e]
      congr 2
      omega)
    rw [hl] at this
    exact this
theorem runes_bs : ∀ (ns : List Int) (s : ByteArray), bs (ns.foldl (fun r n => r ++ Utf8.encode n) s) = bs s ++ ns.flatMap (fun n => bs (Utf8.encode n))
  | [], s => by simp
  | n :: ns, s => by
    rw [List.foldl_cons, runes_bs ns, bs_append, List.flatMap_cons, List.append_assoc]
theorem conv_runes {w : World} {base : Nat} {v : Value} {l : List Int} (h : w.ownsRow base 21 1 v l.length (kz .i32 l)) : (convert 205 9 v).run Tryz.prog w = .ok (.string (textOf (l.flatMap (fun n => bs (Utf8.encode n))))) w := by
  have key : ∀ l : List Int, runesBytes l = textOf (l.flatMap (fun n => bs (Utf8.encode n))) := fun l => by
    rw [← textOf_bs (runesBytes l)]
    unfold runesBytes
    rw [runes_bs]
    congr 1
  rcases kz_cell h with ⟨rfl, rfl⟩ | ⟨g, cap, rfl, hc⟩
  · exact run_convert_runes_nil (P := Tryz.prog) w 205 9 21 0 0 Tryz.underlying205 Tryz.underlying21 Tryz.underlying9
  · have := run_convert_runes (P := Tryz.prog) w 205 9 21 ⟨g, 0, none⟩ l.length cap l (Nat.le_refl _) Tryz.underlying205 Tryz.underlying21 Tryz.underlying9 hc
    rw [List.take_length, key] at this
    exact this
end Go.Proofs.YtadfihnffboelaaGreatDoor

set_option linter.unusedVariables false
set_option linter.unusedSimpArgs false
set_option maxRecDepth 100000
namespace Go.Proofs.YtadfihnffboelaaGreatDoor
open Go.RowKit

theorem nN_byte {x : Int} (h : uptoB 255 x = true) : byB x = true ∧ 0 ≤ nN x ∧ nN x < 256 := by
  have e : byB x = uptoB 255 x := rfl
  refine ⟨by rw [e]; exact h, ?_⟩
  unfold uptoB at h
  simp only [Bool.and_eq_true, decide_eq_true_eq] at h
  omega
theorem all_take_one {p : Int → Bool} {f : List Int} {q : Nat} (hq : q < f.length) : (f.take (q + 1)).all p = ((f.take q).all p && p (f.getD q 0)) := by
  rw [List.take_succ_eq_append_getElem hq, List.all_append, List.getD_eq_getElem?_getD, List.getElem?_eq_getElem hq]; simp
theorem all_off {p : Int → Bool} {f : List Int} {q : Nat} (hq : q < f.length) (h : p (f.getD q 0) = false) : f.all p = false := by
  rw [List.all_eq_false]
  exact ⟨f.getD q 0, getD_in_f hq, by rw [h]; decide⟩
theorem nmap_take {f : List Int} {q : Nat} (hq : q < f.length) : (f.take (q + 1)).map nN = (f.take q).map nN ++ [nN (f.getD q 0)] := by
  rw [List.take_succ_eq_append_getElem hq, List.map_append, List.getD_eq_getElem?_getD, List.getElem?_eq_getElem hq]; rfl
def bytesNd (f : List Int) : Nd := if (f.all byB && decide (f.length ≤ 1024)) = true then ⟨9, 0, textOf (byT f), []⟩ else voidN
def textNd (f : List Int) : Nd := if (f.all lrB && decide (f.length ≤ 1024)) = true then ⟨5, 0, textOf (lrT f), []⟩ else voidN
set_option maxHeartbeats 8000000 in
theorem bytesn_any (ao : Option Addr) (n cap : Nat) (f : List Int) (w : World) (R : URow w ao n cap f) (hn : n ≤ 5000000) : Calls Tryz.prog 133 #[.slice ao n cap] w fun e w' => e = .returned (bareV (bytesNd f)) ∧ Below w.heap.size w w' := by
  have hl := R.len
  have hft := R.fits
  have hmx := R.most
  unfold maxLen at hmx
  have HR := hid R
  have hz := NZ.new w
  have b0 := Ba w (.cells #[.int .i64 0, .int .i64 0, .string ⟨#[]⟩, .slice none 0 0] 68)
  have CV : Hid (∀ W, Calls Tryz.prog 137 #[] W fun e w' => e = .returned (.agg #[.int .i64 11, .int .i64 0, .string ⟨#[]⟩, .slice none 0 0]) ∧ Below W.heap.size W w') := fun W => void_any W
  have HND : Hid (bytesNd f = if (f.all byB && decide (f.length ≤ 1024)) = true then ⟨9, 0, textOf (byT f), []⟩ else voidN) := rfl
  obtain ⟨W0, hW0⟩ : ∃ W, W = w.alloc (.cells #[.int .i64 0, .int .i64 0, .string ⟨#[]⟩, .slice none 0 0] 68) := ⟨_, rfl⟩
  rw [← hW0] at hz b0
  have HZ := hid hz
  have HB := hid b0
  have HW0 := hid hW0
  have fin : Hid (∀ (k : Int) (W : World) (t0 : ByteArray), Below W0.heap.size W0 W → ((((W.setCell ⟨w.heap.size, 0, none⟩ (.int .i64 k)).setCell ⟨w.heap.size, 1, none⟩ (.int .i64 0)).setCell ⟨w.heap.size, 2, none⟩ (.string t0)).setCell ⟨w.heap.size, 3, none⟩ (.slice none 0 0)).heap[w.heap.size]? = some (.cells #[.int .i64 k, .int .i64 0, .string t0, .slice none 0 0] 68 (0, 0)) ∧ Below w.heap.size w ((((W.setCell ⟨w.heap.size, 0, none⟩ (.int .i64 k)).setCell ⟨w.heap.size, 1, none⟩ (.int .i64 0)).setCell ⟨w.heap.size, 2, none⟩ (.string t0)).setCell ⟨w.heap.size, 3, none⟩ (.slice none 0 0))) := fun k W t0 hb =>
    ⟨store4 (HZ.out.on hb), store4_below (Bt HB.out hb) (Nat.le_refl _)⟩
  clear hz b0 R
  by_cases h1 : n ≤ 1024
  · have e1 : decide ((1024 : Int) < n) = false := by simp; omega
    rw [show decide (f.length ≤ 1024) = true from decide_eq_true (by omega), Bool.and_true] at HND
    go_enter Tryz.func133, Tryz.ntmps133
    go_wp2_with fail
    rw [← hW0]
    clear hW0
    go_loopw [3, 5, 6, 7, 14] (fun v _ _ _ i wr => ∃ q : Nat, q ≤ n ∧ i = .int .i64 q ∧ Hid (wr.ownsRow W0.heap.size 5 1 v q (kz .u8 ((f.take q).map nN)) ∧ (f.take q).all byB = true ∧ Below W0.heap.size W0 wr)) (fun _ _ _ _ i _ => n - (intOf i).toNat)
    case atStart => exact ⟨0, Nat.zero_le _, rfl, World.ownsRow_nil _ _ _ _, rfl, Below.refl _ _⟩
    case round =>
      obtain ⟨q, hq, rfl, hI⟩ := hrel
      have HOQ := hid hI.out.1
      have HAQ := hid hI.out.2.1
      have HBQ := hid hI.out.2.2
      clear hI
      by_cases hlt : q < n
      · obtain ⟨b, o, rfl, hlb, hc⟩ := ((HR.out.on HB.out).on HBQ.out).some (by omega)
        have ck := hc q hlt
        have hmem := HR.out.bd _ (getD_in_f (l := f) (i := q) (by omega))
        have HT := hid (nmap_take (f := f) (q := q) (by omega))
        have HTA := hid (all_take_one (p := byB) (f := f) (q := q) (by omega))
        have HNO : Hid (byB (f.getD q 0) = false → f.all byB = false) := fun h => all_off (by omega) h
        obtain ⟨x, hx⟩ : ∃ x, x = f.getD q 0 := ⟨_, rfl⟩
        rw [← hx] at ck hmem HT HTA HNO
        have C1 := hid (upto_any 255 x hmem wr)
        have HUB : Hid (byB x = uptoB 255 x) := rfl
        obtain ⟨bx, hbx⟩ : ∃ b, b = uptoB 255 x := ⟨_, rfl⟩
        have hnb := fun h => (nN_byte (x := x) h).2
        rw [← hbx] at C1 HUB hnb
        clear hc hx hbx hmem
        cases bx
        · have hfalse : Hid (bytesNd f = voidN) := by unfold Hid; rw [HND.out, HNO.out HUB.out]; rfl
          have C2 := hid (CV.out wr)
          clear hnb
          go_wp2_with (first
            | (go_at_call 160; (with_reducible refine C1.out.mono ?_); rintro e W1 ⟨m, rfl, _, hw1⟩; rw [hw1]; clear hw1)
            | (go_at_call 137; (with_reducible refine C2.out.mono ?_); rintro e W2 ⟨rfl, b2⟩; have HB2 := hid (HBQ.out.trans (b2.mono HBQ.out.size)); have hz2 := HZ.out.on HB2.out; obtain ⟨c0, c1, c2, c3, f0, f1, f2, f3⟩ := hz2.c; obtain ⟨q1, q2⟩ := fin.out 11 W2 ⟨#[]⟩ HB2.out; have t0 := blk_cell q1 0; have t1 := blk_cell q1 1; have t2 := blk_cell q1 2; have t3 := blk_cell q1 3; have HQ2 := hid q2; clear b2 hz2 q1 q2))
          (try simp only [Exit.inBlock, Exit.then]); refine bodyPost_ret (by simp [results, Tryz.results133, go_sem, t0, t1, t2, t3]; rfl) rfl ?_
          rw [hfalse.out]
          exact ⟨rfl, HQ2.out⟩
        · have hnr := hnb rfl
          obtain ⟨m, hm⟩ : ∃ m, m = nN x := ⟨_, rfl⟩
          rw [← hm] at hnr C1 HT
          have HO1 := hid (own_at HOQ.out (fun b e => (Ba wr (.cells #[.int .u8 m] 5)).block b (HOQ.out.lt b e).2))
          have HC1 : Hid ((wr.alloc (.cells #[.int .u8 m] 5)).cell? ⟨wr.heap.size, 0, none⟩ = some (.int .u8 m)) := blk_cell (blk_new wr #[.int .u8 m] 5) 0
          have HBA := hid (HBQ.out.trans ((Ba wr (.cells #[.int .u8 m] 5)).mono HBQ.out.size))
          have HSA := hid HBA.out.size
          clear hm hnb
          go_wp2_with (first
            | (go_at_call 160; (with_reducible refine C1.out.mono ?_); rintro e W1 ⟨m', rfl, hm', hw1⟩; rw [hw1, hm' (by trivial)]; clear hw1 hm')
            | (at_builtin; refine appK .u8 1 (by decide) rfl _ _ 177 rfl W0.heap.size 5 Tryz.underlying177 info_u8' _ q ((f.take q).map nN) rfl HO1.out ⟨wr.heap.size, 0, none⟩ 1 m rfl HC1.out (by omega) HSA.out ?_; intro g2 cap2 w2 ho2 hg2 hl2 hlt2))
          have HE : Hid (Below W0.heap.size W0 w2) := HBA.out.grown hg2 HSA.out (fun b hb => (HO1.out.lt b hb).1)
          refine ⟨⟨q + 1, by omega, by go_num, ?_, ?_, HE.out⟩, by simp [intOf] <;> omega⟩
          · rw [HT.out]; exact ho2
          · rw [HTA.out, HAQ.out, HUB.out]; rfl
      · obtain rfl : n = q := by omega
        have hoq := HOQ.out
        have haq := HAQ.out
        rw [List.take_of_length_le (by omega)] at hoq haq
        have hml : (f.map nN).length = n := by rw [List.length_map]; exact hl
        rw [← hml] at hoq
        have hcv := conv_bytes hoq (fun x hx => by
          obtain ⟨y, hy, rfl⟩ := List.mem_map.1 hx
          have h := List.all_eq_true.1 haq y hy
          exact (nN_byte (x := y) h).2)
        have htrue : Hid (bytesNd f = ⟨9, 0, textOf ((f.map nN).map Int.toNat), []⟩) := by
          unfold Hid
          rw [HND.out, haq, if_pos rfl]
          unfold byT
          rw [List.map_map]
          rfl
        have hz2 := HZ.out.on HBQ.out
        obtain ⟨c0, c1, c2, c3, f0, f1, f2, f3⟩ := hz2.c
        obtain ⟨q1, q2⟩ := fin.out 9 wr (textOf ((f.map nN).map Int.toNat)) HBQ.out
        obtain ⟨S, hS⟩ : ∃ S, S = textOf ((f.map nN).map Int.toNat) := ⟨_, rfl⟩
        rw [← hS] at hcv htrue q1 q2
        have t0 := blk_cell q1 0
        have t1 := blk_cell q1 1
        have t2 := blk_cell q1 2
        have t3 := blk_cell q1 3
        have HQ2 := hid q2
        clear hoq haq hml hz2 q1 q2 hS
        go_wp2_with fail
        (try simp only [Exit.inBlock, Exit.then]); refine bodyPost_ret (by simp [results, Tryz.results133, go_sem, t0, t1, t2, t3]; rfl) rfl ?_
        rw [htrue.out]
        exact ⟨rfl, HQ2.out⟩
  · have e1 : decide ((1024 : Int) < n) = true := by simp; omega
    have hfalse : Hid (bytesNd f = voidN) := by unfold Hid; rw [HND.out, decide_eq_false (show ¬ f.length ≤ 1024 by omega), Bool.and_false]; rfl
    rw [hW0] at HZ HB
    have HZ' := HZ
    clear hW0 HW0 fin h1
    go_enter Tryz.func133, Tryz.ntmps133
    go_wp2_with (go_at_call 137; (with_reducible refine (CV.out _).mono ?_); rintro e W1 ⟨rfl, b1⟩; have hz1 := HZ.out.on b1; obtain ⟨c0, c1, c2, c3, f0, f1, f2, f3⟩ := hz1.c; have hst := store4 (v1 := .int .i64 11) (v2 := .int .i64 0) (v3 := .string ⟨#[]⟩) (v4 := .slice none 0 0) hz1; have t0 := blk_cell hst 0; have t1 := blk_cell hst 1; have t2 := blk_cell hst 2; have t3 := blk_cell hst 3; have HB2 := hid (store4_below (v1 := .int .i64 11) (v2 := .int .i64 0) (v3 := .string ⟨#[]⟩) (v4 := .slice none 0 0) (Bt HB.out b1) (Nat.le_refl w.heap.size)); clear b1 hz1 hst)
    (try simp only [Exit.inBlock, Exit.then]); refine bodyPost_ret (by simp [results, Tryz.results133, go_sem, t0, t1, t2, t3]; rfl) rfl ?_
    rw [hfalse.out]
    exact ⟨rfl, HB2.out⟩
theorem lr_rng {x : Int} (h : lrB x = true) : 0 ≤ nN x ∧ nN x ≤ 1114111 := by
  have hk : (ofR x).1 = 4 := of_decide_eq_true h
  unfold nN
  unfold ofR at hk ⊢
  split at hk
  · rename_i hr
    rw [if_pos hr]
    unfold rightB at hr
    rw [hk, if_neg (by decide), if_neg (by decide), if_neg (by decide), if_pos rfl] at hr
    simp only [Bool.and_eq_true] at hr
    exact ltrB_rng hr.2
  · cases hk
theorem lr_has {x : Int} (h : lrB x = true) : hasR 4 x = nN x := by
  have hk : (ofR x).1 = 4 := of_decide_eq_true h
  unfold hasR
  rw [if_pos hk]; rfl
set_option maxHeartbeats 8000000 in
theorem textn_any (ao : Option Addr) (n cap : Nat) (f : List Int) (w : World) (R : URow w ao n cap f) (hn : n ≤ 5000000) : Calls Tryz.prog 132 #[.slice ao n cap] w fun e w' => e = .returned (bareV (textNd f)) ∧ Below w.heap.size w w' := by
  have hl := R.len
  have hft := R.fits
  have hmx := R.most
  unfold maxLen at hmx
  have HR := hid R
  have hz := NZ.new w
  have b0 := Ba w (.cells #[.int .i64 0, .int .i64 0, .string ⟨#[]⟩, .slice none 0 0] 68)
  have CV : Hid (∀ W, Calls Tryz.prog 137 #[] W fun e w' => e = .returned (.agg #[.int .i64 11, .int .i64 0, .string ⟨#[]⟩, .slice none 0 0]) ∧ Below W.heap.size W w') := fun W => void_any W
  have HND : Hid (textNd f = if (f.all lrB && decide (f.length ≤ 1024)) = true then ⟨5, 0, textOf (lrT f), []⟩ else voidN) := rfl
  obtain ⟨W0, hW0⟩ : ∃ W, W = w.alloc (.cells #[.int .i64 0, .int .i64 0, .string ⟨#[]⟩, .slice none 0 0] 68) := ⟨_, rfl⟩
  rw [← hW0] at hz b0
  have HZ := hid hz
  have HB := hid b0
  have HW0 := hid hW0
  have fin : Hid (∀ (k : Int) (W : World) (t0 : ByteArray), Below W0.heap.size W0 W → ((((W.setCell ⟨w.heap.size, 0, none⟩ (.int .i64 k)).setCell ⟨w.heap.size, 1, none⟩ (.int .i64 0)).setCell ⟨w.heap.size, 2, none⟩ (.string t0)).setCell ⟨w.heap.size, 3, none⟩ (.slice none 0 0)).heap[w.heap.size]? = some (.cells #[.int .i64 k, .int .i64 0, .string t0, .slice none 0 0] 68 (0, 0)) ∧ Below w.heap.size w ((((W.setCell ⟨w.heap.size, 0, none⟩ (.int .i64 k)).setCell ⟨w.heap.size, 1, none⟩ (.int .i64 0)).setCell ⟨w.heap.size, 2, none⟩ (.string t0)).setCell ⟨w.heap.size, 3, none⟩ (.slice none 0 0))) := fun k W t0 hb =>
    ⟨store4 (HZ.out.on hb), store4_below (Bt HB.out hb) (Nat.le_refl _)⟩
  clear hz b0 R
  by_cases h1 : n ≤ 1024
  · have e1 : decide ((1024 : Int) < n) = false := by simp; omega
    rw [show decide (f.length ≤ 1024) = true from decide_eq_true (by omega), Bool.and_true] at HND
    go_enter Tryz.func132, Tryz.ntmps132
    go_wp2_with fail
    rw [← hW0]
    clear hW0
    go_loopw [3, 5, 6, 7, 14] (fun v _ _ _ i wr => ∃ q : Nat, q ≤ n ∧ i = .int .i64 q ∧ Hid (wr.ownsRow W0.heap.size 21 1 v q (kz .i32 ((f.take q).map nN)) ∧ (f.take q).all lrB = true ∧ Below W0.heap.size W0 wr)) (fun _ _ _ _ i _ => n - (intOf i).toNat)
    case atStart => exact ⟨0, Nat.zero_le _, rfl, World.ownsRow_nil _ _ _ _, rfl, Below.refl _ _⟩
    case round =>
      obtain ⟨q, hq, rfl, hI⟩ := hrel
      have HOQ := hid hI.out.1
      have HAQ := hid hI.out.2.1
      have HBQ := hid hI.out.2.2
      clear hI
      by_cases hlt : q < n
      · obtain ⟨b, o, rfl, hlb, hc⟩ := ((HR.out.on HB.out).on HBQ.out).some (by omega)
        have ck := hc q hlt
        have hmem := HR.out.bd _ (getD_in_f (l := f) (i := q) (by omega))
        have HT := hid (nmap_take (f := f) (q := q) (by omega))
        have HTA := hid (all_take_one (p := lrB) (f := f) (q := q) (by omega))
        have HNO : Hid (lrB (f.getD q 0) = false → f.all lrB = false) := fun h => all_off (by omega) h
        obtain ⟨x, hx⟩ : ∃ x, x = f.getD q 0 := ⟨_, rfl⟩
        rw [← hx] at ck hmem HT HTA HNO
        have C1 := hid (letterw_any x hmem wr)
        have ex1 : isR 4 x = lrB x := rfl
        rw [ex1] at C1
        have hnb := fun h => lr_rng (x := x) h
        have hhas := fun h => lr_has (x := x) h
        obtain ⟨bx, hbx⟩ : ∃ b, b = lrB x := ⟨_, rfl⟩
        have HUB := hid hbx.symm
        rw [← hbx] at C1 hnb hhas
        clear ex1
        clear hc hx hbx hmem
        cases bx
        · have hfalse : Hid (textNd f = voidN) := by unfold Hid; rw [HND.out, HNO.out HUB.out]; rfl
          have C2 := hid (CV.out wr)
          obtain ⟨m0, hm0⟩ : ∃ m, m = hasR 4 x := ⟨_, rfl⟩
          rw [← hm0] at C1
          clear hnb hhas hm0
          go_wp2_with (first
            | (go_at_call 140; (with_reducible refine C1.out.mono ?_); rintro e W1 ⟨rfl, hw1⟩; rw [hw1]; clear hw1)
            | (go_at_call 137; (with_reducible refine C2.out.mono ?_); rintro e W2 ⟨rfl, b2⟩; have HB2 := hid (HBQ.out.trans (b2.mono HBQ.out.size)); have hz2 := HZ.out.on HB2.out; obtain ⟨c0, c1, c2, c3, f0, f1, f2, f3⟩ := hz2.c; obtain ⟨q1, q2⟩ := fin.out 11 W2 ⟨#[]⟩ HB2.out; have t0 := blk_cell q1 0; have t1 := blk_cell q1 1; have t2 := blk_cell q1 2; have t3 := blk_cell q1 3; have HQ2 := hid q2; clear b2 hz2 q1 q2))
          (try simp only [Exit.inBlock, Exit.then]); refine bodyPost_ret (by simp [results, Tryz.results132, go_sem, t0, t1, t2, t3]; rfl) rfl ?_
          rw [hfalse.out]
          exact ⟨rfl, HQ2.out⟩
        · have hnr := hnb rfl
          rw [hhas rfl] at C1
          obtain ⟨m, hm⟩ : ∃ m, m = nN x := ⟨_, rfl⟩
          rw [← hm] at hnr C1 HT
          have HO1 := hid (own_at HOQ.out (fun b e => (Ba wr (.cells #[.int .i32 m] 21)).block b (HOQ.out.lt b e).2))
          have HC1 : Hid ((wr.alloc (.cells #[.int .i32 m] 21)).cell? ⟨wr.heap.size, 0, none⟩ = some (.int .i32 m)) := blk_cell (blk_new wr #[.int .i32 m] 21) 0
          have HBA := hid (HBQ.out.trans ((Ba wr (.cells #[.int .i32 m] 21)).mono HBQ.out.size))
          have HSA := hid HBA.out.size
          clear hm hnb hhas
          go_wp2_with (first
            | (go_at_call 140; (with_reducible refine C1.out.mono ?_); rintro e W1 ⟨rfl, hw1⟩; rw [hw1]; clear hw1)
            | (at_builtin; refine appK .i32 4 (by decide) rfl _ _ 205 rfl W0.heap.size 21 Tryz.underlying205 info_i32' _ q ((f.take q).map nN) rfl HO1.out ⟨wr.heap.size, 0, none⟩ 1 m rfl HC1.out (by omega) HSA.out ?_; intro g2 cap2 w2 ho2 hg2 hl2 hlt2))
          have HE : Hid (Below W0.heap.size W0 w2) := HBA.out.grown hg2 HSA.out (fun b hb => (HO1.out.lt b hb).1)
          refine ⟨⟨q + 1, by omega, by go_num, ?_, ?_, HE.out⟩, by simp [intOf] <;> omega⟩
          · rw [HT.out]; exact ho2
          · rw [HTA.out, HAQ.out, HUB.out]; rfl
      · obtain rfl : n = q := by omega
        have hoq := HOQ.out
        have haq := HAQ.out
        rw [List.take_of_length_le (by omega)] at hoq haq
        have hml : (f.map nN).length = n := by rw [List.length_map]; exact hl
        rw [← hml] at hoq
        have hcv := conv_runes hoq
        have htrue : Hid (textNd f = ⟨5, 0, textOf ((f.map nN).flatMap (fun n => bs (Utf8.encode n))), []⟩) := by
          unfold Hid
          rw [HND.out, haq, if_pos rfl]
          unfold lrT
          rw [List.flatMap_map]
        have hz2 := HZ.out.on HBQ.out
        obtain ⟨c0, c1, c2, c3, f0, f1, f2, f3⟩ := hz2.c
        obtain ⟨q1, q2⟩ := fin.out 5 wr (textOf ((f.map nN).flatMap (fun n => bs (Utf8.encode n)))) HBQ.out
        obtain ⟨S, hS⟩ : ∃ S, S = textOf ((f.map nN).flatMap (fun n => bs (Utf8.encode n))) := ⟨_, rfl⟩
        rw [← hS] at hcv htrue q1 q2
        have t0 := blk_cell q1 0
        have t1 := blk_cell q1 1
        have t2 := blk_cell q1 2
        have t3 := blk_cell q1 3
        have HQ2 := hid q2
        clear hoq haq hml hz2 q1 q2 hS
        go_wp2_with fail
        (try simp only [Exit.inBlock, Exit.then]); refine bodyPost_ret (by simp [results, Tryz.results132, go_sem, t0, t1, t2, t3]; rfl) rfl ?_
        rw [htrue.out]
        exact ⟨rfl, HQ2.out⟩
  · have e1 : decide ((1024 : Int) < n) = true := by simp; omega
    have hfalse : Hid (textNd f = voidN) := by unfold Hid; rw [HND.out, decide_eq_false (show ¬ f.length ≤ 1024 by omega), Bool.and_false]; rfl
    rw [hW0] at HZ HB
    have HZ' := HZ
    clear hW0 HW0 fin h1
    go_enter Tryz.func132, Tryz.ntmps132
    go_wp2_with (go_at_call 137; (with_reducible refine (CV.out _).mono ?_); rintro e W1 ⟨rfl, b1⟩; have hz1 := HZ.out.on b1; obtain ⟨c0, c1, c2, c3, f0, f1, f2, f3⟩ := hz1.c; have hst := store4 (v1 := .int .i64 11) (v2 := .int .i64 0) (v3 := .string ⟨#[]⟩) (v4 := .slice none 0 0) hz1; have t0 := blk_cell hst 0; have t1 := blk_cell hst 1; have t2 := blk_cell hst 2; have t3 := blk_cell hst 3; have HB2 := hid (store4_below (v1 := .int .i64 11) (v2 := .int .i64 0) (v3 := .string ⟨#[]⟩) (v4 := .slice none 0 0) (Bt HB.out b1) (Nat.le_refl w.heap.size)); clear b1 hz1 hst)
    (try simp only [Exit.inBlock, Exit.then]); refine bodyPost_ret (by simp [results, Tryz.results132, go_sem, t0, t1, t2, t3]; rfl) rfl ?_
    rw [hfalse.out]
    exact ⟨rfl, HB2.out⟩
end Go.Proofs.YtadfihnffboelaaGreatDoor
