/-
  Walk: told.
-/
import Derived.Test.YtpibfpnhlcpgdaaX4
import Derived.Deep.AppendLies
import Derived.Laws.AppendOwnNone
import Derived.Laws.EntriesVeiled
import Derived.OneCell
import Derived.Test.YtpibfpnhlcpgdaaW36
set_option linter.unusedVariables false
set_option linter.unusedSimpArgs false
set_option maxRecDepth 100000
namespace Go.Proofs.Ytpibfpnhlcpgdaa
open Go.RowKit

def qz (l : List Int) : List Value := l.map (Value.int .i64)
theorem qz_append (a b : List Int) : qz (a ++ b) = qz a ++ qz b := by simp [qz]
theorem info_i64 : (Try.prog.info? 2).map (fun i => (i.zero, i.size, i.bytes)) = some (some (.int .i64 0), 1, 8) := by kernel_rfl
/-- 'append(numbers, z)' of a row that the call owns. -/
theorem appq {P : Program} {w : World} {ops : Array Oper} {rest : List Oper} {o : Oper} {a : Act} {Q : Exit → Act → World → Prop} (hgd : o.guard = none) (s x : Operand) (t : TypeId) (ho : o.op = .call { callee := .builtin .append, args := #[s, x], argTypes := #[t, t] })
    (base : Nat) (e : TypeId) (ht : P.underlying t = some (.slice e)) (hi : (P.info? e).map (fun i => (i.zero, i.size, i.bytes)) = some (some (.int .i64 0), 1, 8))
    (v : Value) (n : Nat) (l : List Int) (hs : a.eval s = v) (hown : w.ownsRow base e 1 v n (qz l))
    (ad : Addr) (c : Nat) (d : Int) (hx : a.eval x = .slice (some ad) 1 c) (hd : w.cell? ad = some (.int .i64 d)) (hsm : n ≤ 1000000) (hbase : base ≤ w.heap.size)
    (h : ∀ g cap w', w'.ownsRow base e 1 (.slice (some ⟨g, 0, none⟩) (n + 1) cap) (n + 1) (qz (l ++ [d])) → w.grownBy w' v.ownBlock → (v.ownBlock = some g ∨ g = w.heap.size) → g < w'.heap.size → wpList P ops Q rest (a.put o.dst (.slice (some ⟨g, 0, none⟩) (n + 1) cap)) w') :
    wpList P ops Q (o :: rest) a w := by
  obtain ⟨i0, hi0, hz0, hz1, hz2⟩ : ∃ i0, P.info? e = some i0 ∧ i0.zero = some (.int .i64 0) ∧ i0.size = 1 ∧ i0.bytes = 8 := by
    cases h : P.info? e with
    | none => rw [h] at hi; cases hi
    | some i => rw [h] at hi; simp at hi; exact ⟨i, rfl, hi.1, hi.2.1, hi.2.2⟩
  refine wpList_append_lies w hgd s x t ho base e i0 (.int .i64 0) 1 8 ht hi0 hz0 hz1 hz2 rfl (by decide) v n (qz l) hs hown ad 1 c [.int .i64 d] hx rfl ?_ ?_ (by decide) (by unfold maxLen; omega) (by omega) hbase w.heap.size rfl ?_
  · intro j u hj
    match j, hj with
    | 0, hj => simp at hj; subst hj; simpa [Addr.add] using hd
  · intro u hu; simp at hu; subst hu; rfl
  · intro g cap w' h1 h2 h3 h4
    refine h g cap w' ?_ h2 h3 h4
    rw [qz_append]; exact h1

section
variable {P : Program} {w : World} {ops : Array Oper} {o : Oper} {a : Act} {K : Act → World → Prop} {Q : Exit → Act → World → Prop} {E : Prop}
/-- 'append(numbers, z)' as a step, with the place where it lies. -/
theorem stepq (dst : Option Nat) (hdst : o.dst = dst) (hgd : o.guard = none) (s x : Operand) (t : TypeId) (ho : o.op = .call { callee := .builtin .append, args := #[s, x], argTypes := #[t, t] })
    (base : Nat) (e : TypeId) (ht : P.underlying t = some (.slice e)) (hi : (P.info? e).map (fun i => (i.zero, i.size, i.bytes)) = some (some (.int .i64 0), 1, 8))
    (v : Value) (n : Nat) (l : List Int) (hs : a.eval s = v) (hown : w.ownsRow base e 1 v n (qz l))
    (g0 c : Nat) (d : Int) (hx : a.eval x = .slice (some ⟨g0, 0, none⟩) 1 c) (hd : w.cell? ⟨g0, 0, none⟩ = some (.int .i64 d)) (hsm : n ≤ 1000000) (hbase : base ≤ w.heap.size)
    (h : ∀ g cap w', w'.ownsRow base e 1 (.slice (some ⟨g, 0, none⟩) (n + 1) cap) (n + 1) (qz (l ++ [d])) → w.grownBy w' v.ownBlock → (v.ownBlock = some g ∨ g = w.heap.size) → g < w'.heap.size → K (a.put dst (.slice (some ⟨g, 0, none⟩) (n + 1) cap)) w') :
    if Region.wanted o (yielded ops a.tmps) = true then Oper.wp P o a w K Q else E := by
  subst hdst
  have hw : Region.wanted o (yielded ops a.tmps) = true := by simp [Region.wanted, hgd]
  rw [if_pos hw]
  obtain ⟨i0, hi0, hz0, hz1, hz2⟩ : ∃ i0, P.info? e = some i0 ∧ i0.zero = some (.int .i64 0) ∧ i0.size = 1 ∧ i0.bytes = 8 := by
    cases h : P.info? e with
    | none => rw [h] at hi; cases hi
    | some i => rw [h] at hi; simp at hi; exact ⟨i, rfl, hi.1, hi.2.1, hi.2.2⟩
  refine wp_append_lies w s x t ho base e i0 (.int .i64 0) 1 8 ht hi0 hz0 hz1 hz2 rfl (by decide) v n (qz l) hs hown ⟨g0, 0, none⟩ 1 c [.int .i64 d] hx rfl ?_ ?_ (by decide) (by unfold maxLen; omega) (by omega) hbase w.heap.size rfl ?_
  · intro j u hj
    match j, hj with
    | 0, hj => simp at hj; subst hj; simpa [Addr.add] using hd
  · intro u hu; simp at hu; subst hu; rfl
  · intro g cap w' h1 h2 h3 h4
    refine h g cap w' ?_ h2 h3 h4
    rw [qz_append]; exact h1
end

/-- What told holds: its row, its number, and what lies apart. -/
structure TI (w0 : World) (base gl gm : Nat) (v : Value) (l : List Int) (m : Int) (wr : World) : Prop where
  bl : wr.heap[gl]? = some (.cells #[v] 32 (0, 0))
  bm : wr.heap[gm]? = some (.cells #[.int .i64 m] 3 (0, 0))
  own : wr.ownsRow base 2 1 v l.length (qz l)
  bel : Below w0.heap.size w0 wr
  wl : w0.heap.size ≤ gl
  wm : w0.heap.size ≤ gm
  ll : gl < base
  lm : gm < base
  ne : gl ≠ gm
  bs : base ≤ wr.heap.size
def one (b : Bool) : Int := if b then 1 else 0
/-- Nothing else below is touched. -/
def Apart (base gl gm : Nat) (wr w' : World) : Prop := ∀ b, b < base → b ≠ gl → b ≠ gm → w'.heap[b]? = wr.heap[b]?

section
variable {w0 wr wx w5 : World} {base gl gm : Nat} {v : Value} {l : List Int} {m n : Int}
theorem Apart.trans {w1 w2 w3 : World} (h1 : Apart base gl gm w1 w2) (h2 : Apart base gl gm w2 w3) : Apart base gl gm w1 w3 := fun b h h' h'' => (h2 b h h' h'').trans (h1 b h h' h'')
theorem TI.apart_on (h : TI w0 base gl gm v l m wr) (hb : Below wr.heap.size wr wx) : Apart base gl gm wr wx := fun b hb' _ _ => hb.block b (Nat.lt_of_lt_of_le hb' h.bs)
theorem TI.on (h : TI w0 base gl gm v l m wr) (hb : Below wr.heap.size wr wx) : TI w0 base gl gm v l m wx := by
  refine ⟨(hb.block gl (Nat.lt_of_lt_of_le h.ll h.bs)).trans h.bl, (hb.block gm (Nat.lt_of_lt_of_le h.lm h.bs)).trans h.bm, ⟨h.own.1, ?_⟩, h.bel.trans (hb.mono h.bel.size), h.wl, h.wm, h.ll, h.lm, h.ne, Nat.le_trans h.bs hb.size⟩
  rcases h.own.2 with h0 | ⟨g, cap, cur, h1, h2, h3, h4⟩
  · exact .inl h0
  · exact .inr ⟨g, cap, cur, h1, h2, (hb.block g (Array.getElem?_eq_some_iff.1 h3).1).trans h3, h4⟩
theorem own_far {w w' : World} {base : Nat} {e : TypeId} {k : Nat} {v : Value} {n : Nat} {xs : List Value} (h : w.ownsRow base e k v n xs) (hb : ∀ b, base ≤ b → w'.heap[b]? = w.heap[b]?) : w'.ownsRow base e k v n xs := by
  refine ⟨h.1, ?_⟩
  rcases h.2 with h0 | ⟨g, cap, cur, h1, h2, h3, h4⟩
  · exact .inl h0
  · exact .inr ⟨g, cap, cur, h1, h2, (hb g h2).trans h3, h4⟩
theorem TI.inc (h : TI w0 base gl gm v l m wr) : TI w0 base gl gm v l (m + 1) (wr.setCell ⟨gm, 0, none⟩ (.int .i64 (m + 1))) ∧ Apart base gl gm wr (wr.setCell ⟨gm, 0, none⟩ (.int .i64 (m + 1))) := by
  refine ⟨⟨(Below.heap_setCell _ _ _ _ h.ne).trans h.bl, ?_, own_far h.own (fun b hb => Below.heap_setCell _ _ _ _ (by have := h.lm; show b ≠ gm; omega)), h.bel.setCell (p := ⟨gm, 0, none⟩) h.wm _, h.wl, h.wm, h.ll, h.lm, h.ne, by have := h.bs; simp [World.setCell]; omega⟩, fun b _ _ h3 => Below.heap_setCell _ _ _ _ h3⟩
  have := blk_set (i := 0) h.bm (.int .i64 (m + 1)); rw [this]; rfl
theorem TI.push (h : TI w0 base gl gm v l m wx) {g cap : Nat} (ho : w5.ownsRow base 2 1 (.slice (some ⟨g, 0, none⟩) (l.length + 1) cap) (l.length + 1) (qz (l ++ [n]))) (hg : wx.grownBy w5 v.ownBlock) :
    w5.heap[gl]? = some (.cells #[v] 32 (0, 0)) ∧ TI w0 base gl gm (.slice (some ⟨g, 0, none⟩) (l.length + 1) cap) (l ++ [n]) m (w5.setCell ⟨gl, 0, none⟩ (.slice (some ⟨g, 0, none⟩) (l.length + 1) cap)) ∧ Apart base gl gm wx (w5.setCell ⟨gl, 0, none⟩ (.slice (some ⟨g, 0, none⟩) (l.length + 1) cap)) := by
  have hge : ∀ k, v.ownBlock = some k → base ≤ k := fun k hk => (h.own.lt k hk).1
  have key : ∀ b, b < base → w5.heap[b]? = wx.heap[b]? := fun b hb => hg.block b (Nat.lt_of_lt_of_le hb h.bs) (fun e => by have := hge b e.symm; omega)
  have hl5 := (key gl h.ll).trans h.bl
  refine ⟨hl5, ⟨?_, (Below.heap_setCell _ _ _ _ (Ne.symm h.ne)).trans ((key gm h.lm).trans h.bm), ?_, ?_, h.wl, h.wm, h.ll, h.lm, h.ne, ?_⟩, fun b h1 h2 h3 => (Below.heap_setCell _ _ _ _ h2).trans (key b h1)⟩
  · have := blk_set (i := 0) hl5 (.slice (some ⟨g, 0, none⟩) (l.length + 1) cap); rw [this]; rfl
  · rw [List.length_append, List.length_singleton]
    exact own_far ho (fun b hb => Below.heap_setCell _ _ _ _ (by have := h.ll; show b ≠ gl; omega))
  · exact ((h.bel.grown hg h.bel.size (fun k hk => Nat.le_trans (Nat.le_trans h.wl (Nat.le_of_lt h.ll)) (hge k hk))).setCell (p := ⟨gl, 0, none⟩) h.wl _)
  · have := hg.size; have := h.bs; simp [World.setCell]; omega
end

set_option maxHeartbeats 8000000 in
theorem put_any (w0 : World) (base gl gm : Nat) (v : Value) (l : List Int) (m n : Int) (ok : Bool) (wr : World) (h : TI w0 base gl gm v l m wr) (hm : 0 ≤ m ∧ m ≤ 100) (hl : l.length ≤ 100) (hn : Z64 n) :
    Calls Try.prog 24 #[.int .i64 n, .bool ok, .pointer (some ⟨gm, 0, none⟩), .pointer (some ⟨gl, 0, none⟩)] wr fun e w' => e = .returned (.tuple #[]) ∧ ∃ v', TI w0 base gl gm v' (l ++ [n]) (m + one ok) w' ∧ Apart base gl gm wr w' := by
  have H := hid h
  obtain ⟨av, nv, cv, rfl⟩ : ∃ av nv cv, v = .slice av nv cv := by rcases h.own.2 with ⟨h, _⟩ | ⟨g, cap, cur, h, _⟩ <;> exact ⟨_, _, _, h⟩
  have c0 : wr.cell? ⟨gl, 0, none⟩ = some (.slice av nv cv) := blk_cell h.bl 0
  have c1 : wr.cell? ⟨gm, 0, none⟩ = some (.int .i64 m) := blk_cell h.bm 0
  have f1 := blk_free h.bm 0
  clear h
  cases ok
  · have HA := hid (H.out.on (Ba wr (.cells #[.int .i64 n] 2)))
    have hnew : (wr.alloc (.cells #[.int .i64 n] 2)).cell? ⟨wr.heap.size, 0, none⟩ = some (.int .i64 n) := blk_cell (blk_new wr #[.int .i64 n] 2) 0
    have HNEW := hid hnew
    clear hnew
    go_enter Try.func24, Try.ntmps24
    go_wp2_with (at_builtin; refine appq rfl _ _ 32 rfl base 2 Try.underlying32 info_i64 _ _ l rfl HA.out.own ⟨wr.heap.size, 0, none⟩ 1 n rfl HNEW.out (by omega) HA.out.bs ?_; intro g cap w5 ho hg hloc hlt; have hp := hid (HA.out.push ho hg); have q1 := blk_free hp.out.1 0; have q2 : w5.cell? ⟨gl, 0, none⟩ = some (.slice av nv cv) := blk_cell hp.out.1 0; clear ho hg hloc hlt)
    go_end0
    refine ⟨rfl, _, by simpa [one] using hp.out.2.1, (H.out.apart_on (Ba _ _)).trans hp.out.2.2⟩
  · have HI := hid H.out.inc
    have c0' : (wr.setCell ⟨gm, 0, none⟩ (.int .i64 (m + 1))).cell? ⟨gl, 0, none⟩ = some (.slice av nv cv) := blk_cell HI.out.1.bl 0
    have HA := hid (HI.out.1.on (Ba (wr.setCell ⟨gm, 0, none⟩ (.int .i64 (m + 1))) (.cells #[.int .i64 n] 2)))
    have hsz : (wr.setCell ⟨gm, 0, none⟩ (.int .i64 (m + 1))).heap.size = wr.heap.size := by simp [World.setCell]
    have hnew : ((wr.setCell ⟨gm, 0, none⟩ (.int .i64 (m + 1))).alloc (.cells #[.int .i64 n] 2)).cell? ⟨wr.heap.size, 0, none⟩ = some (.int .i64 n) := by
      have := blk_cell (blk_new (wr.setCell ⟨gm, 0, none⟩ (.int .i64 (m + 1))) #[.int .i64 n] 2) 0
      rw [hsz] at this; exact this
    have HNEW := hid hnew
    clear hnew
    go_enter Try.func24, Try.ntmps24
    go_wp2_with (at_builtin; refine appq rfl _ _ 32 rfl base 2 Try.underlying32 info_i64 _ _ l rfl HA.out.own ⟨wr.heap.size, 0, none⟩ 1 n rfl HNEW.out (by omega) HA.out.bs ?_; intro g cap w5 ho hg hloc hlt; have hp := hid (HA.out.push ho hg); have q1 := blk_free hp.out.1 0; have q2 : w5.cell? ⟨gl, 0, none⟩ = some (.slice av nv cv) := blk_cell hp.out.1 0; clear ho hg hloc hlt)
    go_end0
    refine ⟨rfl, _, by simpa [one] using hp.out.2.1, (HI.out.2.trans (HI.out.1.apart_on (Ba _ _))).trans hp.out.2.2⟩

/-- The same, with the box of the function value. -/
structure TJ (w0 : World) (base gl gm gp : Nat) (tp : TypeId) (v : Value) (l : List Int) (m : Int) (wr : World) : Prop where
  ti : TI w0 base gl gm v l m wr
  bp : wr.heap[gp]? = some (.cells #[.func (.func 24) #[] #[.pointer (some ⟨gm, 0, none⟩), .pointer (some ⟨gl, 0, none⟩)]] tp (0, 0))
  lp : gp < base
  pl : gp ≠ gl
  pm : gp ≠ gm
  mb : 0 ≤ m ∧ m ≤ l.length
theorem TJ.next {w0 : World} {base gl gm gp : Nat} {tp : TypeId} {v v' : Value} {l : List Int} {m n : Int} {ok : Bool} {wr w' : World} (h : TJ w0 base gl gm gp tp v l m wr) (h' : TI w0 base gl gm v' (l ++ [n]) (m + one ok) w') (ha : Apart base gl gm wr w') : TJ w0 base gl gm gp tp v' (l ++ [n]) (m + one ok) w' :=
  ⟨h', (ha gp h.lp h.pl h.pm).trans h.bp, h.lp, h.pl, h.pm, by have := h.mb; rw [List.length_append, List.length_singleton]; cases ok <;> simp [one] <;> omega⟩
theorem putj_any (w0 : World) (base gl gm gp : Nat) (tp : TypeId) (v : Value) (l : List Int) (m n : Int) (ok : Bool) (wr : World) (h : TJ w0 base gl gm gp tp v l m wr) (hl : l.length ≤ 50) (hn : Z64 n) :
    Calls Try.prog 24 #[.int .i64 n, .bool ok, .pointer (some ⟨gm, 0, none⟩), .pointer (some ⟨gl, 0, none⟩)] wr fun e w' => e = .returned (.tuple #[]) ∧ ∃ v', TJ w0 base gl gm gp tp v' (l ++ [n]) (m + one ok) w' := by
  refine (put_any w0 base gl gm v l m n ok wr h.ti (by have := h.mb; omega) (by omega) hn).mono ?_
  rintro e w' ⟨rfl, v', h1, h2⟩
  exact ⟨rfl, v', h.next h1 h2⟩
set_option maxHeartbeats 8000000 in
theorem small_any (w0 : World) (base gl gm gp : Nat) (tp : TypeId) (v : Value) (l : List Int) (m n : Int) (ok : Bool) (wr : World) (h : TJ w0 base gl gm gp tp v l m wr) (hl : l.length ≤ 50) (hn : Z64 n) :
    Calls Try.prog 25 #[.int .i64 n, .bool ok, .pointer (some ⟨gp, 0, none⟩)] wr fun e w' => e = .returned (.tuple #[]) ∧ ∃ v', TJ w0 base gl gm gp tp v' (l ++ [n]) (m + one ok) w' := by
  have H := hid h
  have HN := hid hn
  have c0 : wr.cell? ⟨gp, 0, none⟩ = some (.func (.func 24) #[] #[.pointer (some ⟨gm, 0, none⟩), .pointer (some ⟨gl, 0, none⟩)]) := blk_cell h.bp 0
  unfold Z64 at hn
  clear h
  go_enter Try.func25, Try.ntmps25
  go_wp2_with (go_at_call 24; refine (putj_any w0 base gl gm gp tp v l m n ok wr H.out hl HN.out).mono ?_; rintro e w9 ⟨rfl, hj⟩; have HJ := hid hj; clear hj)
  go_end0
  exact ⟨rfl, HJ.out⟩

theorem has_rng (k x : Int) : Z64 (hasR k x) := by
  unfold Z64 hasR
  split
  · rcases ofR_right (w := x) with h | h
    · rw [h]; decide
    · rcases right_cases h with ⟨_, h1⟩ | ⟨_, h1⟩ | ⟨_, h1⟩ | ⟨_, h1⟩ | ⟨_, h1⟩ | ⟨_, h1⟩ <;> omega
  · omega
theorem typ_rng (x : Int) : Z64 (typR x) := by
  unfold Z64 typR
  split
  · rename_i h8
    rcases ofR_right (w := x) with h | h
    · rw [h]; decide
    · rcases right_cases h with ⟨_, h1⟩ | ⟨_, h1⟩ | ⟨_, h1⟩ | ⟨_, h1⟩ | ⟨_, h1⟩ | ⟨_, h1⟩ <;> omega
  · omega
/-- What told tells of a word. -/
def toldL (x : Int) : List Int := [hasR 1 x, hasR 2 x, hasR 4 x, hasR 5 x, hasR 6 x, hasR 7 x, hasR 8 x, typR x]
def manyR (x : Int) : Int := 0 + one (isR 1 x) + one (isR 2 x) + one (isR 4 x) + one (isR 5 x) + one (isR 6 x) + one (isR 7 x) + one (isR 8 x)
set_option maxHeartbeats 16000000 in
theorem told_any (x : Int) (hx : U64 x) (w : World) :
    Calls Try.prog 14 #[.int .u64 x] w fun e w' => ∃ g cap, e = .returned (.tuple #[.slice (some ⟨g, 0, none⟩) 8 cap, .int .i64 (manyR x)]) ∧ 8 ≤ cap ∧ cap ≤ maxLen ∧ (∀ i, i < 8 → w'.cell? ⟨g, i, none⟩ = some (.int .i64 ((toldL x).getD i 0))) ∧ Below w.heap.size w w' := by
  have HX := hid hx
  unfold U64 at hx
  have C1 := hid (int_any x HX.out)
  have C2 := hid (at_any x HX.out)
  have C4 := hid (letter_any x HX.out)
  have C5 := hid (nameof_any x HX.out)
  have C6 := hid (primof_any x HX.out)
  have C7 := hid (specialof_any x HX.out)
  have C8 := hid (headof_any x HX.out)
  have z1 := hid (has_rng 1 x)
  have z2 := hid (has_rng 2 x)
  have z4 := hid (has_rng 4 x)
  have z5 := hid (has_rng 5 x)
  have z6 := hid (has_rng 6 x)
  have z7 := hid (has_rng 7 x)
  have z8 := hid (has_rng 8 x)
  have zt := hid (typ_rng x)
  have HL : Hid (toldL x = [hasR 1 x, hasR 2 x, hasR 4 x, hasR 5 x, hasR 6 x, hasR 7 x, hasR 8 x, typR x]) := rfl
  have HM : Hid (manyR x = 0 + one (isR 1 x) + one (isR 2 x) + one (isR 4 x) + one (isR 5 x) + one (isR 6 x) + one (isR 7 x) + one (isR 8 x)) := rfl
  generalize hasR 1 x = a1 at *
  generalize hasR 2 x = a2 at *
  generalize hasR 4 x = a4 at *
  generalize hasR 5 x = a5 at *
  generalize hasR 6 x = a6 at *
  generalize hasR 7 x = a7 at *
  generalize hasR 8 x = a8 at *
  generalize typR x = at_ at *
  generalize isR 1 x = b1 at *
  generalize isR 2 x = b2 at *
  generalize isR 4 x = b4 at *
  generalize isR 5 x = b5 at *
  generalize isR 6 x = b6 at *
  generalize isR 7 x = b7 at *
  generalize isR 8 x = b8 at *
  go_enter Try.func14, Try.ntmps14
  go_wp2_with fail
  have x0 : (((w.alloc (.cells #[.slice none 0 0] 32)).alloc (.cells #[.int .i64 0] 3)).alloc (.cells #[.func (.func 24) #[] #[.pointer (some ⟨w.heap.size + 1, 0, none⟩), .pointer (some ⟨w.heap.size, 0, none⟩)]] 45)).heap[w.heap.size]? = some (.cells #[.slice none 0 0] 32 (0, 0)) := ((Ba _ _).block _ (by simp; omega)).trans (((Ba _ _).block _ (by simp)).trans (blk_new _ _ _))
  have x1 : (((w.alloc (.cells #[.slice none 0 0] 32)).alloc (.cells #[.int .i64 0] 3)).alloc (.cells #[.func (.func 24) #[] #[.pointer (some ⟨w.heap.size + 1, 0, none⟩), .pointer (some ⟨w.heap.size, 0, none⟩)]] 45)).heap[w.heap.size + 1]? = some (.cells #[.int .i64 0] 3 (0, 0)) := ((Ba _ _).block _ (by simp)).trans (heap_alloc2_new _ _ _)
  have x2 : (((w.alloc (.cells #[.slice none 0 0] 32)).alloc (.cells #[.int .i64 0] 3)).alloc (.cells #[.func (.func 24) #[] #[.pointer (some ⟨w.heap.size + 1, 0, none⟩), .pointer (some ⟨w.heap.size, 0, none⟩)]] 45)).heap[w.heap.size + 1 + 1]? = some (.cells #[.func (.func 24) #[] #[.pointer (some ⟨w.heap.size + 1, 0, none⟩), .pointer (some ⟨w.heap.size, 0, none⟩)]] 45 (0, 0)) := by
    have := blk_new ((w.alloc (.cells #[.slice none 0 0] 32)).alloc (.cells #[.int .i64 0] 3)) #[.func (.func 24) #[] #[.pointer (some ⟨w.heap.size + 1, 0, none⟩), .pointer (some ⟨w.heap.size, 0, none⟩)]] 45
    rw [size_alloc, size_alloc] at this; exact this
  have hsz : (((w.alloc (.cells #[.slice none 0 0] 32)).alloc (.cells #[.int .i64 0] 3)).alloc (.cells #[.func (.func 24) #[] #[.pointer (some ⟨w.heap.size + 1, 0, none⟩), .pointer (some ⟨w.heap.size, 0, none⟩)]] 45)).heap.size = w.heap.size + 1 + 1 + 1 := by rw [size_alloc, size_alloc, size_alloc]
  have hbw : Below w.heap.size w (((w.alloc (.cells #[.slice none 0 0] 32)).alloc (.cells #[.int .i64 0] 3)).alloc (.cells #[.func (.func 24) #[] #[.pointer (some ⟨w.heap.size + 1, 0, none⟩), .pointer (some ⟨w.heap.size, 0, none⟩)]] 45)) := Bt (Baa w _ _) (Ba _ _)
  generalize ((w.alloc (.cells #[.slice none 0 0] 32)).alloc (.cells #[.int .i64 0] 3)).alloc (.cells #[.func (.func 24) #[] #[.pointer (some ⟨w.heap.size + 1, 0, none⟩), .pointer (some ⟨w.heap.size, 0, none⟩)]] 45) = W at *
  obtain ⟨gl, hgl⟩ : ∃ g, g = w.heap.size := ⟨_, rfl⟩
  obtain ⟨gm, hgm⟩ : ∃ g, g = w.heap.size + 1 := ⟨_, rfl⟩
  obtain ⟨gp, hgp⟩ : ∃ g, g = w.heap.size + 1 + 1 := ⟨_, rfl⟩
  rw [← hgp] at x2
  rw [← hgm] at x1 x2
  rw [← hgl] at x0 x2
  rw [← hgp, ← hgm, ← hgl]
  obtain ⟨base, hbase⟩ : ∃ b, b = w.heap.size + 1 + 1 + 1 := ⟨_, rfl⟩
  have HJ : Hid (TJ w base gl gm gp 45 (.slice none 0 0) [] 0 W) := ⟨⟨x0, x1, by simpa [qz] using World.ownsRow_nil _ _ _ _, hbw, by omega, by omega, by omega, by omega, by omega, by omega⟩, x2, by omega, by omega, by omega, by simp⟩
  clear x0 x1 x2 hsz hbw hgl hgm hgp hbase
  have HJd : Hid (TJ w base gl gm gp 45 (.slice none 0 0) [] 0 W.drew) := ⟨HJ.out.ti.on (Bd W 1), HJ.out.bp, HJ.out.lp, HJ.out.pl, HJ.out.pm, HJ.out.mb⟩
  have hcp : W.drew.cell? ⟨gp, 0, none⟩ = some (.func (.func 24) #[] #[.pointer (some ⟨gm, 0, none⟩), .pointer (some ⟨gl, 0, none⟩)]) := blk_cell HJd.out.bp 0
  refine wp_region_held_drew (S := fun wx => wx.cell? ⟨gp, 0, none⟩ = some (.func (.func 24) #[] #[.pointer (some ⟨gm, 0, none⟩), .pointer (some ⟨gl, 0, none⟩)])) (by kernel_rfl) hcp (fun hHeld => ?_)
  refine htake 0 (some 12) (.func (.func 24) #[] #[.pointer (some ⟨gm, 0, none⟩), .pointer (some ⟨gl, 0, none⟩)]) rfl rfl (by kernel_rfl) (by kernel_rfl) (by kernel_rfl) (fun _ _ _ h => h) (Or.inl ⟨by rfl, fun wx hSw => ?_⟩) (by assumption) ?_
  · go_simp
  simp only [Act.put, List.setIfInBounds_toArray, List.set_cons_zero, List.set_cons_succ]
  refine htake 1 (some 13) (.int .u64 x) rfl rfl (by kernel_rfl) (by kernel_rfl) (by kernel_rfl) (fun _ _ _ h => h) (Or.inl ⟨by rfl, fun wx hSw => ?_⟩) (by assumption) ?_
  · go_simp
  simp only [Act.put, List.setIfInBounds_toArray, List.set_cons_zero, List.set_cons_succ]
  refine hone 2 _ rfl (by kernel_rfl) (fun K hK => ?_)
  go_simp
  go_at_call 16
  refine (C1.out _).mono ?_
  rintro e w9 ⟨rfl, hw9⟩
  rw [hw9]
  refine hK.out _ _ hcp (fun hHeld => ?_)
  clear hK K w9 hw9
  try simp only [Act.put, List.setIfInBounds_toArray, List.set_cons_zero, List.set_cons_succ]
  refine htake 3 (some 15) (.int .i64 a1) rfl rfl (by kernel_rfl) (by kernel_rfl) (by kernel_rfl) (fun _ _ _ h => h) (Or.inl ⟨by rfl, fun wx hSw => ?_⟩) (by assumption) ?_
  · go_simp
  simp only [Act.put, List.setIfInBounds_toArray, List.set_cons_zero, List.set_cons_succ]
  refine htake 4 (some 16) (.bool b1) rfl rfl (by kernel_rfl) (by kernel_rfl) (by kernel_rfl) (fun _ _ _ h => h) (Or.inl ⟨by rfl, fun wx hSw => ?_⟩) (by assumption) ?_
  · go_simp
  simp only [Act.put, List.setIfInBounds_toArray, List.set_cons_zero, List.set_cons_succ]
  refine hone 5 _ rfl (by kernel_rfl) (fun K hK => ?_)
  go_simp
  go_at_call 24
  refine (putj_any w base gl gm gp 45 _ _ _ a1 b1 _ HJd.out (by simp) z1.out).mono ?_
  rintro e w9 ⟨rfl, v9, hj⟩
  have HJ := hid hj
  have hcp9 : w9.cell? ⟨gp, 0, none⟩ = some (.func (.func 24) #[] #[.pointer (some ⟨gm, 0, none⟩), .pointer (some ⟨gl, 0, none⟩)]) := blk_cell hj.bp 0
  refine hK.out _ _ hcp9 (fun _ => ?_)
  clear hK K hj HJd hcp
  refine wpAnyH_done (by kernel_rfl) ?_ _
  go_wp2_with (first
    | (go_at_call 26; refine (C2.out _).mono ?_; rintro e w8 ⟨rfl, hw8⟩; rw [hw8]; clear hw8)
    | (go_at_call 27; refine (C4.out _).mono ?_; rintro e w8 ⟨rfl, hw8⟩; rw [hw8]; clear hw8)
    | (go_at_call 28; refine (C5.out _).mono ?_; rintro e w8 ⟨rfl, hw8⟩; rw [hw8]; clear hw8)
    | (go_at_call 29; refine (C6.out _).mono ?_; rintro e w8 ⟨rfl, hw8⟩; rw [hw8]; clear hw8)
    | (go_at_call 30; refine (C7.out _).mono ?_; rintro e w8 ⟨rfl, hw8⟩; rw [hw8]; clear hw8)
    | (go_at_call 31; refine (C8.out _).mono ?_; rintro e w8 ⟨rfl, hw8⟩; rw [hw8]; clear hw8)
    | (go_at_call 25; refine (small_any w base gl gm gp 45 _ _ _ _ _ _ HJ.out (by simp) (by first | exact z2.out | exact z4.out | exact z5.out | exact z6.out | exact z7.out)).mono ?_; rintro e w9 ⟨rfl, v9, hj⟩; have HJ := hid hj; have hcp9 : w9.cell? ⟨gp, 0, none⟩ = some (.func (.func 24) #[] #[.pointer (some ⟨gm, 0, none⟩), .pointer (some ⟨gl, 0, none⟩)]) := blk_cell hj.bp 0; clear hj)
    | (go_at_call 24; refine (putj_any w base gl gm gp 45 _ _ _ _ _ _ HJ.out (by simp) z8.out).mono ?_; rintro e w9 ⟨rfl, v9, hj⟩; have HJ := hid hj; clear hj))
  clear hcp9
  generalize hL : ([] ++ [a1] ++ [a2] ++ [a4] ++ [a5] ++ [a6] ++ [a7] ++ [a8] : List Int) = L at HJ
  generalize hM : (0 + one b1 + one b2 + one b4 + one b5 + one b6 + one b7 + one b8 : Int) = M at HJ HM
  have HLL := hid hL
  have hLn : Hid (L.length = 7) := by unfold Hid; rw [← hL]; rfl
  clear hL hM
  obtain ⟨av, nv, cv, rfl⟩ : ∃ av nv cv, v9 = .slice av nv cv := by rcases HJ.out.ti.own.2 with ⟨h, _⟩ | ⟨g, cap, cur, h, _⟩ <;> exact ⟨_, _, _, h⟩
  have hS0 : w9.drew.cell? ⟨gl, 0, none⟩ = some (.slice av nv cv) ∧ w9.drew.cell? ⟨gm, 0, none⟩ = some (.int .i64 M) := ⟨blk_cell HJ.out.ti.bl 0, blk_cell HJ.out.ti.bm 0⟩
  have HT := hid (HJ.out.ti.on (Bd w9 1))
  refine wp_region_held_drew (S := fun wx => wx.cell? ⟨gl, 0, none⟩ = some (.slice av nv cv) ∧ wx.cell? ⟨gm, 0, none⟩ = some (.int .i64 M)) (by kernel_rfl) hS0 (fun hHeld => ?_)
  refine htake 0 (some 59) (.slice av nv cv) rfl rfl (by kernel_rfl) (by kernel_rfl) (by kernel_rfl) (fun _ _ _ h => h) (Or.inl ⟨by rfl, fun wx hSw => ?_⟩) (by assumption) ?_
  · obtain ⟨s0, s1⟩ := hSw; go_simp
  simp only [Act.put, List.setIfInBounds_toArray, List.set_cons_zero, List.set_cons_succ]
  refine htake 1 (some 60) (.int .i64 at_) rfl rfl (by kernel_rfl) (by kernel_rfl) (by kernel_rfl) (fun _ _ _ h => h) (Or.inl ⟨by rfl, fun wx hSw => ?_⟩) (by assumption) ?_
  · go_simp
  simp only [Act.put, List.setIfInBounds_toArray, List.set_cons_zero, List.set_cons_succ]
  refine htake 4 (some 63) (.int .i64 M) rfl rfl (by kernel_rfl) (by kernel_rfl) (by kernel_rfl) (fun _ _ _ h => h) (Or.inl ⟨by rfl, fun wx hSw => ?_⟩) (by assumption) ?_
  · obtain ⟨s0, s1⟩ := hSw; go_simp
  simp only [Act.put, List.setIfInBounds_toArray, List.set_cons_zero, List.set_cons_succ]
  clear hHeld hS0
  refine hone 2 _ rfl (by kernel_rfl) (fun K hK => ?_)
  go_simp
  have HT2 := hid (HT.out.on (Ba w9.drew (.cells #[.int .i64 at_] 2)))
  have hs2 : (w9.drew.alloc (.cells #[.int .i64 at_] 2)).cell? ⟨gl, 0, none⟩ = some (.slice av nv cv) ∧ (w9.drew.alloc (.cells #[.int .i64 at_] 2)).cell? ⟨gm, 0, none⟩ = some (.int .i64 M) := ⟨blk_cell HT2.out.bl 0, blk_cell HT2.out.bm 0⟩
  have hnew : Hid ((w9.drew.alloc (.cells #[.int .i64 at_] 2)).cell? ⟨w9.heap.size, 0, none⟩ = some (.int .i64 at_)) := blk_cell (blk_new w9.drew #[.int .i64 at_] 2) 0
  refine hK.out _ _ hs2 (fun _ => ?_)
  clear hK K hs2
  try simp only [Act.put, List.setIfInBounds_toArray, List.set_cons_zero, List.set_cons_succ]
  refine hone 3 _ rfl (by kernel_rfl) (fun K hK => ?_)
  refine stepq (some 62) rfl rfl _ _ 32 rfl base 2 Try.underlying32 info_i64 _ L.length L rfl HT2.out.own w9.heap.size 1 at_ rfl hnew.out (by rw [hLn.out]; omega) HT2.out.bs ?_
  intro g cap w5 ho hg hloc hlt
  have hge : ∀ k, (Value.slice av nv cv).ownBlock = some k → base ≤ k := fun k hk => (HT2.out.own.lt k hk).1
  have key : ∀ b, b < base → w5.heap[b]? = (w9.drew.alloc (.cells #[.int .i64 at_] 2)).heap[b]? := fun b hb => hg.block b (Nat.lt_of_lt_of_le hb HT2.out.bs) (fun e => by have := hge b e.symm; omega)
  have hs5 : w5.cell? ⟨gl, 0, none⟩ = some (.slice av nv cv) ∧ w5.cell? ⟨gm, 0, none⟩ = some (.int .i64 M) := ⟨blk_cell ((key gl HT2.out.ll).trans HT2.out.bl) 0, blk_cell ((key gm HT2.out.lm).trans HT2.out.bm) 0⟩
  have HO := hid ho
  have HB5 : Hid (Below w.heap.size w w5) := HT2.out.bel.grown hg HT2.out.bel.size (fun k hk => Nat.le_trans (Nat.le_trans HT2.out.wl (Nat.le_of_lt HT2.out.ll)) (hge k hk))
  refine hK.out _ _ hs5 (fun _ => ?_)
  clear hK K ho hg hloc hlt hge key
  try simp only [Act.put, List.setIfInBounds_toArray, List.set_cons_zero, List.set_cons_succ]
  refine hone 5 _ rfl (by kernel_rfl) (fun K hK => ?_)
  go_simp
  refine hK.out _ _ hs5 (fun _ => ?_)
  clear hK K
  try simp only [Act.put, List.setIfInBounds_toArray, List.set_cons_zero, List.set_cons_succ]
  refine hone 6 _ rfl (by kernel_rfl) (fun K hK => ?_)
  go_simp
  refine hK.out _ _ hs5 (fun _ => ?_)
  clear hK K hs5
  refine wpAnyH_done (by kernel_rfl) ?_ _
  go_wp2
  go_ret2
  have ho := HO.out
  rw [hLn.out] at ho
  have hLt : L ++ [at_] = toldL x := by rw [HL.out, ← HLL.out]; rfl
  rw [hLt] at ho
  rcases ho.2 with ⟨_, h0⟩ | ⟨g', cap', cur, h1, h2, h3, h4, h5, h6, h7⟩
  · omega
  · cases h1
    refine ⟨g, cap, by rw [HM.out]; simp [hLn.out], h4, h5, fun i hi => ?_, HB5.out⟩
    have hi' : i < (toldL x).length := by rw [HL.out]; exact hi
    rw [blk_cell h3]
    have e1 : cur[i]? = (qz (toldL x))[i]? := by
      rw [← h7, List.getElem?_take, if_pos (by omega)]; simp
    rw [e1]
    simp [qz, List.getElem?_map, List.getElem?_eq_getElem hi', List.getD_eq_getElem?_getD]
end Go.Proofs.Ytpibfpnhlcpgdaa
