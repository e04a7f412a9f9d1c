import Derived.Test.YticimejfjjmikaaGreatDoorSL4
import Derived.Test.YticimejfjjmikaaGreatDoorC3
import Derived.Test.YticimejfjjmikaaGreatDoorG13
import Derived.Test.YticimejfjjmikaaGreatDoorST4
import Derived.Test.YticimejfjjmikaaGreatDoorG9
import Derived.Lib.OthersKept
import Derived.Shelf.Strings.FieldsFuncAny
set_option linter.unusedVariables false
set_option linter.unusedSimpArgs false
set_option maxRecDepth 100000
namespace Go.Proofs.YticimejfjjmikaaGreatDoor
open Go.RowKit
structure CNd (d : Nd) : Prop where
 kind : 1 <= d.kind /\ d.kind <= 17
 num : 0 <= d.num /\ d.num <= 10000000
 text : d.text.size <= 2000
 kids : d.kids.length <= 100
 int_ : d.kind = 3 -> printedB d.text = true
theorem CNd.of {n : Nat} {d : Nd} (h : nodeB n d = true) (ht : d.text.size <= 2000) (hk : d.kids.length <= 100) : CNd d := by
 unfold nodeB at h
 simp only [Bool.and_eq_true, decide_eq_true_eq] at h
 obtain ⟨⟨⟨⟨⟨h1, h2⟩, h3⟩, h4⟩, h5⟩, h6⟩ := h
 refine ⟨⟨h1, h2⟩, ?_, ht, hk, fun e => ?_⟩
 ·unfold numB at h3
  split at h3
  ·simp only [Bool.or_eq_true, decide_eq_true_eq] at h3; omega
  split at h3
  ·unfold letB at h3; simp only [Bool.and_eq_true, decide_eq_true_eq] at h3; omega
  split at h3
  ·simp only [Bool.and_eq_true, decide_eq_true_eq] at h3; omega
  ·simp only [decide_eq_true_eq] at h3; omega
 ·unfold textB at h4; rw [if_pos e] at h4; exact h4
theorem mg_len {t : ByteArray} (h : printedB t = true) : (mg (txZ t).natAbs).length <= 40 := by
 unfold printedB at h
 simp only [Bool.and_eq_true, decide_eq_true_eq] at h
 obtain ⟨⟨_, p2⟩, _⟩ := h
 have e : (txZ t).natAbs = hv 10 (cutS (bs t)).2 := by
  unfold txZ; rw [show ∀ (b : Bool) (v : Nat), (sgn b v).natAbs = v from fun b v => by cases b <;> simp [sgn]]
 obtain ⟨h1, h2, h3, _⟩ := mgF_ok (txZ t).natAbs (txZ t).natAbs (Nat.le_refl _)
 refine length_le_of_val (B := B32) (by decide) h2 ?_
 show val B32 (mgF (txZ t).natAbs (txZ t).natAbs) < B32 ^ 40
 rw [h3, e]; exact p2
theorem CNd.size {d : Nd} (h : CNd d) : -1 <= sizeN d /\ sizeN d <= 5000 := by
 have h1 := h.text
 have h2 := h.kids
 have h3 := ltrs_len d.text
 unfold sizeN
 split
 ·omega
 split
 ·next e =>
  have := mg_len (h.int_ e)
  split <;> omega
 split
 ·omega
 split
 ·omega
 split <;> omega
def sumN (l : List Nd) : Int := (l.map sizeN).sum
def needM (ns : List Nd) (rs : List Int) : Int := if goodG ns rs = true /\ (canonN ns rs).1.all (fun d => decide (0 <= sizeN d)) = true then sumN (canonN ns rs).1 else -1
theorem sumN_take {l : List Nd} {q : Nat} (h : q < l.length) : sumN (l.take (q + 1)) = sumN (l.take q) + sizeN (l.getD q default) := by
 unfold sumN
 rw [List.take_succ_eq_append_getElem h, List.map_append, List.sum_append, List.getD_eq_getElem?_getD, List.getElem?_eq_getElem h]; simp
theorem sumN_bd {l : List Nd} (h : ∀ d ∈ l, CNd d) : ∀ q : Nat, -(q : Int) <= sumN (l.take q) /\ sumN (l.take q) <= 5000 * q
 | 0 => by simp [sumN]
 | q + 1 => by
  have ih := sumN_bd h q
  by_cases hq : q < l.length
  ·rw [sumN_take hq]
   have hm : l.getD q default ∈ l := by rw [List.getD_eq_getElem?_getD, List.getElem?_eq_getElem hq]; exact List.getElem_mem _
   have := (h _ hm).size
   omega
  ·rw [List.take_of_length_le (by omega)] at ih ⊢
   omega
theorem fineN {ns : List Nd} {rs : List Int} (hg : goodG ns rs = true) (hk : ∀ d ∈ ns, d.kids.length <= 100) (hn : ns.length <= 100) : Fine ns rs 300001 := ⟨hg, hk, by omega, by omega⟩
theorem canon_nodes {ns : List Nd} {rs : List Int} (hg : goodG ns rs = true) (hs : smallG ns) (hk : ∀ d ∈ ns, d.kids.length <= 100) (hn : ns.length <= 100) :
  (∀ d ∈ (canonN ns rs).1, CNd d) /\ (canonN ns rs).1.length <= 100 /\ (canonN ns rs).2.length = rs.length /\ goodG (canonN ns rs).1 (canonN ns rs).2 = true := by
 have F := fineN hg hk hn
 have hG := F.goodC
 refine ⟨fun d hd => ?_, ?_, F.len.2, hG⟩
 ·have h1 : (canonN ns rs).1.all (nodeB (canonN ns rs).1.length) = true := by
   unfold goodG at hG; rw [Bool.and_eq_true] at hG; exact hG.1
  exact CNd.of (List.all_eq_true.1 h1 d hd) (F.smallC hs d hd) (F.kidsC d hd)
 ·have := F.len.1; unfold canonN; omega
structure HN (B g : Nat) (N : Int) (vL : Value) (ls : List (Ob × Sl)) (gn : Nat) (vN : Value) (nm : List ByteArray) (w : World) : Prop where
 heap : RH B g N vL ls w
 names : NM B gn vN nm w
 apart : ∀ b, RF g vL ls b -> ¬ NF gn vN b
def HNF (g : Nat) (vL : Value) (ls : List (Ob × Sl)) (gn : Nat) (vN : Value) : Nat -> Prop := fun b => RF g vL ls b \/ NF gn vN b
def HNPost (B g : Nat) (N : Int) (F : Nat -> Prop) (gn : Nat) (w : World) (os' : List Ob) (nm' : List ByteArray) (w' : World) : Prop :=
 ∃ vL' ls' vN', HN B g N vL' ls' gn vN' nm' w' /\ ls'.map Prod.fst = os' /\ (∀ b, HNF g vL' ls' gn vN' b -> F b \/ w.heap.size <= b) /\ Mod F w w'
section
variable {B g gn : Nat} {N : Int} {vL vN : Value} {ls : List (Ob × Sl)} {nm : List ByteArray} {w w1 w' : World} {F : Nat -> Prop} {os : List Ob}
theorem HN.ge (h : HN B g N vL ls gn vN nm w) : ∀ b, HNF g vL ls gn vN b -> B <= b /\ b < w.heap.size := fun b e => e.elim (h.heap.foot_ge b) (h.names.ge b)
theorem HN.on (h : HN B g N vL ls gn vN nm w) (hb : Below w.heap.size w w') : HN B g N vL ls gn vN nm w' := ⟨h.heap.on hb, h.names.on hb, h.apart⟩
end
structure PS where
 ws : List Int
 nm : List ByteArray
 at_ : Nat
def stepP (s : PS) (d : Nd) : PS :=
 if sizeN d = 0 then ⟨s.ws ++ [plainWd s.nm d], plainN s.nm d, s.at_⟩ else ⟨s.ws ++ [wordR 2 (s.at_ : Nat) 0], s.nm, s.at_ + (sizeN d).toNat⟩
def putS (nm : List ByteArray) (at_ : Nat) (cs : List Nd) : PS := cs.foldl stepP ⟨[], nm, at_⟩
def putO (N : Int) (ws : List Int) (os : List Ob) (cs : List Nd) : List Ob := cs.foldl (fun os d => if 0 < sizeN d then allocO os N (fieldsK d) (fieldsL d ws) else os) os
theorem putS_take {nm : List ByteArray} {a : Nat} {cs : List Nd} {q : Nat} (h : q < cs.length) : putS nm a (cs.take (q + 1)) = stepP (putS nm a (cs.take q)) (cs.getD q default) := by
 unfold putS
 rw [List.take_succ_eq_append_getElem h, List.foldl_append, List.getD_eq_getElem?_getD, List.getElem?_eq_getElem h]; rfl
theorem putO_take {N : Int} {ws : List Int} {os : List Ob} {cs : List Nd} {q : Nat} (h : q < cs.length) : putO N ws os (cs.take (q + 1)) = if 0 < sizeN (cs.getD q default) then allocO (putO N ws os (cs.take q)) N (fieldsK (cs.getD q default)) (fieldsL (cs.getD q default) ws) else putO N ws os (cs.take q) := by
 unfold putO
 rw [List.take_succ_eq_append_getElem h, List.foldl_append, List.getD_eq_getElem?_getD, List.getElem?_eq_getElem h]; rfl
theorem putS_len {nm : List ByteArray} {a : Nat} {cs : List Nd} : ∀ q, q <= cs.length -> (putS nm a (cs.take q)).ws.length = q
 | 0, _ => by simp [putS]
 | q + 1, h => by
  rw [putS_take (by omega)]
  have ih := putS_len (nm := nm) (a := a) (cs := cs) q (by omega)
  unfold stepP
  split <;> simp [ih]
theorem idL_len (ls : List ByteArray) (s : ByteArray) : (idL ls s).length <= ls.length + 1 := by
 unfold idL; split <;> simp
theorem plainN_len (ls : List ByteArray) (d : Nd) : (plainN ls d).length <= ls.length + 1 := by
 unfold plainN
 split
 ·exact idL_len _ _
 ·omega
theorem putS_nm {nm : List ByteArray} {a : Nat} {cs : List Nd} : ∀ q, q <= cs.length -> (putS nm a (cs.take q)).nm.length <= nm.length + q
 | 0, _ => by simp [putS]
 | q + 1, h => by
  rw [putS_take (by omega)]
  have ih := putS_nm (nm := nm) (a := a) (cs := cs) q (by omega)
  unfold stepP
  split
  ·have := plainN_len (putS nm a (cs.take q)).nm (cs.getD q default)
   show (plainN (putS nm a (cs.take q)).nm (cs.getD q default)).length <= _
   omega
  ·show (putS nm a (cs.take q)).nm.length <= _
   omega
theorem putS_u {nm : List ByteArray} {a : Nat} {cs : List Nd} : ∀ q, q <= cs.length -> ∀ z ∈ (putS nm a (cs.take q)).ws, U64 z
 | 0, _ => by simp [putS]
 | q + 1, h => by
  rw [putS_take (by omega)]
  have ih := putS_u (nm := nm) (a := a) (cs := cs) q (by omega)
  unfold stepP
  split
  ·intro z hz
   rcases List.mem_append.1 hz with hz | hz
   ·exact ih z hz
   ·obtain rfl := List.mem_singleton.1 hz; exact plainWd_u _ _
  ·intro z hz
   rcases List.mem_append.1 hz with hz | hz
   ·exact ih z hz
   ·obtain rfl := List.mem_singleton.1 hz; exact wordR_rng _ _ _
theorem putS_at {nm : List ByteArray} {a : Nat} {cs : List Nd} (hc : cs.all (fun d => decide (0 <= sizeN d)) = true) : ∀ q, q <= cs.length -> ((putS nm a (cs.take q)).at_ : Int) = a + sumN (cs.take q)
 | 0, _ => by simp [putS, sumN]
 | q + 1, h => by
  have hq : q < cs.length := by omega
  rw [putS_take hq, sumN_take hq]
  have ih := putS_at (nm := nm) (a := a) hc q (by omega)
  have hm : cs.getD q default ∈ cs := by rw [List.getD_eq_getElem?_getD, List.getElem?_eq_getElem hq]; exact List.getElem_mem _
  have h0 := of_decide_eq_true (List.all_eq_true.1 hc _ hm)
  unfold stepP
  split
  ·next e => rw [e]; show ((putS nm a (cs.take q)).at_ : Int) = _; omega
  ·show (((putS nm a (cs.take q)).at_ + (sizeN (cs.getD q default)).toNat : Nat) : Int) = _; omega
def putR (N : Int) (os : List Ob) (nm : List ByteArray) (ns : List Nd) (rs : List Int) : List Int × Int × List Ob × List ByteArray :=
 if needM ns rs < 0 then ([], 20, os, nm) else if N - (usedL os : Nat) < needM ns rs then ([], 3, os, nm)
 else ((canonN ns rs).2.map (fun i : Int => (putS nm (usedL os) (canonN ns rs).1).ws.getD i.toNat 0), 0, putO N (putS nm (usedL os) (canonN ns rs).1).ws os (canonN ns rs).1, (putS nm (usedL os) (canonN ns rs).1).nm)
theorem appW {P : Program} {w : World} {ops : Array Oper} {rest : List Oper} {o : Oper} {a : Act} {Q : Exit -> Act -> World -> Prop} (hgd : o.guard = none) (s x : Operand) (t : TypeId) (ho : o.op = .call { callee := .builtin .append, args := #[s, x], argTypes := #[t, t] })
  (base : Nat) (e : TypeId) (ht : P.underlying t = some (.slice e)) (hi : (P.info? e).map (fun i => (i.zero, i.size, i.bytes)) = some (some (.int .u64 0), 1, 8))
  (v : Value) (n : Nat) (l : List Int) (hs : a.eval s = v) (hown : w.ownsRow base e 1 v n (uz l))
  (ad : Addr) (c : Nat) (d : Int) (hx : a.eval x = .slice (some ad) 1 c) (hd : w.cell? ad = some (.int .u64 d)) (hsm : n <= 10000000) (hbase : base <= w.heap.size)
  (h : ∀ g cap w', w'.ownsRow base e 1 (.slice (some ⟨g, 0, none⟩) (n + 1) cap) (n + 1) (uz (l ++ [d])) -> w.grownBy w' v.ownBlock -> (v.ownBlock = some g \/ g = w.heap.size) -> g < w'.heap.size -> wpList P ops Q rest (a.put o.dst (.slice (some ⟨g, 0, none⟩) (n + 1) cap)) w') :
  wpList P ops Q (o :: rest) a w := by
 obtain ⟨i0, hi0, hz0, hz1, hz2⟩ : ∃ i0, P.info? e = some i0 /\ i0.zero = some (.int .u64 0) /\ i0.size = 1 /\ i0.bytes = 8 := by
  cases h : P.info? e with
  | none => rw [h] at hi; cases hi
  | some i => rw [h] at hi; simp at hi; exact ⟨i, rfl, hi.1, hi.2.1, hi.2.2⟩
 refine wpList_append_lies w hgd s x t ho base e i0 (.int .u64 0) 1 8 ht hi0 hz0 hz1 hz2 rfl (by decide) v n (uz l) hs hown ad 1 c [.int .u64 d] hx rfl ?_ ?_ (by decide) (by unfold maxLen; omega) (by omega) hbase w.heap.size rfl ?_
 ·intro j u hj
  match j, hj with
  | 0, hj => simp at hj; subst hj; simpa [Addr.add] using hd
 ·intro u hu; simp at hu; subst hu; rfl
 ·intro g cap w' h1 h2 h3 h4
  refine h g cap w' ?_ h2 h3 h4
  rw [uz_append]; exact h1
theorem sumN_app (a b : List Nd) : sumN (a ++ b) = sumN a + sumN b := by simp [sumN, List.sum_append]
theorem sumN_nonneg : ∀ {l : List Nd}, (∀ d ∈ l, 0 <= sizeN d) -> 0 <= sumN l
 | [], _ => by simp [sumN]
 | d :: l, h => by
  have h1 := h d (by simp)
  have h2 := sumN_nonneg (l := l) (fun x hx => h x (by simp [hx]))
  have : sumN (d :: l) = sizeN d + sumN l := by simp [sumN]
  omega
theorem sumN_le {l : List Nd} (h : l.all (fun d => decide (0 <= sizeN d)) = true) (q : Nat) : 0 <= sumN (l.take q) /\ sumN (l.take q) <= sumN l := by
 have h0 : ∀ d ∈ l, 0 <= sizeN d := fun d hd => of_decide_eq_true (List.all_eq_true.1 h d hd)
 have e := sumN_app (l.take q) (l.drop q)
 rw [List.take_append_drop] at e
 have h1 := sumN_nonneg (l := l.take q) (fun d hd => h0 d (List.mem_of_mem_take hd))
 have h2 := sumN_nonneg (l := l.drop q) (fun d hd => h0 d (List.mem_of_mem_drop hd))
 omega
theorem fieldsL_len {d : Nd} {ws : List Int} (hz : 0 < sizeN d) : ((fieldsL d ws).length : Int) + 1 = sizeN d := by
 unfold sizeN at hz ⊢
 unfold fieldsL
 by_cases h1 : d.kind = 1 \/ d.kind = 2 \/ d.kind = 4 \/ d.kind = 6 \/ d.kind = 10 \/ d.kind = 11
 ·rw [if_pos h1] at hz; omega
 rw [if_neg h1] at hz ⊢
 by_cases h3 : d.kind = 3
 ·rw [if_pos h3] at hz ⊢
  rw [if_pos h3]
  by_cases hf : fixB (txZ d.text) = true
  ·rw [if_pos hf] at hz; omega
  ·rw [if_neg hf, bigL_len]; omega
 rw [if_neg h3] at hz ⊢
 rw [if_neg h3]
 by_cases h5 : d.kind = 5
 ·rw [if_pos h5, if_pos h5, List.length_map]; omega
 rw [if_neg h5] at hz ⊢
 rw [if_neg h5]
 by_cases h7 : d.kind = 7 \/ d.kind = 8
 ·rw [if_pos h7, if_neg (by omega), List.length_map]; omega
 rw [if_neg h7] at hz ⊢
 by_cases h9 : d.kind = 9
 ·rw [if_pos h9, if_pos h9, bytesL_len]; omega
 rw [if_neg h9] at hz
 omega
theorem needM_le {ns : List Nd} {rs : List Int} (hs : smallG ns) (hk : ∀ d ∈ ns, d.kids.length <= 100) (hn : ns.length <= 100) : -1 <= needM ns rs /\ needM ns rs <= 500000 := by
 unfold needM
 split
 ·next h =>
  obtain ⟨c1, c2, _, _⟩ := canon_nodes h.1 hs hk hn
  have h1 := sumN_bd c1 (canonN ns rs).1.length
  have h2 := sumN_le h.2 (canonN ns rs).1.length
  rw [List.take_of_length_le (Nat.le_refl _)] at h1 h2
  omega
 ·omega
theorem say {k n t : Int} (h : rightB k n t = true) (hk : k ≠ 8) (ht : t = 0) : nK (wordR k n t) = k /\ nN (wordR k n t) = n := by
 have := word_back (k := k) (n := n) (t := t) h
 unfold nK nN
 subst ht
 rw [this]
 exact ⟨rfl, rfl⟩
theorem idL_pre (ls : List ByteArray) (s : ByteArray) : ls <+: idL ls s := by
 unfold idL; split
 ·exact List.prefix_refl _
 ·exact List.prefix_append _ _
theorem step_pre (s : PS) (d : Nd) : s.nm <+: (stepP s d).nm := by
 unfold stepP
 split
 ·show s.nm <+: plainN s.nm d
  unfold plainN
  split
  ·exact idL_pre _ _
  ·exact List.prefix_refl _
 ·exact List.prefix_refl _
theorem putS_pre {nm : List ByteArray} {a : Nat} {cs : List Nd} {q : Nat} : ∀ {p : Nat}, q <= p -> p <= cs.length -> (putS nm a (cs.take q)).nm <+: (putS nm a (cs.take p)).nm := fun {p} => by
 induction p with
 | zero => intro h _; obtain rfl : q = 0 := by omega
           exact List.prefix_refl _
 | succ p ih =>
  intro h hp
  by_cases e : q = p + 1
  ·subst e; exact List.prefix_refl _
  ·rw [putS_take (q := p) (by omega)]
   exact (ih (by omega) (by omega)).trans (step_pre _ _)
theorem putS_ws {nm : List ByteArray} {a : Nat} {cs : List Nd} : ∀ {p q : Nat}, q < p -> p <= cs.length -> (putS nm a (cs.take p)).ws.getD q 0 = (putS nm a (cs.take (q + 1))).ws.getD q 0 := fun {p q} => by
 induction p with
 | zero => intro h _; omega
 | succ p ih =>
  intro h hp
  by_cases e : q = p
  ·subst e; rfl
  ·have hl := putS_len (nm := nm) (a := a) (cs := cs) p (by omega)
   rw [<- ih (by omega) (by omega), putS_take (q := p) (by omega)]
   unfold stepP
   split
   ·show ((putS nm a (cs.take p)).ws ++ [_]).getD q 0 = _
    rw [List.getD_eq_getElem?_getD, List.getElem?_append_left (by omega), <- List.getD_eq_getElem?_getD]
   ·show ((putS nm a (cs.take p)).ws ++ [_]).getD q 0 = _
    rw [List.getD_eq_getElem?_getD, List.getElem?_append_left (by omega), <- List.getD_eq_getElem?_getD]
theorem putS_word {nm : List ByteArray} {a : Nat} {cs : List Nd} {i : Nat} (h : i < cs.length) : (putS nm a cs).ws.getD i 0 = if sizeN (cs.getD i default) = 0 then plainWd (putS nm a (cs.take i)).nm (cs.getD i default) else wordR 2 ((putS nm a (cs.take i)).at_ : Nat) 0 := by
 have hl := putS_len (nm := nm) (a := a) (cs := cs) i (by omega)
 have e : (putS nm a cs).ws.getD i 0 = (putS nm a (cs.take (i + 1))).ws.getD i 0 := by
  have := putS_ws (nm := nm) (a := a) (cs := cs) (p := cs.length) (q := i) h (Nat.le_refl _)
  rw [List.take_length] at this
  exact this
 rw [e, putS_take h]
 unfold stepP
 split
 ·show ((putS nm a (cs.take i)).ws ++ [_]).getD i 0 = _
  rw [List.getD_eq_getElem?_getD, List.getElem?_append_right (by omega), hl, Nat.sub_self]; rfl
 ·show ((putS nm a (cs.take i)).ws ++ [_]).getD i 0 = _
  rw [List.getD_eq_getElem?_getD, List.getElem?_append_right (by omega), hl, Nat.sub_self]; rfl
theorem node_parts {n : Nat} {d : Nd} (h : nodeB n d = true) : 1 <= d.kind /\ d.kind <= 17 /\ numB d.kind d.num = true /\ textB d.kind d.text = true /\ countB d.kind d.kids.length = true /\ placesB d.kids n = true := by
 unfold nodeB at h
 simp only [Bool.and_eq_true, decide_eq_true_eq] at h
 obtain ⟨⟨⟨⟨⟨h1, h2⟩, h3⟩, h4⟩, h5⟩, h6⟩ := h
 exact ⟨h1, h2, h3, h4, h5, h6⟩
theorem no_kids {k : Int} {l : List Int} (h : countB k l.length = true) (h1 : k ≠ 7) (h2 : k ≠ 13) (h3 : k ≠ 8) (h4 : k ≠ 15) (h5 : k ≠ 16) : l = [] := by
 rw [countB_o _ h1 h2 h3 h4 h5] at h
 exact List.length_eq_zero_iff.1 (of_decide_eq_true h)
theorem count_ltrs {t : ByteArray} (hv : Lib.validD t.data.toList = true) : Lib.runeCount t = (ltrs t).length := by
 obtain ⟨l, h1, h2, h3⟩ := told_spelt (s := t) (f := t.size) (p := 0) (by rw [List.drop_zero]; exact hv) (by omega)
 rw [List.drop_zero] at h3
 rw [spelt_count h2 h3]
 unfold ltrs
 rw [h1, List.length_map]
theorem next_ltr {s : ByteArray} {p f : Nat} (hv : Lib.validD (s.data.toList.drop p) = true) (hp : p < s.size) :
  ltF s (f + 1) p = ((Utf8.decode s p).1 : Int) :: ltF s f (p + (Utf8.decode s p).2) /\ Lib.validD (s.data.toList.drop (p + (Utf8.decode s p).2)) = true /\ letB ((Utf8.decode s p).1 : Int) = true /\ 1 <= (Utf8.decode s p).2 /\ (Utf8.decode s p).2 <= 4 := by
 have h2 : s.data.toList.length = s.size := rfl
 have hne : s.data.toList.drop p ≠ [] := by
  intro e; have := congrArg List.length e; rw [List.length_drop] at this; simp only [List.length_nil] at this; omega
 have hv0 := hv
 rw [Lib.validD_step _ hne, Lib.decodeL_drop] at hv
 by_cases hb : (Utf8.decode s p).1 = 65533 /\ (Utf8.decode s p).2 = 1
 ·rw [if_pos hb] at hv; cases hv
 ·rw [if_neg hb] at hv
  have hne2 : ¬ Utf8.decode s p = (65533, 1) := fun e => hb (by rw [e]; exact ⟨rfl, rfl⟩)
  have er : runeD s p = Utf8.decode s p := by unfold runeD; rw [if_neg hne2]
  have hw := decode_le s p
  rw [List.drop_drop] at hv
  refine ⟨?_, hv, ?_, hw.1, hw.2⟩
  ·show (if p < s.size then ((runeD s p).1 : Int) :: ltF s f (p + max 1 (runeD s p).2) else []) = _
   rw [if_pos hp, er, show max 1 (Utf8.decode s p).2 = (Utf8.decode s p).2 by omega]
  ·have hd : Utf8.decode s p = Lib.decodeL (s.data.toList.drop p) := (Lib.decodeL_drop s p).symm
   have := Lib.decodeN_valid (s.data.toList.drop p).length ((s.data.toList.drop p).getD 0 0).toNat ((s.data.toList.drop p).getD 1 0).toNat ((s.data.toList.drop p).getD 2 0).toNat ((s.data.toList.drop p).getD 3 0).toNat (UInt8.toNat_lt _)
   rw [<- Lib.decodeL_N, <- hd] at this
   unfold letB
   simp only [Bool.and_eq_true, Bool.or_eq_true, decide_eq_true_eq]
   omega
def ltW (c : Int) : Int := wordR 4 c 0
set_option maxHeartbeats 4000000 in
theorem pletters_any (t : ByteArray) (ht : t.size <= 1000000) (hv : Lib.validD t.data.toList = true) (w : World) :
  Calls Tryz.prog 178 #[.string t] w fun e w' => ∃ v, e = .returned v /\ w'.ownsRow w.heap.size 44 1 v (ltrs t).length (uz ((ltrs t).map ltW)) /\ Below w.heap.size w w' := by
 have CW : Hid (∀ x : Nat, letB (x : Int) = true -> ∀ W, Calls Tryz.prog 176 #[.int .i64 (x : Nat)] W fun e w' => e = .returned (.tuple #[.int .u64 (ltW (x : Nat)), .bool true]) /\ w' = W) := fun x hx W => by
  have hr := ltrB_rng (n := (x : Int)) hx
  have e : rightB 4 (x : Int) 0 = true := by
   unfold rightB
   rw [if_neg (by decide), if_neg (by decide), if_neg (by decide), if_pos rfl, decide_eq_true (by omega), decide_eq_true (by omega)]
   exact hx
  have := char_any (x : Int) (by unfold Z64; omega) W
  rw [e] at this
  exact this
 have HI0 : Hid ((w.iter t 0).heap[w.heap.size]? = some (.stringIter t 0)) := World.iter_heap w t 0
 have HB0 : Hid (Below w.heap.size w (w.iter t 0)) := Ba w (.stringIter t 0)
 have HV : Hid (Lib.validD (t.data.toList.drop 0) = true) := by unfold Hid; rw [List.drop_zero]; exact hv
 clear hv
 go_enter Tryz.func178, Tryz.ntmps178
 go_wp2_with fail
 go_loopw [3, 5, 6, 7] (fun v _ _ _ wr => Hid (∃ (p f : Nat) (ls : List Int), wr.heap[w.heap.size]? = some (.stringIter t p) /\ wr.ownsRow w.heap.size 44 1 v ls.length (uz (ls.map ltW)) /\ Below w.heap.size w wr /\ ltrs t = ls ++ ltF t f p /\ t.size <= p + f /\ ls.length <= p /\ p <= t.size + 4 /\ Lib.validD (t.data.toList.drop p) = true)) (fun _ _ _ _ wr => t.size + 5 - wr.iterPos w.heap.size)
 case atStart => exact ⟨0, t.size, [], HI0.out, World.ownsRow_nil _ _ _ _, HB0.out, rfl, by omega, by simp, by omega, HV.out⟩
 case round =>
  obtain ⟨p, f, ls, hit, ho, hb, hl, hf, hlp, hp4, hv⟩ := hrel.out
  have hpos : wr.iterPos w.heap.size = p := by unfold World.iterPos; rw [hit]
  have HIT := hid hit
  have HO := hid ho
  have HB := hid hb
  have HL := hid hl
  have HPO := hid hpos
  clear hrel ho hb hl hpos
  by_cases hlt : p < t.size
  ·obtain ⟨g, hg⟩ : ∃ g, f = g + 1 := ⟨f - 1, by omega⟩
   obtain ⟨n1, n2, n3, n4, n5⟩ := next_ltr (f := g) hv hlt
   have hnx := fun ty => Lib.run_next_any_at (P := Tryz.prog) wr w.heap.size t p ty hit hlt
   have HIT2 := hid (Lib.iterAt_heap wr w.heap.size t p (p + (Utf8.decode t p).2) hit)
   have HOI := hid (own_iterAt HO.out hit (p + (Utf8.decode t p).2))
   have HBI := hid (Lib.below_iterAt HB.out (Nat.le_refl _) t (p + (Utf8.decode t p).2))
   have C1 := hid (CW.out (Utf8.decode t p).1 n3)
   have hr := ltrB_rng (n := ((Utf8.decode t p).1 : Int)) n3
   obtain ⟨⟨c, k⟩, hck⟩ : ∃ x, x = Utf8.decode t p := ⟨_, rfl⟩
   rw [<- hck] at hnx HIT2 HOI HBI C1 n1 n2 n4 n5 hr
   simp only at hnx HIT2 HOI HBI C1 n1 n2 n4 n5 hr
   obtain ⟨WI, hWI⟩ : ∃ W, W = wr.iterAt w.heap.size t (p + k) := ⟨_, rfl⟩
   rw [<- hWI] at hnx HIT2 HOI HBI
   have HN1 := hid n1
   have HN2 := hid n2
   have HSI : Hid (WI.heap.size = wr.heap.size) := by unfold Hid; rw [hWI]; exact Lib.iterAt_size _ _ _ _
   obtain ⟨z, hz⟩ : ∃ z, z = ltW ((c : Nat) : Int) := ⟨_, rfl⟩
   have HZ := hid hz
   have hzu : Hid (U64 z) := by unfold Hid; rw [hz]; exact wordR_rng _ _ _
   rw [<- hz] at C1
   have HO1 := hid (uown_on HOI.out (Ba WI (.cells #[.int .u64 z] 44)))
   have HU1 := hid (urow_one (blk_new WI #[.int .u64 z] 44) hzu.out)
   have HBA := hid (HBI.out.trans ((Ba WI (.cells #[.int .u64 z] 44)).mono HBI.out.size))
   have HSA := hid HBA.out.size
   have HIT3 := hid (((Ba WI (.cells #[.int .u64 z] 44)).block w.heap.size (Array.getElem?_eq_some_iff.1 HIT2.out).1).trans HIT2.out)
   have HNE := hid (own_ne_iter HO1.out HIT3.out)
   obtain ⟨n, hn⟩ : ∃ n, n = ls.length := ⟨_, rfl⟩
   rw [<- hn] at HO1 hlp
   have HN := hid hn
   clear hit hv n1 n2 n3 hck hWI hz hn
   go_wp2_with (first
    | (go_at_call 176; (with_reducible refine (C1.out WI).mono ?_); rintro e W1 ⟨rfl, hw1⟩; rw [hw1]; clear hw1)
    | (at_builtin; refine appU rfl _ _ 23 rfl w.heap.size 44 Tryz.underlying23 info_word _ n (ls.map ltW) rfl HO1.out (some ⟨WI.heap.size, 0, none⟩) 1 1 [z] rfl HU1.out (by omega) HSA.out ?_; intro v2 w2 ho2 hg2))
   have HE : Hid (Below w.heap.size w w2) := HBA.out.grown hg2 HSA.out (fun b hb => (HO1.out.lt b hb).1)
   have hit2 : w2.heap[w.heap.size]? = some (.stringIter t (p + k)) := (hg2.block w.heap.size (by rw [size_alloc]; have := (Array.getElem?_eq_some_iff.1 HIT2.out).1; omega) HNE.out).trans HIT3.out
   refine ⟨⟨p + k, g, ls ++ [(c : Int)], hit2, ?_, HE.out, ?_, by omega, by rw [List.length_append, <- HN.out]; simp; omega, by omega, HN2.out⟩, ?_⟩
   ·rw [List.length_append, <- HN.out, List.map_append]
    show w2.ownsRow w.heap.size 44 1 v2 (n + 1) (uz (ls.map ltW ++ [ltW (c : Int)]))
    rw [<- HZ.out]; exact ho2
   ·rw [HL.out, hg, HN1.out, List.append_assoc]; rfl
   ·have e2 : w2.iterPos w.heap.size = p + k := by unfold World.iterPos; rw [hit2]
    rw [e2, HPO.out]; omega
  ·have hnx := fun ty => Lib.run_next_end_at (P := Tryz.prog) wr w.heap.size t p ty hit hlt
   clear hit hv
   go_wp2_with fail
   go_ret
   have he : ltF t f p = [] := by
    cases f with
    | zero => rfl
    | succ f => rw [ltF, if_neg hlt]
   have hl := HL.out
   rw [he, List.append_nil] at hl
   rw [hl]
   exact ⟨_, rfl, HO.out, HB.out⟩
structure LNd (d : Nd) : Prop where
 c : CNd d
 sz : 0 <= sizeN d
 tv : d.kind = 5 -> Lib.validD d.text.data.toList = true
theorem LNd.of {n : Nat} {d : Nd} (h : nodeB n d = true) (hc : CNd d) (hz : 0 <= sizeN d) : LNd d := by
 refine ⟨hc, hz, fun e => ?_⟩
 obtain ⟨_, _, _, h4, _⟩ := node_parts h
 rw [e, textB_5, Bool.and_eq_true] at h4
 exact h4.1
theorem size_neg {d : Nd} (h : CNd d) : sizeN d < 0 ↔ 11 < d.kind := by
 have := h.kind
 unfold sizeN
 constructor
 ·intro hn
  split at hn
  ·omega
  split at hn
  ·split at hn <;> omega
  split at hn
  ·omega
  split at hn
  ·omega
  split at hn <;> omega
 ·intro hk
  rw [if_neg (by omega), if_neg (by omega), if_neg (by omega), if_neg (by omega), if_neg (by omega)]
  omega
set_option maxHeartbeats 4000000 in
theorem plen_any (d : Nd) (ka : Option Addr) (kc : Nat) (w : World) (hd : LNd d) (hkk : d.kids.length <= kc) (hkc : kc <= 9223372036854775807) :
  Calls Tryz.prog 142 #[NdVal d ka kc] w fun e w' => e = .returned (.int .i64 (sizeN d)) /\ Below w.heap.size w w' := by
 have HB := hid (Ba w (.cells #[.int .i64 d.kind, .int .i64 d.num, .string d.text, .slice ka d.kids.length kc] 54))
 have hx := blk_new w #[.int .i64 d.kind, .int .i64 d.num, .string d.text, .slice ka d.kids.length kc] 54
 have HSZ : Hid (sizeN d = if d.kind = 1 \/ d.kind = 2 \/ d.kind = 4 \/ d.kind = 6 \/ d.kind = 10 \/ d.kind = 11 then (0 : Int)
  else if d.kind = 3 then (if fixB (txZ d.text) = true then 0 else 2 + (((mg (txZ d.text).natAbs).length : Nat) : Int))
  else if d.kind = 5 then 1 + (((ltrs d.text).length : Nat) : Int)
  else if d.kind = 7 \/ d.kind = 8 then 1 + ((d.kids.length : Nat) : Int)
  else if d.kind = 9 then 1 + ((d.text.size : Nat) : Int) else (-1 : Int)) := rfl
 have HP := hid hd.c.int_
 have HV := hid hd.tv
 have hge := hd.sz
 have hkd := hd.c.kind
 have htx := hd.c.text
 have hks := hd.c.kids
 unfold NdVal
 clear hd
 obtain ⟨dk, dn, dt, dl⟩ := d
 simp only at HB HSZ HP HV htx hkk hks hkd hx ⊢
 have c0 : (w.alloc (.cells #[.int .i64 dk, .int .i64 dn, .string dt, .slice ka dl.length kc] 54)).cell? ⟨w.heap.size, 0, none⟩ = some (.int .i64 dk) := blk_cell hx 0
 have c2 : (w.alloc (.cells #[.int .i64 dk, .int .i64 dn, .string dt, .slice ka dl.length kc] 54)).cell? ⟨w.heap.size, 2, none⟩ = some (.string dt) := blk_cell hx 2
 have c3 : (w.alloc (.cells #[.int .i64 dk, .int .i64 dn, .string dt, .slice ka dl.length kc] 54)).cell? ⟨w.heap.size, 3, none⟩ = some (.slice ka dl.length kc) := blk_cell hx 3
 obtain ⟨kn, hkn⟩ : ∃ n, n = dl.length := ⟨_, rfl⟩
 rw [<- hkn] at HB HSZ c0 c2 c3 hkk hks ⊢
 clear hx hkn
 by_cases k3 : dk = 3
 ·subst k3
  rw [if_neg (by omega), if_pos rfl] at HSZ
  have C := hid (plen_int dt (by omega) (HP.out rfl) (w.alloc (.cells #[.int .i64 3, .int .i64 dn, .string dt, .slice ka kn kc] 54)))
  rw [<- HSZ.out] at C
  obtain ⟨z, hz⟩ : ∃ z, z = sizeN ⟨3, dn, dt, dl⟩ := ⟨_, rfl⟩
  rw [<- hz] at C ⊢
  clear hz hge HSZ
  go_enter Tryz.func142, Tryz.ntmps142
  go_wp2_with (go_at_call 172; (with_reducible refine C.out.mono ?_); rintro e W1 ⟨rfl, b1⟩; have HB1 := hid (Bt HB.out b1); clear b1)
  go_ret
  exact ⟨rfl, HB1.out⟩
 by_cases k5 : dk = 5
 ·subst k5
  rw [if_neg (by omega), if_neg (by omega), if_pos rfl] at HSZ
  have C := hid (count_any dt (w.alloc (.cells #[.int .i64 5, .int .i64 dn, .string dt, .slice ka kn kc] 54)) (by omega))
  rw [count_ltrs (HV.out rfl)] at C
  have hll := ltrs_len dt
  obtain ⟨n, hn⟩ : ∃ n, n = (ltrs dt).length := ⟨_, rfl⟩
  rw [<- hn] at C HSZ hll
  clear hn hge
  go_enter Tryz.func142, Tryz.ntmps142
  go_wp2_with (go_at_call 173; (with_reducible refine C.out.mono ?_); rintro e W1 ⟨rfl, b1⟩; have HB1 := hid (Bt HB.out b1); clear b1)
  go_ret
  rw [HSZ.out]
  exact ⟨rfl, HB1.out⟩
 by_cases k9 : dk = 9
 ·subst k9
  rw [if_neg (by omega), if_neg (by omega), if_neg (by omega), if_neg (by omega), if_pos rfl] at HSZ
  clear hge
  go_enter Tryz.func142, Tryz.ntmps142
  go_wp2_with fail
  go_ret
  rw [HSZ.out]
  exact ⟨rfl, HB.out⟩
 by_cases k7 : dk = 7
 ·subst k7
  rw [if_neg (by omega), if_neg (by omega), if_neg (by omega), if_pos (by omega)] at HSZ
  clear hge
  go_enter Tryz.func142, Tryz.ntmps142
  go_wp2_with fail
  go_ret
  rw [HSZ.out]
  exact ⟨rfl, HB.out⟩
 by_cases k8 : dk = 8
 ·subst k8
  rw [if_neg (by omega), if_neg (by omega), if_neg (by omega), if_pos (by omega)] at HSZ
  clear hge
  go_enter Tryz.func142, Tryz.ntmps142
  go_wp2_with fail
  go_ret
  rw [HSZ.out]
  exact ⟨rfl, HB.out⟩
 have h0 : Hid (sizeN ⟨dk, dn, dt, dl⟩ = 0) := by
  unfold Hid
  by_cases h1 : dk = 1 \/ dk = 2 \/ dk = 4 \/ dk = 6 \/ dk = 10 \/ dk = 11
  ·exact HSZ.out.trans (if_pos h1)
  ·have := HSZ.out
   rw [if_neg h1, if_neg k3, if_neg k5, if_neg (by omega), if_neg k9] at this
   omega
 have e3 : (dk == 3) = false := by simpa using k3
 have e5 : (dk == 5) = false := by simpa using k5
 have e7 : (dk == 7) = false := by simpa using k7
 have e8 : (dk == 8) = false := by simpa using k8
 have e9 : (dk == 9) = false := by simpa using k9
 clear k3 k5 k7 k8 k9 HSZ hge hkd
 go_enter Tryz.func142, Tryz.ntmps142
 go_wp2_with fail
 go_ret
 rw [h0.out]
 exact ⟨rfl, HB.out⟩
set_option maxHeartbeats 4000000 in
theorem pwords_any (an : Option Addr) (nn cn : Nat) (cs : List Nd) (w : World) (R : NRow w an nn cn cs) (hd : ∀ d ∈ cs, LNd d) (hn : nn <= 2500) :
  Calls Tryz.prog 85 #[.slice an nn cn] w fun e w' => e = .returned (.int .i64 (sumN cs)) /\ Below w.heap.size w w' := by
 have hl := R.len
 have hf := R.fits
 have hm := R.most
 unfold maxLen at hm
 have HR := hid R
 have HD := hid hd
 have HSB := hid (sumN_bd (fun d h => (hd d h).c))
 clear R hd
 go_enter Tryz.func85, Tryz.ntmps85
 go_wp2_with fail
 go_loopw [3, 5, 8] (fun v _ i wr => ∃ q : Nat, q <= nn /\ i = .int .i64 q /\ v = .int .i64 (sumN (cs.take q)) /\ Hid (Below w.heap.size w wr)) (fun _ _ i _ => nn - (intOf i).toNat)
 case atStart => exact ⟨0, Nat.zero_le _, rfl, rfl, Below.refl _ _⟩
 case round =>
  obtain ⟨q, hq, rfl, rfl, HBQ⟩ := hrel
  have hsb := HSB.out q
  obtain ⟨s, hs⟩ : ∃ s, s = sumN (cs.take q) := ⟨_, rfl⟩
  rw [<- hs] at hsb ⊢
  have HSQ := hid hs
  clear hs
  by_cases hlt : q < nn
  ·have hql : q < cs.length := by omega
   obtain ⟨b, o, rfl, hlb, hc⟩ := (HR.out.below HBQ.out).some (by omega)
   obtain ⟨k1, k2, k3, ak, nk, ck, k4, k5⟩ := hc q hlt
   have hmm : cs.getD q default ∈ cs := by rw [List.getD_eq_getElem?_getD, List.getElem?_eq_getElem hql]; exact List.getElem_mem _
   have hd := HD.out _ hmm
   have hsz := hd.c.size
   have hlk := k5.len
   have CS : Hid (∀ W, Calls Tryz.prog 142 #[NdVal (cs.getD q default) ak ck] W fun e w' => e = .returned (.int .i64 (sizeN (cs.getD q default))) /\ Below W.heap.size W w') := fun W => plen_any (cs.getD q default) ak ck W hd (by rw [hlk]; exact k5.fits) (by have := k5.most; unfold maxLen at this; omega)
   have HTK := hid (sumN_take hql)
   unfold NdVal at CS
   rw [hlk] at CS
   obtain ⟨d, hdd⟩ : ∃ d, d = cs.getD q default := ⟨_, rfl⟩
   rw [<- hdd] at k1 k2 k3 hsz CS HTK
   obtain ⟨z, hz⟩ : ∃ z, z = sizeN d := ⟨_, rfl⟩
   rw [<- hz] at CS HTK hsz
   obtain ⟨dk, dn, dt, dl⟩ := d
   simp only at k1 k2 k3 CS
   have hx := blk_new wr #[.int .i64 dk, .int .i64 dn, .string dt, .slice ak nk ck] 54
   have b0 : (wr.alloc (.cells #[.int .i64 dk, .int .i64 dn, .string dt, .slice ak nk ck] 54)).cell? ⟨wr.heap.size, 0, none⟩ = some (.int .i64 dk) := blk_cell hx 0
   have b1 : (wr.alloc (.cells #[.int .i64 dk, .int .i64 dn, .string dt, .slice ak nk ck] 54)).cell? ⟨wr.heap.size, 1, none⟩ = some (.int .i64 dn) := blk_cell hx 1
   have b2 : (wr.alloc (.cells #[.int .i64 dk, .int .i64 dn, .string dt, .slice ak nk ck] 54)).cell? ⟨wr.heap.size, 2, none⟩ = some (.string dt) := blk_cell hx 2
   have b3 : (wr.alloc (.cells #[.int .i64 dk, .int .i64 dn, .string dt, .slice ak nk ck] 54)).cell? ⟨wr.heap.size, 3, none⟩ = some (.slice ak nk ck) := blk_cell hx 3
   have HBA := hid (Bt HBQ.out (Ba wr (.cells #[.int .i64 dk, .int .i64 dn, .string dt, .slice ak nk ck] 54)))
   clear hc hmm hd hdd k5 hz hlk hx
   go_wp2_with (go_at_call 142; (with_reducible refine (CS.out _).mono ?_); rintro e W4 ⟨rfl, b4⟩; have HB4 := hid (Bt HBA.out b4); clear b4)
   refine ⟨⟨q + 1, by omega, by go_num, ?_, HB4.out⟩, by simp [intOf] <;> omega⟩
   rw [HTK.out, <- HSQ.out]
  ·obtain rfl : q = nn := by omega
   have hsq := HSQ.out
   rw [List.take_of_length_le (by omega)] at hsq
   have HS2 := hid hsq
   clear hsq
   go_wp2_with fail
   go_ret
   rw [<- HS2.out]
   exact ⟨rfl, HBQ.out⟩
end Go.Proofs.YticimejfjjmikaaGreatDoor
