import Derived.Test.YtadfihnffboelaaGreatDoorShelf
import Derived.Test.YtadfihnffboelaaGreatDoorC3
import Derived.Test.YtadfihnffboelaaGreatDoorG14
import Derived.Test.YtadfihnffboelaaGreatDoorM6
set_option linter.unusedVariables false
set_option linter.unusedSimpArgs false
set_option maxRecDepth 100000
namespace Go.Proofs.YtadfihnffboelaaGreatDoor
open Go.RowKit
structure CNd (d : Nd) : Prop where
 kind : 1 <= d.kind /\ d.kind <= 17
 num : 0 <= d.num /\ d.num <= 10000000
 text : d.text.size <= 2000
 kids : d.kids.length <= 100
 int_ : d.kind = 3 -> printedB d.text = true
theorem CNd.of {n : Nat} {d : Nd} (h : nodeB n d = true) (ht : d.text.size <= 2000) (hk : d.kids.length <= 100) : CNd d := by
 unfold nodeB at h
 simp only [Bool.and_eq_true, decide_eq_true_eq] at h
 obtain ⟨⟨⟨⟨⟨h1, h2⟩, h3⟩, h4⟩, h5⟩, h6⟩ := h
 refine ⟨⟨h1, h2⟩, ?_, ht, hk, fun e => ?_⟩
 ·unfold numB at h3
  split at h3
  ·simp only [Bool.or_eq_true, decide_eq_true_eq] at h3; omega
  split at h3
  ·unfold letB at h3; simp only [Bool.and_eq_true, decide_eq_true_eq] at h3; omega
  split at h3
  ·simp only [Bool.and_eq_true, decide_eq_true_eq] at h3; omega
  ·simp only [decide_eq_true_eq] at h3; omega
 ·unfold textB at h4; rw [if_pos e] at h4; exact h4
theorem mg_len {t : ByteArray} (h : printedB t = true) : (mg (txZ t).natAbs).length <= 40 := by
 unfold printedB at h
 simp only [Bool.and_eq_true, decide_eq_true_eq] at h
 obtain ⟨⟨_, p2⟩, _⟩ := h
 have e : (txZ t).natAbs = hv 10 (cutS (bs t)).2 := by
  unfold txZ; rw [show ∀ (b : Bool) (v : Nat), (sgn b v).natAbs = v from fun b v => by cases b <;> simp [sgn]]
 obtain ⟨h1, h2, h3, _⟩ := mgF_ok (txZ t).natAbs (txZ t).natAbs (Nat.le_refl _)
 refine length_le_of_val (B := B32) (by decide) h2 ?_
 show val B32 (mgF (txZ t).natAbs (txZ t).natAbs) < B32 ^ 40
 rw [h3, e]; exact p2
theorem CNd.size {d : Nd} (h : CNd d) : -1 <= sizeN d /\ sizeN d <= 5000 := by
 have h1 := h.text
 have h2 := h.kids
 have h3 := ltrs_len d.text
 unfold sizeN
 split
 ·omega
 split
 ·next e =>
  have := mg_len (h.int_ e)
  split <;> omega
 split
 ·omega
 split
 ·omega
 split <;> omega
def sumN (l : List Nd) : Int := (l.map sizeN).sum
def needM (ns : List Nd) (rs : List Int) : Int := if goodG ns rs = true /\ (canonN ns rs).1.all (fun d => decide (0 <= sizeN d)) = true then sumN (canonN ns rs).1 else -1
theorem sumN_take {l : List Nd} {q : Nat} (h : q < l.length) : sumN (l.take (q + 1)) = sumN (l.take q) + sizeN (l.getD q default) := by
 unfold sumN
 rw [List.take_succ_eq_append_getElem h, List.map_append, List.sum_append, List.getD_eq_getElem?_getD, List.getElem?_eq_getElem h]; simp
theorem sumN_bd {l : List Nd} (h : ∀ d ∈ l, CNd d) : ∀ q : Nat, -(q : Int) <= sumN (l.take q) /\ sumN (l.take q) <= 5000 * q
 | 0 => by simp [sumN]
 | q + 1 => by
  have ih := sumN_bd h q
  by_cases hq : q < l.length
  ·rw [sumN_take hq]
   have hm : l.getD q default ∈ l := by rw [List.getD_eq_getElem?_getD, List.getElem?_eq_getElem hq]; exact List.getElem_mem _
   have := (h _ hm).size
   omega
  ·rw [List.take_of_length_le (by omega)] at ih ⊢
   omega
theorem fineN {ns : List Nd} {rs : List Int} (hg : goodG ns rs = true) (hk : ∀ d ∈ ns, d.kids.length <= 100) (hn : ns.length <= 100) : Fine ns rs 300001 := ⟨hg, hk, by omega, by omega⟩
theorem canon_nodes {ns : List Nd} {rs : List Int} (hg : goodG ns rs = true) (hs : smallG ns) (hk : ∀ d ∈ ns, d.kids.length <= 100) (hn : ns.length <= 100) :
  (∀ d ∈ (canonN ns rs).1, CNd d) /\ (canonN ns rs).1.length <= 100 /\ (canonN ns rs).2.length = rs.length /\ goodG (canonN ns rs).1 (canonN ns rs).2 = true := by
 have F := fineN hg hk hn
 have hG := F.goodC
 refine ⟨fun d hd => ?_, ?_, F.len.2, hG⟩
 ·have h1 : (canonN ns rs).1.all (nodeB (canonN ns rs).1.length) = true := by
   unfold goodG at hG; rw [Bool.and_eq_true] at hG; exact hG.1
  exact CNd.of (List.all_eq_true.1 h1 d hd) (F.smallC hs d hd) (F.kidsC d hd)
 ·have := F.len.1; unfold canonN; omega
structure PS where
 ws : List Int
 nm : List ByteArray
 at_ : Nat
def stepP (s : PS) (d : Nd) : PS :=
 if sizeN d = 0 then ⟨s.ws ++ [plainWd s.nm d], plainN s.nm d, s.at_⟩ else ⟨s.ws ++ [wordR 2 (s.at_ : Nat) 0], s.nm, s.at_ + (sizeN d).toNat⟩
def putS (nm : List ByteArray) (at_ : Nat) (cs : List Nd) : PS := cs.foldl stepP ⟨[], nm, at_⟩
def putO (N : Int) (ws : List Int) (os : List Ob) (cs : List Nd) : List Ob := cs.foldl (fun os d => if 0 < sizeN d then allocO os N (fieldsK d) (fieldsL d ws) else os) os
theorem putS_take {nm : List ByteArray} {a : Nat} {cs : List Nd} {q : Nat} (h : q < cs.length) : putS nm a (cs.take (q + 1)) = stepP (putS nm a (cs.take q)) (cs.getD q default) := by
 unfold putS
 rw [List.take_succ_eq_append_getElem h, List.foldl_append, List.getD_eq_getElem?_getD, List.getElem?_eq_getElem h]; rfl
theorem putO_take {N : Int} {ws : List Int} {os : List Ob} {cs : List Nd} {q : Nat} (h : q < cs.length) : putO N ws os (cs.take (q + 1)) = if 0 < sizeN (cs.getD q default) then allocO (putO N ws os (cs.take q)) N (fieldsK (cs.getD q default)) (fieldsL (cs.getD q default) ws) else putO N ws os (cs.take q) := by
 unfold putO
 rw [List.take_succ_eq_append_getElem h, List.foldl_append, List.getD_eq_getElem?_getD, List.getElem?_eq_getElem h]; rfl
theorem putS_len {nm : List ByteArray} {a : Nat} {cs : List Nd} : ∀ q, q <= cs.length -> (putS nm a (cs.take q)).ws.length = q
 | 0, _ => by simp [putS]
 | q + 1, h => by
  rw [putS_take (by omega)]
  have ih := putS_len (nm := nm) (a := a) (cs := cs) q (by omega)
  unfold stepP
  split <;> simp [ih]
theorem idL_len (ls : List ByteArray) (s : ByteArray) : (idL ls s).length <= ls.length + 1 := by
 unfold idL; split <;> simp
theorem plainN_len (ls : List ByteArray) (d : Nd) : (plainN ls d).length <= ls.length + 1 := by
 unfold plainN
 split
 ·exact idL_len _ _
 ·omega
theorem putS_nm {nm : List ByteArray} {a : Nat} {cs : List Nd} : ∀ q, q <= cs.length -> (putS nm a (cs.take q)).nm.length <= nm.length + q
 | 0, _ => by simp [putS]
 | q + 1, h => by
  rw [putS_take (by omega)]
  have ih := putS_nm (nm := nm) (a := a) (cs := cs) q (by omega)
  unfold stepP
  split
  ·have := plainN_len (putS nm a (cs.take q)).nm (cs.getD q default)
   show (plainN (putS nm a (cs.take q)).nm (cs.getD q default)).length <= _
   omega
  ·show (putS nm a (cs.take q)).nm.length <= _
   omega
theorem putS_u {nm : List ByteArray} {a : Nat} {cs : List Nd} : ∀ q, q <= cs.length -> ∀ z ∈ (putS nm a (cs.take q)).ws, U64 z
 | 0, _ => by simp [putS]
 | q + 1, h => by
  rw [putS_take (by omega)]
  have ih := putS_u (nm := nm) (a := a) (cs := cs) q (by omega)
  unfold stepP
  split
  ·intro z hz
   rcases List.mem_append.1 hz with hz | hz
   ·exact ih z hz
   ·obtain rfl := List.mem_singleton.1 hz; exact plainWd_u _ _
  ·intro z hz
   rcases List.mem_append.1 hz with hz | hz
   ·exact ih z hz
   ·obtain rfl := List.mem_singleton.1 hz; exact wordR_rng _ _ _
theorem putS_at {nm : List ByteArray} {a : Nat} {cs : List Nd} (hc : cs.all (fun d => decide (0 <= sizeN d)) = true) : ∀ q, q <= cs.length -> ((putS nm a (cs.take q)).at_ : Int) = a + sumN (cs.take q)
 | 0, _ => by simp [putS, sumN]
 | q + 1, h => by
  have hq : q < cs.length := by omega
  rw [putS_take hq, sumN_take hq]
  have ih := putS_at (nm := nm) (a := a) hc q (by omega)
  have hm : cs.getD q default ∈ cs := by rw [List.getD_eq_getElem?_getD, List.getElem?_eq_getElem hq]; exact List.getElem_mem _
  have h0 := of_decide_eq_true (List.all_eq_true.1 hc _ hm)
  unfold stepP
  split
  ·next e => rw [e]; show ((putS nm a (cs.take q)).at_ : Int) = _; omega
  ·show (((putS nm a (cs.take q)).at_ + (sizeN (cs.getD q default)).toNat : Nat) : Int) = _; omega
def putR (N : Int) (os : List Ob) (nm : List ByteArray) (ns : List Nd) (rs : List Int) : List Int × Int × List Ob × List ByteArray :=
 if needM ns rs < 0 then ([], 20, os, nm) else if N - (usedL os : Nat) < needM ns rs then ([], 3, os, nm)
 else ((canonN ns rs).2.map (fun i : Int => (putS nm (usedL os) (canonN ns rs).1).ws.getD i.toNat 0), 0, putO N (putS nm (usedL os) (canonN ns rs).1).ws os (canonN ns rs).1, (putS nm (usedL os) (canonN ns rs).1).nm)
theorem appW {P : Program} {w : World} {ops : Array Oper} {rest : List Oper} {o : Oper} {a : Act} {Q : Exit -> Act -> World -> Prop} (hgd : o.guard = none) (s x : Operand) (t : TypeId) (ho : o.op = .call { callee := .builtin .append, args := #[s, x], argTypes := #[t, t] })
  (base : Nat) (e : TypeId) (ht : P.underlying t = some (.slice e)) (hi : (P.info? e).map (fun i => (i.zero, i.size, i.bytes)) = some (some (.int .u64 0), 1, 8))
  (v : Value) (n : Nat) (l : List Int) (hs : a.eval s = v) (hown : w.ownsRow base e 1 v n (uz l))
  (ad : Addr) (c : Nat) (d : Int) (hx : a.eval x = .slice (some ad) 1 c) (hd : w.cell? ad = some (.int .u64 d)) (hsm : n <= 10000000) (hbase : base <= w.heap.size)
  (h : ∀ g cap w', w'.ownsRow base e 1 (.slice (some ⟨g, 0, none⟩) (n + 1) cap) (n + 1) (uz (l ++ [d])) -> w.grownBy w' v.ownBlock -> (v.ownBlock = some g \/ g = w.heap.size) -> g < w'.heap.size -> wpList P ops Q rest (a.put o.dst (.slice (some ⟨g, 0, none⟩) (n + 1) cap)) w') :
  wpList P ops Q (o :: rest) a w := by
 obtain ⟨i0, hi0, hz0, hz1, hz2⟩ : ∃ i0, P.info? e = some i0 /\ i0.zero = some (.int .u64 0) /\ i0.size = 1 /\ i0.bytes = 8 := by
  cases h : P.info? e with
  | none => rw [h] at hi; cases hi
  | some i => rw [h] at hi; simp at hi; exact ⟨i, rfl, hi.1, hi.2.1, hi.2.2⟩
 refine wpList_append_lies w hgd s x t ho base e i0 (.int .u64 0) 1 8 ht hi0 hz0 hz1 hz2 rfl (by decide) v n (uz l) hs hown ad 1 c [.int .u64 d] hx rfl ?_ ?_ (by decide) (by unfold maxLen; omega) (by omega) hbase w.heap.size rfl ?_
 ·intro j u hj
  match j, hj with
  | 0, hj => simp at hj; subst hj; simpa [Addr.add] using hd
 ·intro u hu; simp at hu; subst hu; rfl
 ·intro g cap w' h1 h2 h3 h4
  refine h g cap w' ?_ h2 h3 h4
  rw [uz_append]; exact h1
theorem size_zero {d : Nd} (h : CNd d) (hz : sizeN d = 0) : d.kind = 1 \/ d.kind = 2 \/ d.kind = 4 \/ d.kind = 6 \/ d.kind = 10 \/ d.kind = 11 \/ d.kind = 3 /\ printedB d.text = true /\ fixB (txZ d.text) = true := by
 by_cases h1 : d.kind = 1 \/ d.kind = 2 \/ d.kind = 4 \/ d.kind = 6 \/ d.kind = 10 \/ d.kind = 11
 ·omega
 unfold sizeN at hz
 rw [if_neg h1] at hz
 by_cases h3 : d.kind = 3
 ·rw [if_pos h3] at hz
  by_cases hf : fixB (txZ d.text) = true
  ·exact .inr (.inr (.inr (.inr (.inr (.inr ⟨h3, h.int_ h3, hf⟩)))))
  ·rw [if_neg hf] at hz; omega
 rw [if_neg h3] at hz
 split at hz
 ·omega
 split at hz
 ·omega
 split at hz <;> omega
theorem sumN_app (a b : List Nd) : sumN (a ++ b) = sumN a + sumN b := by simp [sumN, List.sum_append]
theorem sumN_nonneg : ∀ {l : List Nd}, (∀ d ∈ l, 0 <= sizeN d) -> 0 <= sumN l
 | [], _ => by simp [sumN]
 | d :: l, h => by
  have h1 := h d (by simp)
  have h2 := sumN_nonneg (l := l) (fun x hx => h x (by simp [hx]))
  have : sumN (d :: l) = sizeN d + sumN l := by simp [sumN]
  omega
theorem sumN_le {l : List Nd} (h : l.all (fun d => decide (0 <= sizeN d)) = true) (q : Nat) : 0 <= sumN (l.take q) /\ sumN (l.take q) <= sumN l := by
 have h0 : ∀ d ∈ l, 0 <= sizeN d := fun d hd => of_decide_eq_true (List.all_eq_true.1 h d hd)
 have e := sumN_app (l.take q) (l.drop q)
 rw [List.take_append_drop] at e
 have h1 := sumN_nonneg (l := l.take q) (fun d hd => h0 d (List.mem_of_mem_take hd))
 have h2 := sumN_nonneg (l := l.drop q) (fun d hd => h0 d (List.mem_of_mem_drop hd))
 omega
theorem fieldsL_len {d : Nd} {ws : List Int} (hz : 0 < sizeN d) : ((fieldsL d ws).length : Int) + 1 = sizeN d := by
 unfold sizeN at hz ⊢
 unfold fieldsL
 by_cases h1 : d.kind = 1 \/ d.kind = 2 \/ d.kind = 4 \/ d.kind = 6 \/ d.kind = 10 \/ d.kind = 11
 ·rw [if_pos h1] at hz; omega
 rw [if_neg h1] at hz ⊢
 by_cases h3 : d.kind = 3
 ·rw [if_pos h3] at hz ⊢
  rw [if_pos h3]
  by_cases hf : fixB (txZ d.text) = true
  ·rw [if_pos hf] at hz; omega
  ·rw [if_neg hf, bigL_len]; omega
 rw [if_neg h3] at hz ⊢
 rw [if_neg h3]
 by_cases h5 : d.kind = 5
 ·rw [if_pos h5, if_pos h5, List.length_map]; omega
 rw [if_neg h5] at hz ⊢
 rw [if_neg h5]
 by_cases h7 : d.kind = 7 \/ d.kind = 8
 ·rw [if_pos h7, if_neg (by omega), List.length_map]; omega
 rw [if_neg h7] at hz ⊢
 by_cases h9 : d.kind = 9
 ·rw [if_pos h9, if_pos h9, bytesL_len]; omega
 rw [if_neg h9] at hz
 omega
theorem needM_pos {ns : List Nd} {rs : List Int} (h : ¬ needM ns rs < 0) : goodG ns rs = true /\ (canonN ns rs).1.all (fun d => decide (0 <= sizeN d)) = true /\ needM ns rs = sumN (canonN ns rs).1 := by
 unfold needM at h ⊢
 by_cases h1 : goodG ns rs = true /\ (canonN ns rs).1.all (fun d => decide (0 <= sizeN d)) = true
 ·rw [if_pos h1]; exact ⟨h1.1, h1.2, rfl⟩
 ·rw [if_neg h1] at h; omega
theorem needM_le {ns : List Nd} {rs : List Int} (hs : smallG ns) (hk : ∀ d ∈ ns, d.kids.length <= 100) (hn : ns.length <= 100) : -1 <= needM ns rs /\ needM ns rs <= 500000 := by
 unfold needM
 split
 ·next h =>
  obtain ⟨c1, c2, _, _⟩ := canon_nodes h.1 hs hk hn
  have h1 := sumN_bd c1 (canonN ns rs).1.length
  have h2 := sumN_le h.2 (canonN ns rs).1.length
  rw [List.take_of_length_le (Nat.le_refl _)] at h1 h2
  omega
 ·omega
theorem say {k n t : Int} (h : rightB k n t = true) (hk : k ≠ 8) (ht : t = 0) : nK (wordR k n t) = k /\ nN (wordR k n t) = n := by
 have := word_back (k := k) (n := n) (t := t) h
 unfold nK nN
 subst ht
 rw [this]
 exact ⟨rfl, rfl⟩
theorem say1 {z : Int} (h : fixB z = true) : nK (wordR 1 z 0) = 1 /\ nN (wordR 1 z 0) = z := say (by exact h) (by decide) rfl
theorem say2 {n : Nat} (h : n <= 1099511627776) : nK (wordR 2 (n : Int) 0) = 2 /\ nN (wordR 2 (n : Int) 0) = n := say (by unfold rightB; simp; omega) (by decide) rfl
theorem say3 {n : Int} (h : 0 <= n /\ n <= 5) : nK (wordR 3 n 0) = 3 /\ nN (wordR 3 n 0) = n := say (by unfold rightB; simp; omega) (by decide) rfl
theorem say4 {n : Int} (h : letB n = true) : nK (wordR 4 n 0) = 4 /\ nN (wordR 4 n 0) = n := by
 refine say ?_ (by decide) rfl
 have hl : ltrB n = true := h
 have := ltrB_rng hl
 unfold rightB
 rw [if_neg (by decide), if_neg (by decide), if_neg (by decide), if_pos rfl, hl, decide_eq_true (by omega), decide_eq_true (by omega)]; rfl
theorem say5 {n : Nat} (h : n <= 1073741824) : nK (wordR 5 (n : Int) 0) = 5 /\ nN (wordR 5 (n : Int) 0) = n := say (by unfold rightB; simp; omega) (by decide) rfl
theorem id_there : ∀ (ls : List ByteArray) (s : ByteArray), idM ls s < (idL ls s).length /\ (idL ls s).getD (idM ls s) ByteArray.empty = s := fun ls s => by
 have key : ∀ (l : List ByteArray), idM l s < l.length -> l.getD (idM l s) ByteArray.empty = s := fun l => by
  induction l with
  | nil => intro h; simp at h
  | cons x l ih =>
   intro h
   unfold idM at h ⊢
   by_cases e : x = s
   ·rw [if_pos e]; exact e
   ·rw [if_neg e] at h ⊢
    rw [List.getD_cons_succ]
    exact ih (by simpa using h)
 unfold idL
 by_cases h : idM ls s < ls.length
 ·rw [if_pos h]; exact ⟨h, key ls h⟩
 ·have e : idM ls s = ls.length := by have := idM_le ls s; omega
  rw [if_neg h, e]
  refine ⟨by simp, ?_⟩
  rw [List.getD_eq_getElem?_getD, List.getElem?_append_right (Nat.le_refl _), Nat.sub_self]; rfl
theorem idL_pre (ls : List ByteArray) (s : ByteArray) : ls <+: idL ls s := by
 unfold idL; split
 ·exact List.prefix_refl _
 ·exact List.prefix_append _ _
theorem pre_get {a b : List ByteArray} (h : a <+: b) {i : Nat} (hi : i < a.length) : i < b.length /\ b.getD i ByteArray.empty = a.getD i ByteArray.empty := by
 obtain ⟨c, rfl⟩ := h
 refine ⟨by rw [List.length_append]; omega, ?_⟩
 rw [List.getD_eq_getElem?_getD, List.getElem?_append_left hi, <- List.getD_eq_getElem?_getD]
theorem step_pre (s : PS) (d : Nd) : s.nm <+: (stepP s d).nm := by
 unfold stepP
 split
 ·show s.nm <+: plainN s.nm d
  unfold plainN
  split
  ·exact idL_pre _ _
  ·exact List.prefix_refl _
 ·exact List.prefix_refl _
theorem putS_pre {nm : List ByteArray} {a : Nat} {cs : List Nd} {q : Nat} : ∀ {p : Nat}, q <= p -> p <= cs.length -> (putS nm a (cs.take q)).nm <+: (putS nm a (cs.take p)).nm := fun {p} => by
 induction p with
 | zero => intro h _; obtain rfl : q = 0 := by omega
           exact List.prefix_refl _
 | succ p ih =>
  intro h hp
  by_cases e : q = p + 1
  ·subst e; exact List.prefix_refl _
  ·rw [putS_take (q := p) (by omega)]
   exact (ih (by omega) (by omega)).trans (step_pre _ _)
theorem putS_ws {nm : List ByteArray} {a : Nat} {cs : List Nd} : ∀ {p q : Nat}, q < p -> p <= cs.length -> (putS nm a (cs.take p)).ws.getD q 0 = (putS nm a (cs.take (q + 1))).ws.getD q 0 := fun {p q} => by
 induction p with
 | zero => intro h _; omega
 | succ p ih =>
  intro h hp
  by_cases e : q = p
  ·subst e; rfl
  ·have hl := putS_len (nm := nm) (a := a) (cs := cs) p (by omega)
   rw [<- ih (by omega) (by omega), putS_take (q := p) (by omega)]
   unfold stepP
   split
   ·show ((putS nm a (cs.take p)).ws ++ [_]).getD q 0 = _
    rw [List.getD_eq_getElem?_getD, List.getElem?_append_left (by omega), <- List.getD_eq_getElem?_getD]
   ·show ((putS nm a (cs.take p)).ws ++ [_]).getD q 0 = _
    rw [List.getD_eq_getElem?_getD, List.getElem?_append_left (by omega), <- List.getD_eq_getElem?_getD]
theorem putS_word {nm : List ByteArray} {a : Nat} {cs : List Nd} {i : Nat} (h : i < cs.length) : (putS nm a cs).ws.getD i 0 = if sizeN (cs.getD i default) = 0 then plainWd (putS nm a (cs.take i)).nm (cs.getD i default) else wordR 2 ((putS nm a (cs.take i)).at_ : Nat) 0 := by
 have hl := putS_len (nm := nm) (a := a) (cs := cs) i (by omega)
 have e : (putS nm a cs).ws.getD i 0 = (putS nm a (cs.take (i + 1))).ws.getD i 0 := by
  have := putS_ws (nm := nm) (a := a) (cs := cs) (p := cs.length) (q := i) h (Nat.le_refl _)
  rw [List.take_length] at this
  exact this
 rw [e, putS_take h]
 unfold stepP
 split
 ·show ((putS nm a (cs.take i)).ws ++ [_]).getD i 0 = _
  rw [List.getD_eq_getElem?_getD, List.getElem?_append_right (by omega), hl, Nat.sub_self]; rfl
 ·show ((putS nm a (cs.take i)).ws ++ [_]).getD i 0 = _
  rw [List.getD_eq_getElem?_getD, List.getElem?_append_right (by omega), hl, Nat.sub_self]; rfl
theorem node_parts {n : Nat} {d : Nd} (h : nodeB n d = true) : 1 <= d.kind /\ d.kind <= 17 /\ numB d.kind d.num = true /\ textB d.kind d.text = true /\ countB d.kind d.kids.length = true /\ placesB d.kids n = true := by
 unfold nodeB at h
 simp only [Bool.and_eq_true, decide_eq_true_eq] at h
 obtain ⟨⟨⟨⟨⟨h1, h2⟩, h3⟩, h4⟩, h5⟩, h6⟩ := h
 exact ⟨h1, h2, h3, h4, h5, h6⟩
theorem no_text {t : ByteArray} (h : decide (t.size = 0) = true) : t = ByteArray.empty := by
 rw [<- empty_dec] at h
 exact of_decide_eq_true h
theorem no_kids {k : Int} {l : List Int} (h : countB k l.length = true) (h1 : k ≠ 7) (h2 : k ≠ 13) (h3 : k ≠ 8) (h4 : k ≠ 15) (h5 : k ≠ 16) : l = [] := by
 rw [countB_o _ h1 h2 h3 h4 h5] at h
 exact List.length_eq_zero_iff.1 (of_decide_eq_true h)
theorem no_num {k n : Int} (h : numB k n = true) (h1 : k ≠ 2) (h2 : k ≠ 4) (h3 : k ≠ 13) : n = 0 := by
 rw [numB_o n h1 h2 h3] at h
 exact of_decide_eq_true h
theorem plainD_of_not {os : List Ob} {nm : List ByteArray} {x : Int} (h : nK x ≠ 2) : wordD os nm x = plainD nm x := by
 unfold wordD; rw [find_not h]
theorem told_plain {n : Nat} {d : Nd} (hd : nodeB n d = true) (hc : CNd d) (hz : sizeN d = 0) (os : List Ob) {ls nm : List ByteArray} (hp : plainN ls d <+: nm) (hl : nm.length <= 1000000000) : wordD os nm (plainWd ls d) = d := by
 obtain ⟨h1, h2, h3, h4, h5, h6⟩ := node_parts hd
 obtain ⟨k, m, t, ks⟩ := d
 simp only at h1 h2 h3 h4 h5 h6
 rcases size_zero hc hz with e | e | e | e | e | e | ⟨e, hp3, hf⟩ <;> simp only at e <;> subst e
 ·have hk := no_kids h5 (by decide) (by decide) (by decide) (by decide) (by decide)
  have hm := no_num h3 (by decide) (by decide) (by decide)
  have ht := no_text (t := t) h4
  subst hk hm ht
  obtain ⟨s1, s2⟩ := say3 (n := 0) (by omega)
  show wordD os nm (wordR 3 0 0) = _
  rw [plainD_of_not (by rw [s1]; decide)]
  unfold plainD
  rw [s1, s2]; rfl
 ·have hk := no_kids h5 (by decide) (by decide) (by decide) (by decide) (by decide)
  have ht := no_text (t := t) h4
  subst hk ht
  rw [numB_2, Bool.or_eq_true, decide_eq_true_eq, decide_eq_true_eq] at h3
  obtain ⟨s1, s2⟩ := say3 (n := 1 + m) (by omega)
  show wordD os nm (wordR 3 (1 + m) 0) = _
  rw [plainD_of_not (by rw [s1]; decide)]
  unfold plainD
  rw [s1, s2]
  rcases h3 with rfl | rfl <;> rfl
 ·have hk := no_kids h5 (by decide) (by decide) (by decide) (by decide) (by decide)
  have ht := no_text (t := t) h4
  subst hk ht
  rw [numB_4] at h3
  obtain ⟨s1, s2⟩ := say4 h3
  show wordD os nm (wordR 4 m 0) = _
  rw [plainD_of_not (by rw [s1]; decide)]
  unfold plainD
  rw [s1, s2]; rfl
 ·have hk := no_kids h5 (by decide) (by decide) (by decide) (by decide) (by decide)
  have hm := no_num h3 (by decide) (by decide) (by decide)
  subst hk hm
  have hp' : idL ls t <+: nm := hp
  obtain ⟨i1, i2⟩ := id_there ls t
  obtain ⟨j1, j2⟩ := pre_get hp' i1
  obtain ⟨s1, s2⟩ := say5 (n := idM ls t) (by omega)
  show wordD os nm (wordR 5 ((idM ls t : Nat) : Int) 0) = _
  rw [plainD_of_not (by rw [s1]; decide)]
  have hst : symT nm (wordR 5 ((idM ls t : Nat) : Int) 0) = t := by
   unfold symT; rw [s2, Int.toNat_natCast, j2, i2]
  have hsb : symB nm (wordR 5 ((idM ls t : Nat) : Int) 0) = true := by
   unfold symB; rw [hst, s1, s2, h4, decide_eq_true (show ((idM ls t : Nat) : Int) < (nm.length : Int) by omega)]; rfl
  unfold plainD
  rw [hsb, hst, s1]; rfl
 ·have hk := no_kids h5 (by decide) (by decide) (by decide) (by decide) (by decide)
  have hm := no_num h3 (by decide) (by decide) (by decide)
  have ht := no_text (t := t) h4
  subst hk hm ht
  obtain ⟨s1, s2⟩ := say3 (n := 3) (by omega)
  show wordD os nm (wordR 3 3 0) = _
  rw [plainD_of_not (by rw [s1]; decide)]
  unfold plainD
  rw [s1, s2]; rfl
 ·have hk := no_kids h5 (by decide) (by decide) (by decide) (by decide) (by decide)
  have hm := no_num h3 (by decide) (by decide) (by decide)
  have ht := no_text (t := t) h4
  subst hk hm ht
  obtain ⟨s1, s2⟩ := say3 (n := 4) (by omega)
  show wordD os nm (wordR 3 4 0) = _
  rw [plainD_of_not (by rw [s1]; decide)]
  unfold plainD
  rw [s1, s2]; rfl
 ·have hk := no_kids h5 (by decide) (by decide) (by decide) (by decide) (by decide)
  have hm := no_num h3 (by decide) (by decide) (by decide)
  subst hk hm
  simp only at hp3 hf
  obtain ⟨s1, s2⟩ := say1 hf
  show wordD os nm (wordR 1 (txZ t) 0) = _
  rw [plainD_of_not (by rw [s1]; decide)]
  unfold plainD
  rw [s1, s2, if_pos rfl, (printed_txZ hp3).1]
theorem fixB_nat {x : Nat} (h : x < 4294967296) : fixB (x : Int) = true := by
 unfold fixB
 rw [Bool.and_eq_true, decide_eq_true_eq, decide_eq_true_eq]; omega
theorem say1n {x : Nat} (h : x < 4294967296) : nK (wordR 1 (x : Int) 0) = 1 /\ nN (wordR 1 (x : Int) 0) = (x : Int) := say1 (fixB_nat h)
theorem nN_word {x : Nat} (h : x < 4294967296) : (nN (wordR 1 (x : Int) 0)).toNat = x := by rw [(say1n h).2, Int.toNat_natCast]
theorem map_two {α β γ : Type} {f : α -> β} {g : β -> γ} {h : α -> γ} {l : List α} (e : ∀ x ∈ l, g (f x) = h x) : (l.map f).map g = l.map h := by
 induction l with
 | nil => rfl
 | cons x l ih =>
  rw [List.map_cons, List.map_cons, List.map_cons, e x List.mem_cons_self, ih (fun y hy => e y (List.mem_cons_of_mem _ hy))]
theorem byT_bytes (t : ByteArray) : byT (bytesL t t.size) = bs t := by
 have e1 : byT (bytesL t t.size) = (List.range t.size).map (byteAt t) := by
  unfold byT bytesL
  exact map_two (fun i _ => nN_word (Nat.lt_trans (byteAt_lt t i) (by omega)))
 rw [e1]
 apply List.ext_getElem
 ·rw [List.length_map, List.length_range, bs_length]
 ·intro i a b
  have hi : i < t.size := by rw [bs_length] at b; exact b
  rw [List.getElem_map, List.getElem_range, <- byteAt_get hi]
  have e2 := bs_get t i hi
  rw [List.getD_eq_getElem?_getD, List.getElem?_eq_getElem b] at e2
  exact e2.symm
theorem bytes_all (t : ByteArray) : (bytesL t t.size).all byB = true := by
 rw [List.all_eq_true]
 intro x hx
 unfold bytesL at hx
 obtain ⟨i, _, rfl⟩ := List.mem_map.1 hx
 have hb := byteAt_lt t i
 have := say1n (x := byteAt t i) (Nat.lt_trans hb (by omega))
 unfold byB
 rw [this.1, this.2, Bool.and_eq_true, Bool.and_eq_true, decide_eq_true_eq, decide_eq_true_eq, decide_eq_true_eq]
 omega
theorem mag_words (l : List Nat) (h : ∀ x ∈ l, x < 4294967296) : (l.map (fun x : Nat => wordR 1 (x : Int) 0)).map (fun y => (nN y).toNat) = l := by
 refine (map_two (h := id) (fun x hx => ?_)).trans (List.map_id l)
 exact nN_word (h x hx)
theorem obj_big {n : Nat} {m : Int} {t : ByteArray} {ks : List Int} (h3 : numB 3 m = true) (h4 : textB 3 t = true) (h5 : countB 3 ks.length = true) (hf : fixB (txZ t) = false) (os : List Ob) (nm : List ByteArray) (ws : List Int) : objD os nm (fieldsK ⟨3, m, t, ks⟩) (fieldsL ⟨3, m, t, ks⟩ ws) = { (⟨3, m, t, ks⟩ : Nd) with kids := ks.map (fun k => ws.getD k.toNat 0) } := by
 have hk := no_kids h5 (by decide) (by decide) (by decide) (by decide) (by decide)
 have hm := no_num h3 (by decide) (by decide) (by decide)
 subst hk hm
 rw [textB_3] at h4
 obtain ⟨m1, m2, m3, m4⟩ := mgF_ok (txZ t).natAbs (txZ t).natAbs (Nat.le_refl _)
 have hlen := mg_len h4
 have hne : (txZ t).natAbs ≠ 0 := fun e => by
  have e0 : txZ t = 0 := by omega
  rw [e0] at hf; cases hf
 have hl0 : mg (txZ t).natAbs ≠ [] := m4 hne
 show objD os nm 5 (bigL (decide (txZ t < 0)) (mg (txZ t).natAbs)) = _
 have hw : ∀ x : Nat, x < B32 -> nK (wordR 1 (x : Int) 0) = 1 /\ nN (wordR 1 (x : Int) 0) = (x : Int) := fun x hx => say1n hx
 have hw0 : nK (wordR 1 (if decide (txZ t < 0) = true then 1 else 0) 0) = 1 /\ nN (wordR 1 (if decide (txZ t < 0) = true then 1 else 0) 0) = if decide (txZ t < 0) = true then 1 else 0 := by
  split
  ·exact hw 1 (by decide)
  ·exact hw 0 (by decide)
 have hdg : Dg B32 (mg (txZ t).natAbs) := m1
 have hmag : numMag (bigL (decide (txZ t < 0)) (mg (txZ t).natAbs)) = mg (txZ t).natAbs := by
  unfold numMag bigL
  rw [List.drop_one, List.tail_cons]
  exact mag_words _ hdg
 have hneg : numNeg (bigL (decide (txZ t < 0)) (mg (txZ t).natAbs)) = decide (txZ t < 0) := by
  unfold numNeg bigL
  show decide (nN (wordR 1 (if decide (txZ t < 0) = true then 1 else 0) 0) = 1) = _
  rw [hw0.2]
  cases decide (txZ t < 0) <;> rfl
 have hsg : sgn (decide (txZ t < 0)) (txZ t).natAbs = txZ t := by
  unfold sgn
  by_cases e : txZ t < 0
  ·rw [decide_eq_true e, if_pos rfl]; omega
  ·rw [decide_eq_false e, if_neg (by decide)]; omega
 have hgood : goodB (decide (txZ t < 0)) (mg (txZ t).natAbs) = true := by
  unfold goodB
  have l1 : 0 < (mg (txZ t).natAbs).length := List.length_pos_iff.2 hl0
  have l2 : (mg (txZ t).natAbs).getD ((mg (txZ t).natAbs).length - 1) 0 ≠ 0 := by
   rcases (show Tr (mg (txZ t).natAbs) from m2) with e | e
   ·exact absurd e hl0
   ·exact e
  rw [decide_eq_true l1, decide_eq_true hlen, decide_eq_true l2]; simp
 have hbig : bigB (bigL (decide (txZ t < 0)) (mg (txZ t).natAbs)) = true := by
  unfold bigB
  rw [hneg, hmag, hgood, show val B32 (mg (txZ t).natAbs) = (txZ t).natAbs from m3, hsg, hf]
  have a1 : 0 < (bigL (decide (txZ t < 0)) (mg (txZ t).natAbs)).length := by rw [bigL_len]; omega
  have a2 : (bigL (decide (txZ t < 0)) (mg (txZ t).natAbs)).all limbB = true := by
   rw [List.all_eq_true]
   intro y hy
   unfold bigL at hy
   rcases List.mem_cons.1 hy with rfl | hy
   ·unfold limbB
    rw [hw0.1, hw0.2]
    cases decide (txZ t < 0) <;> rfl
   ·obtain ⟨x, hx, rfl⟩ := List.mem_map.1 hy
    have hxb := hdg x hx
    unfold B32 at hxb
    unfold limbB
    rw [(hw x (hdg x hx)).1, (hw x (hdg x hx)).2, decide_eq_true (show (0 : Int) <= (x : Int) by omega), decide_eq_true (show (x : Int) < 4294967296 by omega)]; rfl
  have a3 : nN ((bigL (decide (txZ t < 0)) (mg (txZ t).natAbs)).getD 0 0) <= 1 := by
   show nN (wordR 1 (if decide (txZ t < 0) = true then 1 else 0) 0) <= 1
   rw [hw0.2]; split <;> omega
  rw [decide_eq_true a1, a2, decide_eq_true a3]; rfl
 rw [objD_5, if_pos hbig, hneg, hmag, show val B32 (mg (txZ t).natAbs) = (txZ t).natAbs from m3, (printed_txZ h4).1]; rfl
theorem obj_string {n : Nat} {m : Int} {t : ByteArray} {ks : List Int} (h3 : numB 5 m = true) (h4 : textB 5 t = true) (h5 : countB 5 ks.length = true) (os : List Ob) (nm : List ByteArray) (ws : List Int) : objD os nm (fieldsK ⟨5, m, t, ks⟩) (fieldsL ⟨5, m, t, ks⟩ ws) = { (⟨5, m, t, ks⟩ : Nd) with kids := ks.map (fun k => ws.getD k.toNat 0) } := by
 have hk := no_kids h5 (by decide) (by decide) (by decide) (by decide) (by decide)
 have hm := no_num h3 (by decide) (by decide) (by decide)
 subst hk hm
 rw [textB_5, Bool.and_eq_true, decide_eq_true_eq] at h4
 obtain ⟨l, e1, e2, e3⟩ := told_spelt (s := t) (f := t.size) (p := 0) (by rw [List.drop_zero]; exact h4.1) (by omega)
 rw [List.drop_zero] at e3
 have hcnt := spelt_count e2 e3
 show objD os nm 3 ((ltrs t).map (fun c => wordR 4 c 0)) = _
 have ef : (ltrs t).map (fun c => wordR 4 c 0) = l.map (fun c : Nat => wordR 4 (c : Int) 0) := by
  unfold ltrs
  rw [e1, List.map_map]
  simp only [Function.comp_def]
 have hall : (l.map (fun c : Nat => wordR 4 (c : Int) 0)).all lrB = true := by
  rw [List.all_eq_true]
  intro x hx
  obtain ⟨c, hc, rfl⟩ := List.mem_map.1 hx
  unfold lrB
  rw [(say4 (e2 c hc)).1]; rfl
 have htx : lrT (l.map (fun c : Nat => wordR 4 (c : Int) 0)) = bs t := by
  unfold bs
  rw [e3]
  unfold lrT spelt bs
  rw [List.flatMap_map, List.map_flatMap, List.flatMap_def, List.flatMap_def]
  refine congrArg List.flatten (List.map_congr_left (fun c hc => ?_))
  rw [(say4 (e2 c hc)).2]
 rw [ef, objD_3, hall, List.length_map, decide_eq_true (show l.length <= 1024 by omega), htx, textOf_bs]; rfl
theorem obj_pair {n : Nat} {m : Int} {t : ByteArray} {ks : List Int} (h3 : numB 7 m = true) (h4 : textB 7 t = true) (h5 : countB 7 ks.length = true) (os : List Ob) (nm : List ByteArray) (ws : List Int) : objD os nm (fieldsK ⟨7, m, t, ks⟩) (fieldsL ⟨7, m, t, ks⟩ ws) = { (⟨7, m, t, ks⟩ : Nd) with kids := ks.map (fun k => ws.getD k.toNat 0) } := by
 have hm := no_num h3 (by decide) (by decide) (by decide)
 have ht := no_text (t := t) h4
 subst hm ht
 rw [countB_2 _ (.inl rfl)] at h5
 have h5' := of_decide_eq_true h5
 show objD os nm 1 (ks.map (fun k => ws.getD k.toNat 0)) = _
 rw [objD_1, List.length_map, if_pos h5']
theorem obj_vec {n : Nat} {m : Int} {t : ByteArray} {ks : List Int} (h3 : numB 8 m = true) (h4 : textB 8 t = true) (h5 : countB 8 ks.length = true) (os : List Ob) (nm : List ByteArray) (ws : List Int) : objD os nm (fieldsK ⟨8, m, t, ks⟩) (fieldsL ⟨8, m, t, ks⟩ ws) = { (⟨8, m, t, ks⟩ : Nd) with kids := ks.map (fun k => ws.getD k.toNat 0) } := by
 have hm := no_num h3 (by decide) (by decide) (by decide)
 have ht := no_text (t := t) h4
 subst hm ht
 rw [countB_8] at h5
 have h5' := of_decide_eq_true h5
 show objD os nm 2 (ks.map (fun k => ws.getD k.toNat 0)) = _
 rw [objD_2, List.length_map, if_pos h5']
theorem obj_bytes {n : Nat} {m : Int} {t : ByteArray} {ks : List Int} (h3 : numB 9 m = true) (h4 : textB 9 t = true) (h5 : countB 9 ks.length = true) (os : List Ob) (nm : List ByteArray) (ws : List Int) : objD os nm (fieldsK ⟨9, m, t, ks⟩) (fieldsL ⟨9, m, t, ks⟩ ws) = { (⟨9, m, t, ks⟩ : Nd) with kids := ks.map (fun k => ws.getD k.toNat 0) } := by
 have hk := no_kids h5 (by decide) (by decide) (by decide) (by decide) (by decide)
 have hm := no_num h3 (by decide) (by decide) (by decide)
 subst hk hm
 rw [textB_9] at h4
 have h4' := of_decide_eq_true h4
 show objD os nm 4 (bytesL t t.size) = _
 rw [objD_4, bytes_all, bytesL_len, decide_eq_true h4', byT_bytes, textOf_bs]; rfl
theorem told_obj {n : Nat} {d : Nd} (hd : nodeB n d = true) (hz : 0 < sizeN d) (os : List Ob) (nm : List ByteArray) (ws : List Int) : objD os nm (fieldsK d) (fieldsL d ws) = { d with kids := d.kids.map (fun k => ws.getD k.toNat 0) } := by
 obtain ⟨h1, h2, h3, h4, h5, h6⟩ := node_parts hd
 obtain ⟨k, m, t, ks⟩ := d
 simp only at h1 h2 h3 h4 h5 h6
 have hk : k = 3 /\ fixB (txZ t) = false \/ k = 5 \/ k = 7 \/ k = 8 \/ k = 9 := by
  unfold sizeN at hz
  simp only at hz
  split at hz
  ·omega
  split at hz
  ·rename_i e
   subst e
   left
   refine ⟨rfl, ?_⟩
   cases hf : fixB (txZ t)
   ·rfl
   ·rw [hf] at hz; simp at hz
  split at hz
  ·rename_i e; exact .inr (.inl e)
  split at hz
  ·rename_i e; rcases e with e | e
   ·exact .inr (.inr (.inl e))
   ·exact .inr (.inr (.inr (.inl e)))
  split at hz
  ·rename_i e; exact .inr (.inr (.inr (.inr e)))
  ·omega
 rcases hk with ⟨e, hf⟩ | e | e | e | e <;> subst e
 ·exact obj_big (n := n) h3 h4 h5 hf os nm ws
 ·exact obj_string (n := n) h3 h4 h5 os nm ws
 ·exact obj_pair (n := n) h3 h4 h5 os nm ws
 ·exact obj_vec (n := n) h3 h4 h5 os nm ws
 ·exact obj_bytes (n := n) h3 h4 h5 os nm ws
end Go.Proofs.YtadfihnffboelaaGreatDoor
