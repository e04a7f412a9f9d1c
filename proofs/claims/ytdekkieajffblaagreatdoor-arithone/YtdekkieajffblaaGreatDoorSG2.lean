import Derived.Test.YtdekkieajffblaaGreatDoorV2
import Derived.Test.YtdekkieajffblaaGreatDoorG5
import Derived.Test.YtdekkieajffblaaGreatDoorSG1
set_option linter.unusedVariables false
set_option linter.unusedSimpArgs false
set_option maxRecDepth 100000
namespace Go.Proofs.YtdekkieajffblaaGreatDoor
open Go.RowKit
structure URow (w : World) (ao : Option Addr) (n cap : Nat) (l : List Int) : Prop where
 len : l.length = n
 fits : n <= cap
 most : cap <= maxLen
 nil_ : ao = none -> cap = 0
 bd : ∀ z ∈ l, U64 z
 rd : l = [] \/ ∃ b o, ao = some ⟨b, o, none⟩ /\ b < w.heap.size /\ ∀ i, i < l.length -> w.cell? ⟨b, o + i, none⟩ = some (.int .u64 (l.getD i 0))
theorem URow.some {w : World} {ao : Option Addr} {n cap : Nat} {l : List Int} (h : URow w ao n cap l) (hl : 0 < n) :
  ∃ b o, ao = Option.some ⟨b, o, none⟩ /\ b < w.heap.size /\ ∀ i, i < n -> w.cell? ⟨b, o + i, none⟩ = Option.some (.int .u64 (l.getD i 0)) := by
 rcases h.rd with e | h2
 ·have := h.len; simp [e] at this; omega
 ·rw [h.len] at h2; exact h2
theorem URow.keep {w w' : World} {ao : Option Addr} {n cap : Nat} {l : List Int} (h : URow w ao n cap l) (hs : w.heap.size <= w'.heap.size) (hb : l ≠ [] -> ∀ a, ao = Option.some a -> w'.heap[a.block]? = w.heap[a.block]?) : URow w' ao n cap l := by
 refine ⟨h.len, h.fits, h.most, h.nil_, h.bd, ?_⟩
 rcases h.rd with e | ⟨b, o, e, h1, h2⟩
 ·exact .inl e
 ·exact .inr ⟨b, o, e, Nat.lt_of_lt_of_le h1 hs, fun i hi => (World.cell?_of_block (a := ⟨b, o + i, none⟩) (hb (fun e' => by rw [e'] at hi; simp at hi) ⟨b, o, none⟩ e)).trans (h2 i hi)⟩
theorem URow.on {w w' : World} {ao : Option Addr} {n cap : Nat} {l : List Int} (h : URow w ao n cap l) (hb : Below w.heap.size w w') : URow w' ao n cap l := by
 refine ⟨h.len, h.fits, h.most, h.nil_, h.bd, ?_⟩
 rcases h.rd with e | ⟨b, o, e, h1, h2⟩
 ·exact .inl e
 ·exact .inr ⟨b, o, e, Nat.lt_of_lt_of_le h1 hb.size, fun i hi => (hb.cell (p := ⟨b, o + i, none⟩) h1).trans (h2 i hi)⟩
theorem info_word : (Tryz.prog.info? 32).map (fun i => (i.zero, i.size, i.bytes)) = some (some (.int .u64 0), 1, 8) := by kernel_rfl
section
variable {P : Program} {w : World} {ops : Array Oper} {o : Oper} {a : Act} {K : Act -> World -> Prop} {Q : Exit -> Act -> World -> Prop} {E : Prop}
theorem stepU (dst : Option Nat) (hdst : o.dst = dst) (hgd : o.guard = none) (s x : Operand) (t : TypeId) (ho : o.op = .call { callee := .builtin .append, args := #[s, x], argTypes := #[t, t] })
  (base : Nat) (e : TypeId) (ht : P.underlying t = some (.slice e)) (hi : (P.info? e).map (fun i => (i.zero, i.size, i.bytes)) = some (some (.int .u64 0), 1, 8))
  (v : Value) (n : Nat) (l : List Int) (hs : a.eval s = v) (hown : w.ownsRow base e 1 v n (uz l))
  (ao : Option Addr) (m c : Nat) (r : List Int) (hx : a.eval x = .slice ao m c) (hr : URow w ao m c r) (hsm : n + m <= 1099511627776) (hbase : base <= w.heap.size)
  (h : ∀ v' w', w'.ownsRow base e 1 v' (n + m) (uz (l ++ r)) -> w.grownBy w' v.ownBlock -> K (a.put dst v') w') :
  if Region.wanted o (yielded ops a.tmps) = true then Oper.wp P o a w K Q else E := by
 subst hdst
 have hw : Region.wanted o (yielded ops a.tmps) = true := by simp [Region.wanted, hgd]
 rw [if_pos hw]
 obtain ⟨i0, hi0, hz0, hz1, hz2⟩ : ∃ i0, P.info? e = some i0 /\ i0.zero = some (.int .u64 0) /\ i0.size = 1 /\ i0.bytes = 8 := by
  cases h : P.info? e with
  | none => rw [h] at hi; cases hi
  | some i => rw [h] at hi; simp at hi; exact ⟨i, rfl, hi.1, hi.2.1, hi.2.2⟩
 cases ao with
 | none =>
  have hc := hr.nil_ rfl
  subst hc
  have hm : m = 0 := by have := hr.fits; omega
  subst hm
  have hl2 : r = [] := List.length_eq_zero_iff.1 hr.len
  subst hl2
  have hrun := run_append_owned_none (P := P) (w := w) base t o.type e i0 1 ht hi0 v n (uz l) hown
  unfold Oper.wp
  simp [execOp, ho, resolve, invoke, builtin, hs, hx, hrun, Result.andThen]
  exact h v w (by simpa using hown) ⟨rfl, rfl, rfl, Nat.le_refl _, fun _ _ _ => rfl⟩
 | some ad =>
  refine wp_append_own w s x t ho base e i0 (.int .u64 0) 1 8 ht hi0 hz0 hz1 hz2 rfl (by decide) v n (uz l) hs hown ad m c (uz r) hx (by rw [uz_length, hr.len]; omega) ?_ ?_ (by unfold maxLen; omega) (by omega) hbase ?_
  ·intro j u hj
   have hjl : j < r.length := by
    have := (List.getElem?_eq_some_iff.1 hj).1
    rwa [uz_length] at this
   rw [uz_get hjl] at hj
   cases hj
   obtain ⟨b, o', hao, _, hc⟩ := hr.some (by have := hr.len; omega)
   cases hao
   have := hc j (by have := hr.len; omega)
   unfold Addr.add
   by_cases hj0 : j = 0
   ·subst hj0; simpa using this
   ·rw [if_neg hj0]; exact this
  ·intro u hu
   unfold uz at hu
   obtain ⟨z, _, rfl⟩ := List.mem_map.1 hu
   rfl
  ·intro v' w' h1 h2 _
   rw [<- uz_append] at h1
   exact h v' w' h1 h2
end
theorem uown_on {w w' : World} {base : Nat} {e : TypeId} {k : Nat} {v : Value} {n : Nat} {xs : List Value} (h : w.ownsRow base e k v n xs) (hb : Below w.heap.size w w') : w'.ownsRow base e k v n xs := own_at h (fun b e => hb.block b (h.lt b e).2)
theorem own_weak {w : World} {base B : Nat} {e : TypeId} {k : Nat} {v : Value} {n : Nat} {xs : List Value} (h : w.ownsRow base e k v n xs) (hb : B <= base) : w.ownsRow B e k v n xs := by
 refine ⟨h.1, ?_⟩
 rcases h.2 with h0 | ⟨g, cap, cur, h1, h2, h3⟩
 ·exact .inl h0
 ·exact .inr ⟨g, cap, cur, h1, Nat.le_trans hb h2, h3⟩
def isHd (z : Int) : Bool := decide ((ofR z).1 = 8)
def allocM (os : List Ob) (N kind : Int) (fl : List Int) : Int × Int :=
 if kind < 1 \/ 22 < kind then (0, 70) else if fl.any isHd then (0, 1) else if N - (usedL os : Nat) < 1 + (fl.length : Nat) then (0, 3) else (wordR 2 (usedL os : Nat) 0, 0)
def allocO (os : List Ob) (N kind : Int) (fl : List Int) : List Ob := if (allocM os N kind fl).2 = 0 then os ++ [⟨kind, fl⟩] else os
theorem any_take {fl : List Int} {q : Nat} (h : (fl.take q).any isHd = false) (hq : q < fl.length) (hz : isHd (fl.getD q 0) = false) : (fl.take (q + 1)).any isHd = false := by
 rw [List.take_succ_eq_append_getElem hq, List.any_append, h]
 rw [List.getD_eq_getElem?_getD, List.getElem?_eq_getElem hq] at hz
 simp only [Option.getD_some] at hz
 simp [hz]
theorem appU {P : Program} {w : World} {ops : Array Oper} {rest : List Oper} {o : Oper} {a : Act} {Q : Exit -> Act -> World -> Prop} (hgd : o.guard = none) (s x : Operand) (t : TypeId) (ho : o.op = .call { callee := .builtin .append, args := #[s, x], argTypes := #[t, t] })
  (base : Nat) (e : TypeId) (ht : P.underlying t = some (.slice e)) (hi : (P.info? e).map (fun i => (i.zero, i.size, i.bytes)) = some (some (.int .u64 0), 1, 8))
  (v : Value) (n : Nat) (l : List Int) (hs : a.eval s = v) (hown : w.ownsRow base e 1 v n (uz l))
  (ao : Option Addr) (m c : Nat) (r : List Int) (hx : a.eval x = .slice ao m c) (hr : URow w ao m c r) (hsm : n + m <= 1099511627776) (hbase : base <= w.heap.size)
  (h : ∀ v' w', w'.ownsRow base e 1 v' (n + m) (uz (l ++ r)) -> w.grownBy w' v.ownBlock -> wpList P ops Q rest (a.put o.dst v') w') : wpList P ops Q (o :: rest) a w :=
 wpList_plain hgd fun K hK => by
  have := stepU (P := P) (w := w) (ops := ops) (o := o) (a := a) (K := K) (Q := Q) (E := False) o.dst rfl hgd s x t ho base e ht hi v n l hs hown ao m c r hx hr hsm hbase (fun v' w' h1 h2 => hK _ _ (h v' w' h1 h2))
  have hw : Region.wanted o (yielded ops a.tmps) = true := by simp [Region.wanted, hgd]
  rw [if_pos hw] at this
  exact this
theorem urow_one {w : World} {g : Nat} {z : Int} {t : TypeId} (h : w.heap[g]? = some (.cells #[.int .u64 z] t (0, 0))) (hz : U64 z) : URow w (some ⟨g, 0, none⟩) 1 1 [z] :=
 ⟨rfl, Nat.le_refl _, by unfold maxLen; omega, fun e => (by cases e), fun y hy => by simp at hy; rw [hy]; exact hz, .inr ⟨g, 0, rfl, (Array.getElem?_eq_some_iff.1 h).1, fun i hi => by
  have : i = 0 := by simpa using hi
  subst this
  exact blk_cell h 0⟩⟩
theorem urow_own {w : World} {B : Nat} {e : TypeId} {v : Value} {l : List Int} (h : w.ownsRow B e 1 v l.length (uz l)) (hb : ∀ z ∈ l, U64 z) : ∃ ao cap, v = .slice ao l.length cap /\ URow w ao l.length cap l := by
 rcases h.2 with ⟨rfl, h0⟩ | ⟨g, cap, cur, rfl, h2, h3, h4, h5, h6, h7⟩
 ·have : l = [] := List.length_eq_zero_iff.1 h0
  subst this
  exact ⟨none, 0, rfl, rfl, Nat.le_refl _, by unfold maxLen; omega, fun _ => rfl, hb, .inl rfl⟩
 ·refine ⟨some ⟨g, 0, none⟩, cap, rfl, rfl, h4, h5, fun e => (by cases e), hb, .inr ⟨g, 0, rfl, (Array.getElem?_eq_some_iff.1 h3).1, fun i hi => ?_⟩⟩
  rw [Nat.zero_add, blk_cell h3]
  have : cur[i]? = (uz l)[i]? := by rw [<- h7, List.getElem?_take, if_pos (by omega)]; simp
  rw [this, uz_get hi]
def wordsL : List Ob -> List Int
 | [] => []
 | x :: l => wordR 8 (x.f.length : Nat) x.kind :: (x.f ++ wordsL l)
theorem wordsL_append (a b : List Ob) : wordsL (a ++ b) = wordsL a ++ wordsL b := by
 induction a with
 | nil => rfl
 | cons x l ih => simp only [List.cons_append, wordsL, ih, List.append_assoc]
theorem wordsL_length (a : List Ob) : (wordsL a).length = usedL a := by
 induction a with
 | nil => rfl
 | cons x l ih => simp only [wordsL, usedL, List.length_cons, List.length_append, ih]; omega
structure OsOk (os : List Ob) : Prop where
 kd : ∀ x ∈ os, 1 <= x.kind /\ x.kind <= 22
 uf : ∀ x ∈ os, ∀ z ∈ x.f, U64 z
 nh : ∀ x ∈ os, ∀ z ∈ x.f, isHd z = false
def kindM (os : List Ob) (p : Int) : Int × Int := match findM os p with | none => (0, 70) | some n => ((os.getD n default).kind, 0)
theorem place_word {p : Int} (hp : U64 p) (h : (ofR p).1 = 2) : p = (ofR p).2.1 * 8 + 1 := by
 unfold ofR at h ⊢
 split at h
 ·rename_i hr
  rw [if_pos hr]
  unfold U64 at hp
  unfold ofRaw at h ⊢
  split at h
  ·exact absurd h (by simp)
  rename_i h0
  split at h
  ·rename_i h1
   rw [if_neg h0, if_pos h1]
   show p = p / 8 * 8 + 1
   omega
  ·rename_i h1
   split at h
   ·split at h
    ·exact absurd h (by simp)
    split at h
    ·have h' : p / 8 % 32 - 2 = 2 := h
     omega
    ·exact absurd h (by simp)
   split at h
   ·exact absurd h (by simp)
   ·exact absurd h (by simp)
 ·exact absurd h (by simp)
theorem words_split {os : List Ob} {k : Nat} (h : k < os.length) : wordsL os = wordsL (os.take k) ++ (wordR 8 ((os.getD k default).f.length : Nat) (os.getD k default).kind :: ((os.getD k default).f ++ wordsL (os.drop (k + 1)))) := by
 have h1 : os = os.take k ++ (os.getD k default :: os.drop (k + 1)) := by
  conv => lhs; rw [<- List.take_append_drop k os, List.drop_eq_getElem_cons h]
  rw [List.getD_eq_getElem?_getD, List.getElem?_eq_getElem h]; rfl
 conv => lhs; rw [h1, wordsL_append]
 rfl
theorem at_len (os : List Ob) (k : Nat) : (wordsL (os.take k)).length = atO os k := by rw [wordsL_length]; rfl
theorem word_head {os : List Ob} {k : Nat} (h : k < os.length) : (wordsL os).getD (atO os k) 0 = wordR 8 ((os.getD k default).f.length : Nat) (os.getD k default).kind := by
 rw [words_split h, List.getD_eq_getElem?_getD, List.getElem?_append_right (by rw [at_len]; exact Nat.le_refl _), at_len, Nat.sub_self]; rfl
theorem word_field {os : List Ob} {k j : Nat} (h : k < os.length) (hj : j < (os.getD k default).f.length) : (wordsL os).getD (atO os k + 1 + j) 0 = (os.getD k default).f.getD j 0 := by
 rw [words_split h, List.getD_eq_getElem?_getD, List.getElem?_append_right (by rw [at_len]; omega), at_len, show atO os k + 1 + j - atO os k = j + 1 by omega, List.getElem?_cons_succ, List.getElem?_append_left hj, <- List.getD_eq_getElem?_getD]
theorem at_succ {os : List Ob} {k : Nat} (h : k < os.length) : atO os (k + 1) = atO os k + 1 + (os.getD k default).f.length := by
 unfold atO
 rw [List.take_succ_eq_append_getElem h, usedL_append, List.getD_eq_getElem?_getD, List.getElem?_eq_getElem h]
 simp only [usedL, Option.getD_some]; omega
theorem at_all (os : List Ob) : atO os os.length = usedL os := by unfold atO; rw [List.take_length]
theorem at_mono {os : List Ob} {j k : Nat} (h : j <= k) (hk : k <= os.length) : atO os j + (k - j) <= atO os k := by
 induction k with
 | zero => obtain rfl : j = 0 := by omega
           simp
 | succ k ih =>
  by_cases e : j = k + 1
  ·subst e; simp
  ·have := ih (by omega) (by omega)
   rw [at_succ (by omega)]; omega
theorem at_inj {os : List Ob} {j k : Nat} (hj : j < os.length) (hk : k < os.length) (h : atO os j = atO os k) : j = k := by
 rcases Nat.lt_trichotomy j k with h1 | h1 | h1
 ·have := at_mono (os := os) (Nat.le_of_lt h1) (Nat.le_of_lt hk); omega
 ·exact h1
 ·have := at_mono (os := os) (Nat.le_of_lt h1) (Nat.le_of_lt hj); omega
theorem at_lt {os : List Ob} {k : Nat} (h : k < os.length) : atO os k + 1 + (os.getD k default).f.length <= usedL os := by
 rw [<- at_succ h, <- at_all]
 have := at_mono (os := os) (j := k + 1) (k := os.length) h (Nat.le_refl _)
 omega
theorem place_of {os : List Ob} {i : Nat} (h : i < usedL os) : ∃ k, k < os.length /\ (i = atO os k \/ ∃ j, j < (os.getD k default).f.length /\ i = atO os k + 1 + j) := by
 have key : ∀ n, n <= os.length -> i < atO os n -> ∃ k, k < n /\ atO os k <= i /\ i < atO os (k + 1) := fun n => by
  induction n with
  | zero => intro _ h; simp [atO, usedL] at h
  | succ n ih =>
   intro hn hi
   by_cases e : i < atO os n
   ·obtain ⟨k, a, b⟩ := ih (by omega) e; exact ⟨k, by omega, b⟩
   ·exact ⟨n, by omega, by omega, hi⟩
 obtain ⟨k, h1, h2, h3⟩ := key os.length (Nat.le_refl _) (by rw [at_all]; exact h)
 rw [at_succ h1] at h3
 refine ⟨k, h1, ?_⟩
 by_cases e : i = atO os k
 ·exact .inl e
 ·exact .inr ⟨i - atO os k - 1, by omega, by omega⟩
theorem fnd_at {os : List Ob} {k : Nat} (h : k < os.length) {i : Nat} (hi : i <= k) : fnd os (atO os k : Nat) i = some k := by
 induction hk : k - i generalizing i with
 | zero =>
  obtain rfl : i = k := by omega
  rw [fnd, if_pos h, if_pos rfl]
 | succ n ih =>
  rw [fnd, if_pos (by omega), if_neg (fun e => by have := at_inj (os := os) (j := i) (k := k) (by omega) h (by omega); omega), ih (by omega) (by omega)]
theorem ptr_of {n : Nat} (h : n <= 1099511627776) : ofR (wordR 2 (n : Int) 0) = (2, (n : Int), 0) := by
 have := word_back (k := 2) (n := n) (t := 0) (by unfold rightB; simp; omega)
 simpa using this
theorem find_ptr {os : List Ob} {k : Nat} (h : k < os.length) (hu : usedL os <= 1099511627776) : findM os (wordR 2 (atO os k : Nat) 0) = some k := by
 have hl := at_lt h
 unfold findM
 rw [ptr_of (by omega)]
 simp only [if_true]
 exact fnd_at h (Nat.zero_le _)
theorem head_of {x : Ob} (hk : 1 <= x.kind /\ x.kind <= 22) (hl : x.f.length <= 1099511627776) : ofR (wordR 8 (x.f.length : Nat) x.kind) = (8, ((x.f.length : Nat) : Int), x.kind) := by
 have := word_back (k := 8) (n := (x.f.length : Nat)) (t := x.kind) (by unfold rightB; simp; omega)
 simpa using this
theorem getD_in_os {l : List Ob} {i : Nat} (h : i < l.length) : l.getD i default ∈ l := by
 rw [List.getD_eq_getElem?_getD, List.getElem?_eq_getElem h]; exact List.getElem_mem h
theorem getD_in_f {l : List Int} {i : Nat} (h : i < l.length) : l.getD i 0 ∈ l := by
 rw [List.getD_eq_getElem?_getD, List.getElem?_eq_getElem h]; exact List.getElem_mem h
theorem head_iff {os : List Ob} (ho : OsOk os) (hu : usedL os <= 1099511627776) {i : Nat} (h : i < usedL os) : (ofR ((wordsL os).getD i 0)).1 = 8 ↔ ∃ k, k < os.length /\ i = atO os k := by
 constructor
 ·intro e
  obtain ⟨k, hk, h1 | ⟨j, hj, h1⟩⟩ := place_of h
  ·exact ⟨k, hk, h1⟩
  ·rw [h1, word_field hk hj] at e
   have := ho.nh _ (getD_in_os hk) _ (getD_in_f hj)
   unfold isHd at this
   simp only [decide_eq_false_iff_not] at this
   exact absurd e this
 ·rintro ⟨k, hk, rfl⟩
  have hl := at_lt hk
  rw [word_head hk, head_of (ho.kd _ (getD_in_os hk)) (by omega)]
def textOf (l : List Nat) : ByteArray := ⟨(l.map UInt8.ofNat).toArray⟩
theorem bs_textOf {l : List Nat} (h : ∀ x ∈ l, x < 256) : bs (textOf l) = l := by
 unfold bs textOf
 rw [List.toList_toArray, List.map_map]
 conv => rhs; rw [<- List.map_id l]
 refine List.map_congr_left (fun x hx => ?_)
 show (UInt8.ofNat x).toNat = x
 rw [UInt8.toNat_ofNat']
 exact Nat.mod_eq_of_lt (h x hx)
theorem bs_byte (s : ByteArray) : ∀ x ∈ bs s, x < 256 := fun x hx => by
 unfold bs at hx
 obtain ⟨u, _, rfl⟩ := List.mem_map.1 hx
 exact UInt8.toNat_lt u
theorem textOf_bs (s : ByteArray) : textOf (bs s) = s := by
 unfold bs textOf
 rw [List.map_map]
 have : (UInt8.ofNat ∘ UInt8.toNat) = id := by funext u; simp
 rw [this, List.map_id]
def symT (nm : List ByteArray) (x : Int) : ByteArray := nm.getD (nN x).toNat ByteArray.empty
def symB (nm : List ByteArray) (x : Int) : Bool := decide (nK x = 5) && (decide (nN x < nm.length) && textB 6 (symT nm x))
def namB (nm : List ByteArray) (x : Int) : Bool := decide (nK x = 5) && (decide (nN x < nm.length) && textB 15 (symT nm x))
def plainD (nm : List ByteArray) (x : Int) : Nd :=
 if nK x = 1 then ⟨3, 0, textOf (printL (decide (nN x < 0)) (nN x).natAbs), []⟩
 else if nK x = 3 then (if nN x = 0 then ⟨1, 0, ByteArray.empty, []⟩ else if nN x = 1 \/ nN x = 2 then ⟨2, nN x - 1, ByteArray.empty, []⟩ else if nN x = 3 then ⟨10, 0, ByteArray.empty, []⟩ else voidN)
 else if nK x = 4 then ⟨4, nN x, ByteArray.empty, []⟩
 else if symB nm x = true then ⟨6, 0, symT nm x, []⟩
 else if nK x = 6 then ⟨12, 0, ByteArray.empty, []⟩ else voidN
def recB (os : List Ob) (nm : List ByteArray) (x : Int) : Bool := match findM os x with
 | some k => decide ((os.getD k default).kind = 13) && (decide (0 < (os.getD k default).f.length) && namB nm ((os.getD k default).f.getD 0 0))
 | none => false
def recT (os : List Ob) (nm : List ByteArray) (x : Int) : ByteArray := match findM os x with
 | some k => symT nm ((os.getD k default).f.getD 0 0)
 | none => ByteArray.empty
def recordT : ByteArray := textOf [114, 101, 99, 111, 114, 100, 45, 116, 121, 112, 101]
def tableT : ByteArray := textOf [116, 97, 98, 108, 101]
def condB (f : List Int) : Bool := decide (f.length = 3) && (decide (nK (f.getD 0 0) = 1) && (decide (0 <= nN (f.getD 0 0)) && decide (nN (f.getD 0 0) <= 2)))
def objD (os : List Ob) (nm : List ByteArray) (kd : Int) (f : List Int) : Nd :=
 if kd = 1 then (if f.length = 2 then ⟨7, 0, ByteArray.empty, f⟩ else voidN)
 else if kd = 2 then (if f.length <= 1024 then ⟨8, 0, ByteArray.empty, f⟩ else voidN)
 else if kd = 3 then (if (f.all lrB && decide (f.length <= 1024)) = true then ⟨5, 0, textOf (lrT f), []⟩ else voidN)
 else if kd = 4 then (if (f.all byB && decide (f.length <= 1024)) = true then ⟨9, 0, textOf (byT f), []⟩ else voidN)
 else if kd = 5 then (if bigB f = true then ⟨3, 0, textOf (printL (numNeg f) (val B32 (numMag f))), []⟩ else voidN)
 else if kd = 12 then (if condB f = true then ⟨13, nN (f.getD 0 0), ByteArray.empty, f.drop 1⟩ else voidN)
 else if kd = 14 then (if (decide (0 < f.length) && recB os nm (f.getD 0 0)) = true then ⟨15, 0, recT os nm (f.getD 0 0), f.drop 1⟩ else voidN)
 else if kd = 11 then ⟨14, 0, ByteArray.empty, []⟩
 else if kd = 19 then ⟨17, 0, ByteArray.empty, []⟩
 else if kd = 18 then ⟨16, 0, ByteArray.empty, f⟩
 else if kd = 13 then ⟨15, 0, recordT, []⟩
 else if kd = 22 then ⟨15, 0, tableT, []⟩
 else if kd = 6 \/ kd = 17 \/ kd = 16 \/ kd = 15 then ⟨12, 0, ByteArray.empty, []⟩
 else voidN
def wordD (os : List Ob) (nm : List ByteArray) (x : Int) : Nd := match findM os x with
 | some k => objD os nm (os.getD k default).kind (os.getD k default).f
 | none => plainD nm x
theorem find_place {os : List Ob} {x : Int} {k : Nat} (h : findM os x = some k) : nK x = 2 := by
 unfold findM at h
 split at h
 ·assumption
 ·cases h
section
variable {os : List Ob} {l : List Bool} {nm : List ByteArray}
section
variable {os : List Ob} {nm : List ByteArray} {f : List Int}
theorem objD_1 : objD os nm 1 f = if f.length = 2 then ⟨7, 0, ByteArray.empty, f⟩ else voidN := rfl
theorem objD_2 : objD os nm 2 f = if f.length <= 1024 then ⟨8, 0, ByteArray.empty, f⟩ else voidN := rfl
theorem objD_3 : objD os nm 3 f = if (f.all lrB && decide (f.length <= 1024)) = true then ⟨5, 0, textOf (lrT f), []⟩ else voidN := rfl
theorem objD_4 : objD os nm 4 f = if (f.all byB && decide (f.length <= 1024)) = true then ⟨9, 0, textOf (byT f), []⟩ else voidN := rfl
theorem objD_5 : objD os nm 5 f = if bigB f = true then ⟨3, 0, textOf (printL (numNeg f) (val B32 (numMag f))), []⟩ else voidN := rfl
theorem objD_12 : objD os nm 12 f = if condB f = true then ⟨13, nN (f.getD 0 0), ByteArray.empty, f.drop 1⟩ else voidN := rfl
theorem objD_14 : objD os nm 14 f = if (decide (0 < f.length) && recB os nm (f.getD 0 0)) = true then ⟨15, 0, recT os nm (f.getD 0 0), f.drop 1⟩ else voidN := rfl
theorem objD_o {kd : Int} (k1 : kd ≠ 1) (k2 : kd ≠ 2) (k3 : kd ≠ 3) (k4 : kd ≠ 4) (k5 : kd ≠ 5) (k12 : kd ≠ 12) (k14 : kd ≠ 14) : objD os nm kd f =
  if kd = 11 then ⟨14, 0, ByteArray.empty, []⟩ else if kd = 19 then ⟨17, 0, ByteArray.empty, []⟩ else if kd = 18 then ⟨16, 0, ByteArray.empty, f⟩ else if kd = 13 then ⟨15, 0, recordT, []⟩ else if kd = 22 then ⟨15, 0, tableT, []⟩
  else if kd = 6 \/ kd = 17 \/ kd = 16 \/ kd = 15 then ⟨12, 0, ByteArray.empty, []⟩ else voidN := by
 unfold objD
 rw [if_neg k1, if_neg k2, if_neg k3, if_neg k4, if_neg k5, if_neg k12, if_neg k14]
end
end
end Go.Proofs.YtdekkieajffblaaGreatDoor
