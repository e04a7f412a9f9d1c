import Derived.Test.YticimejfjjmikaaGreatDoorV4
import Derived.Test.YticimejfjjmikaaGreatDoorW40
import Derived.Test.YticimejfjjmikaaGreatDoorSG1
set_option linter.unusedVariables false
set_option linter.unusedSimpArgs false
set_option maxRecDepth 100000
namespace Go.Proofs.YticimejfjjmikaaGreatDoor
open Go.RowKit
set_option maxHeartbeats 4000000 in
theorem rnew_any (n : Int) (hn : Z64 n) (w : World) :
  Calls Tryz.prog 30 #[.int .i64 n] w fun e w' => if n < 1 \/ 4194304 < n then e = .returned (.tuple #[.pointer none, .int .i64 1]) /\ w' = w else ∃ g, e = .returned (.tuple #[.pointer (some ⟨g, 0, none⟩), .int .i64 0]) /\ w.heap.size <= g /\ RH w.heap.size g n (.slice none 0 0) [] w' /\ Below w.heap.size w w' := by
 unfold Z64 at hn
 by_cases hb : n < 1 \/ 4194304 < n
 ·simp only [if_pos hb]
  go_enter Tryz.func30, Tryz.ntmps30
  go_wp2
  all_goals first
   | omega
   | (go_ret2; exact ⟨rfl, rfl⟩)
 ·simp only [if_neg hb]
  have HE : Hid (RH w.heap.size w.heap.size n (.slice none 0 0) [] (w.alloc (.cells #[.int .i64 n, .slice none 0 0] 101))) :=
   ⟨blk_new _ _ _, World.ownsRow_nil _ _ _ _, fun x hx => (by cases hx), List.Pairwise.nil, fun x hx => (by cases hx), (by intro e; cases e), Nat.le_refl _, fun x hx => (by cases hx), fun x hx => (by cases hx), ⟨by simp [usedL]; omega, by omega⟩⟩
  go_enter Tryz.func30, Tryz.ntmps30
  go_wp2
  all_goals first
   | omega
   | (go_ret2; exact ⟨_, rfl, Nat.le_refl _, HE.out, Ba _ _⟩)
theorem appU {P : Program} {w : World} {ops : Array Oper} {rest : List Oper} {o : Oper} {a : Act} {Q : Exit -> Act -> World -> Prop} (hgd : o.guard = none) (s x : Operand) (t : TypeId) (ho : o.op = .call { callee := .builtin .append, args := #[s, x], argTypes := #[t, t] })
  (base : Nat) (e : TypeId) (ht : P.underlying t = some (.slice e)) (hi : (P.info? e).map (fun i => (i.zero, i.size, i.bytes)) = some (some (.int .u64 0), 1, 8))
  (v : Value) (n : Nat) (l : List Int) (hs : a.eval s = v) (hown : w.ownsRow base e 1 v n (uz l))
  (ao : Option Addr) (m c : Nat) (r : List Int) (hx : a.eval x = .slice ao m c) (hr : URow w ao m c r) (hsm : n + m <= 1099511627776) (hbase : base <= w.heap.size)
  (h : ∀ v' w', w'.ownsRow base e 1 v' (n + m) (uz (l ++ r)) -> w.grownBy w' v.ownBlock -> wpList P ops Q rest (a.put o.dst v') w') : wpList P ops Q (o :: rest) a w :=
 wpList_plain hgd fun K hK => by
  have := stepU (P := P) (w := w) (ops := ops) (o := o) (a := a) (K := K) (Q := Q) (E := False) o.dst rfl hgd s x t ho base e ht hi v n l hs hown ao m c r hx hr hsm hbase (fun v' w' h1 h2 => hK _ _ (h v' w' h1 h2))
  have hw : Region.wanted o (yielded ops a.tmps) = true := by simp [Region.wanted, hgd]
  rw [if_pos hw] at this
  exact this
theorem urow_one {w : World} {g : Nat} {z : Int} {t : TypeId} (h : w.heap[g]? = some (.cells #[.int .u64 z] t (0, 0))) (hz : U64 z) : URow w (some ⟨g, 0, none⟩) 1 1 [z] :=
 ⟨rfl, Nat.le_refl _, by unfold maxLen; omega, fun e => (by cases e), fun y hy => by simp at hy; rw [hy]; exact hz, .inr ⟨g, 0, rfl, (Array.getElem?_eq_some_iff.1 h).1, fun i hi => by
  have : i = 0 := by simpa using hi
  subst this
  exact blk_cell h 0⟩⟩
theorem urow_own {w : World} {B : Nat} {e : TypeId} {v : Value} {l : List Int} (h : w.ownsRow B e 1 v l.length (uz l)) (hb : ∀ z ∈ l, U64 z) : ∃ ao cap, v = .slice ao l.length cap /\ URow w ao l.length cap l := by
 rcases h.2 with ⟨rfl, h0⟩ | ⟨g, cap, cur, rfl, h2, h3, h4, h5, h6, h7⟩
 ·have : l = [] := List.length_eq_zero_iff.1 h0
  subst this
  exact ⟨none, 0, rfl, rfl, Nat.le_refl _, by unfold maxLen; omega, fun _ => rfl, hb, .inl rfl⟩
 ·refine ⟨some ⟨g, 0, none⟩, cap, rfl, rfl, h4, h5, fun e => (by cases e), hb, .inr ⟨g, 0, rfl, (Array.getElem?_eq_some_iff.1 h3).1, fun i hi => ?_⟩⟩
  rw [Nat.zero_add, blk_cell h3]
  have : cur[i]? = (uz l)[i]? := by rw [<- h7, List.getElem?_take, if_pos (by omega)]; simp
  rw [this, uz_get hi]
def fillM (os : List Ob) (N kind n z : Int) : Int × Int :=
 if kind < 1 \/ 22 < kind then (0, 70) else if n < 0 \/ 4194304 < n \/ isHd z = true then (0, 1) else allocM os N kind (List.replicate n.toNat z)
def fillO (os : List Ob) (N kind n z : Int) : List Ob := if (fillM os N kind n z).2 = 0 then os ++ [⟨kind, List.replicate n.toNat z⟩] else os
set_option maxHeartbeats 16000000 in
theorem rfill_any {B g : Nat} {N : Int} {vL : Value} {ls : List (Ob × Sl)} (kind n z : Int) (hk : Z64 kind) (hn : Z64 n) (hz : U64 z) (w : World) (h : RH B g N vL ls w) (hB : B <= w.heap.size) :
  Calls Tryz.prog 35 #[.pointer (some ⟨g, 0, none⟩), .int .i64 kind, .int .i64 n, .int .u64 z] w fun e w' =>
   e = .returned (.tuple #[.int .u64 (fillM (ls.map Prod.fst) N kind n z).1, .int .i64 (fillM (ls.map Prod.fst) N kind n z).2]) /\ RPost B g N vL ls w (fillO (ls.map Prod.fst) N kind n z) w' := by
 have H := hid h
 have hrm := h.room
 have C1 := hid (ishead_any z hz)
 have HK := hid hk
 unfold Z64 at hk hn
 clear h
 by_cases hk1 : kind < 1 \/ 22 < kind
 ·have ha : fillM (ls.map Prod.fst) N kind n z = (0, 70) := by unfold fillM; rw [if_pos hk1]
  have hao : fillO (ls.map Prod.fst) N kind n z = ls.map Prod.fst := by unfold fillO; rw [ha]; rfl
  rw [ha, hao]
  have HE := hid (RPost.same H.out (Below.refl _ _))
  clear ha hao
  go_enter Tryz.func35, Tryz.ntmps35
  go_wp2_with fail
  all_goals first
   | omega
   | (go_ret2; exact ⟨rfl, HE.out⟩)
 have hk2 : 1 <= kind /\ kind <= 22 := by omega
 by_cases hn1 : n < 0 \/ 4194304 < n
 ·have ha : fillM (ls.map Prod.fst) N kind n z = (0, 1) := by unfold fillM; rw [if_neg hk1, if_pos (by rcases hn1 with h | h; exact .inl h; exact .inr (.inl h))]
  have hao : fillO (ls.map Prod.fst) N kind n z = ls.map Prod.fst := by unfold fillO; rw [ha]; rfl
  rw [ha, hao]
  have HE := hid (RPost.same H.out (Below.refl _ _))
  clear ha hao
  go_enter Tryz.func35, Tryz.ntmps35
  go_wp2_with fail
  all_goals first
   | omega
   | (go_ret2; exact ⟨rfl, HE.out⟩)
 have hn2 : 0 <= n /\ n <= 4194304 := by omega
 by_cases h8 : (ofR z).1 = 8
 ·have ha : fillM (ls.map Prod.fst) N kind n z = (0, 1) := by unfold fillM; rw [if_neg hk1, if_pos (.inr (.inr (decide_eq_true h8)))]
  have hao : fillO (ls.map Prod.fst) N kind n z = ls.map Prod.fst := by unfold fillO; rw [ha]; rfl
  rw [ha, hao]
  rw [decide_eq_true h8] at C1
  clear ha hao
  go_enter Tryz.func35, Tryz.ntmps35
  go_wp2_with (go_at_call 68; with_reducible refine (C1.out _).mono ?_; rintro e wb ⟨rfl, bb⟩)
  go_ret2
  exact ⟨rfl, RPost.same H.out bb⟩
 rw [decide_eq_false h8] at C1
 obtain ⟨m, rfl⟩ : ∃ m : Nat, n = (m : Int) := ⟨n.toNat, by omega⟩
 have hfm : fillM (ls.map Prod.fst) N kind (m : Int) z = allocM (ls.map Prod.fst) N kind (List.replicate m z) := by
  unfold fillM
  rw [if_neg hk1, if_neg (by rintro (h | h | h); omega; omega; exact h8 (of_decide_eq_true h)), Int.toNat_natCast]
 have hfo : fillO (ls.map Prod.fst) N kind (m : Int) z = allocO (ls.map Prod.fst) N kind (List.replicate m z) := by
  unfold fillO allocO
  rw [hfm, Int.toNat_natCast]
 rw [hfm, hfo]
 clear hfm hfo
 obtain ⟨U, hU⟩ : ∃ u, u = usedL (ls.map Prod.fst) := ⟨_, rfl⟩
 have C2 : Hid (∀ wx, Below w.heap.size w wx -> Calls Tryz.prog 69 #[.pointer (some ⟨g, 0, none⟩)] wx fun e w' => e = .returned (.int .i64 (N - (U : Nat))) /\ Below wx.heap.size wx w') := fun wx b => by rw [hU]; exact rroom_any wx (H.out.on b)
 have HU := hid hU
 rw [<- hU] at hrm
 clear hU
 by_cases hfull : N - (U : Nat) < 1 + (m : Nat)
 ·have hany : (List.replicate m z).any isHd = false := by
   rw [List.any_replicate]
   split
   ·rfl
   ·exact decide_eq_false h8
  have ha : allocM (ls.map Prod.fst) N kind (List.replicate m z) = (0, 3) := by unfold allocM; rw [if_neg hk1, hany, if_neg (by simp), if_pos (by rw [<- HU.out, List.length_replicate]; exact hfull)]
  have hao : allocO (ls.map Prod.fst) N kind (List.replicate m z) = ls.map Prod.fst := by unfold allocO; rw [ha]; rfl
  rw [ha, hao]
  clear ha hao hany
  go_enter Tryz.func35, Tryz.ntmps35
  go_wp2_with (first
   | (go_at_call 68; with_reducible refine (C1.out _).mono ?_; rintro e wb ⟨rfl, bb⟩)
   | (go_at_call 69; with_reducible refine (C2.out _ bb).mono ?_; rintro e wc ⟨rfl, bc⟩))
  go_ret2
  exact ⟨rfl, RPost.same H.out (Bt bb bc)⟩
 go_enter Tryz.func35, Tryz.ntmps35
 go_wp2_with (first
  | (go_at_call 68; with_reducible refine (C1.out _).mono ?_; rintro e wb ⟨rfl, bb⟩)
  | (go_at_call 69; with_reducible refine (C2.out _ bb).mono ?_; rintro e wc ⟨rfl, bc⟩; have HBC := hid (Bt bb bc); clear bc bb))
 go_loopw [10, 11] (fun v i wr => ∃ q : Nat, q <= m /\ i = .int .i64 q /\ Hid (wr.ownsRow wc.heap.size 44 1 v q (uz (List.replicate q z)) /\ Below wc.heap.size wc wr)) (fun _ i _ => m - (intOf i).toNat)
 case atStart => exact ⟨0, Nat.zero_le _, rfl, by simpa [uz] using World.ownsRow_nil _ _ _ _, Below.refl _ _⟩
 case round =>
  obtain ⟨q, hq, rfl, hI⟩ := hrel
  by_cases hlt : q < m
  ·have HOA := hid (uown_on hI.out.1 (Ba wr (.cells #[.int .u64 z] 44)))
   have HUR := hid (urow_one (blk_new wr #[.int .u64 z] 44) hz)
   have HS : Hid (wc.heap.size <= (wr.alloc (.cells #[.int .u64 z] 44)).heap.size) := Nat.le_trans hI.out.2.size (Ba wr _).size
   go_wp2_with (at_builtin; refine appU rfl _ _ 23 rfl wc.heap.size 44 Tryz.underlying23 info_word _ q (List.replicate q z) rfl HOA.out (some ⟨wr.heap.size, 0, none⟩) 1 1 [z] rfl HUR.out (by omega) HS.out ?_; intro v' w' ho hg)
   have e1 : List.replicate q z ++ [z] = List.replicate (q + 1) z := by rw [List.replicate_succ']
   rw [e1] at ho
   exact ⟨⟨q + 1, by omega, by go_num, ho, (hI.out.2.trans ((Ba wr _).mono hI.out.2.size)).grown hg (Nat.le_trans hI.out.2.size (Ba wr _).size) (fun k hk => (HOA.out.lt k hk).1)⟩, by simp [intOf] <;> omega⟩
  ·obtain rfl : q = m := by omega
   have hrow := hI.out.1
   have hrow' : wr.ownsRow wc.heap.size 44 1 u10 (List.replicate q z).length (uz (List.replicate q z)) := by rw [List.length_replicate]; exact hrow
   obtain ⟨aF, cF, hv, hUR⟩ := urow_own hrow' (fun y hy => by rw [List.eq_of_mem_replicate hy]; exact hz)
   rw [List.length_replicate] at hv hUR
   obtain rfl := hv
   have HBR := hid (Bt HBC.out hI.out.2)
   have C3 := hid (ralloc_any kind HK.out aF q cF (List.replicate q z) wr (H.out.on HBR.out) hUR (Nat.le_trans hB HBR.out.size) (by omega))
   clear hrow hrow' hUR hI
   go_wp2_with (go_at_call 70; with_reducible refine C3.out.mono ?_; rintro e wd ⟨rfl, hp⟩)
   go_ret2
   refine ⟨rfl, ?_⟩
   obtain ⟨vL', ls', p1, p2, p3, p4⟩ := hp
   refine ⟨vL', ls', p1, p2, fun b hb => ?_, (Mod.of_below _ HBR.out).trans p4 (fun _ _ e => e)⟩
   rcases p3 b hb with h' | h'
   ·exact .inl h'
   ·right; have := HBR.out.size; omega
def wordsL : List Ob -> List Int
 | [] => []
 | x :: l => wordR 8 (x.f.length : Nat) x.kind :: (x.f ++ wordsL l)
theorem wordsL_append (a b : List Ob) : wordsL (a ++ b) = wordsL a ++ wordsL b := by
 induction a with
 | nil => rfl
 | cons x l ih => simp only [List.cons_append, wordsL, ih, List.append_assoc]
theorem wordsL_length (a : List Ob) : (wordsL a).length = usedL a := by
 induction a with
 | nil => rfl
 | cons x l ih => simp only [wordsL, usedL, List.length_cons, List.length_append, ih]; omega
def roundI (at_ : Int) (n : Nat) : Nat := (Int.tmod (Int.tmod at_ n + n) n).toNat
theorem round_at {n : Nat} (hn : 0 < n) (b : Int) : roundI b n < n /\ Int.tmod (Int.tmod b n + n) n = (roundI b n : Int) := by
 have h1 : (Int.tmod b n).natAbs < n := by
  rw [Int.natAbs_tmod]; exact Nat.mod_lt _ (by omega)
 have h2 : 0 <= Int.tmod b n + n := by omega
 have h3 : Int.tmod (Int.tmod b n + n) n = (Int.tmod b n + n) % n := Int.tmod_eq_emod_of_nonneg h2
 have h4 := Int.emod_nonneg (Int.tmod b n + n) (by omega : (n : Int) ≠ 0)
 have h5 := Int.emod_lt_of_pos (Int.tmod b n + n) (by omega : (0 : Int) < n)
 unfold roundI
 constructor <;> omega
structure OsOk (os : List Ob) : Prop where
 kd : ∀ x ∈ os, 1 <= x.kind /\ x.kind <= 22
 uf : ∀ x ∈ os, ∀ z ∈ x.f, U64 z
 nh : ∀ x ∈ os, ∀ z ∈ x.f, isHd z = false
def kindM (os : List Ob) (p : Int) : Int × Int := match findM os p with | none => (0, 70) | some n => ((os.getD n default).kind, 0)
def sizeM (os : List Ob) (p : Int) : Int × Int := match findM os p with | none => (0, 70) | some n => ((os.getD n default).f.length, 0)
def sh (x : Ob) : Int × Nat := (x.kind, x.f.length)
theorem sh_used : ∀ {a b : List Ob}, a.map sh = b.map sh -> usedL a = usedL b
 | [], [], _ => rfl
 | [], _ :: _, h => by cases h
 | _ :: _, [], h => by cases h
 | x :: a, y :: b, h => by
  simp only [List.map_cons, List.cons.injEq] at h
  have h1 : x.f.length = y.f.length := congrArg Prod.snd h.1
  simp only [usedL, sh_used h.2, h1]
theorem sh_len {a b : List Ob} (h : a.map sh = b.map sh) : a.length = b.length := by
 have := congrArg List.length h; simpa using this
theorem sh_at {a b : List Ob} (h : a.map sh = b.map sh) (i : Nat) : atO a i = atO b i := by
 unfold atO; exact sh_used (by rw [List.map_take, List.map_take, h])
theorem sh_fnd {a b : List Ob} (h : a.map sh = b.map sh) (n : Int) (i : Nat) : fnd a n i = fnd b n i := by
 induction hk : a.length - i generalizing i with
 | zero =>
  have := sh_len h
  have e1 : fnd a n i = none := by rw [fnd, if_neg (by omega)]
  have e2 : fnd b n i = none := by rw [fnd, if_neg (by omega)]
  rw [e1, e2]
 | succ k ih =>
  have := sh_len h
  have e1 : fnd a n i = if (atO a i : Int) = n then some i else fnd a n (i + 1) := by rw [fnd, if_pos (by omega)]
  have e2 : fnd b n i = if (atO b i : Int) = n then some i else fnd b n (i + 1) := by rw [fnd, if_pos (by omega)]
  rw [e1, e2, sh_at h, ih (i + 1) (by omega)]
theorem sh_find {a b : List Ob} (h : a.map sh = b.map sh) (p : Int) : findM a p = findM b p := by
 unfold findM; rw [sh_fnd h]
theorem sh_set {l : List Ob} {n : Nat} {j : Nat} {z : Int} : (l.set n (setF (l.getD n default) j z)).map sh = l.map sh := by
 apply List.ext_getElem?
 intro i
 rw [List.getElem?_map, List.getElem?_map, List.getElem?_set]
 split
 ·rename_i e; subst e
  split
  ·rename_i hn
   rw [List.getElem?_eq_getElem hn, List.getD_eq_getElem?_getD, List.getElem?_eq_getElem hn]
   simp [sh, setF]
  ·rename_i hn
   rw [List.getElem?_eq_none (by omega)]
 ·rfl
theorem sh_setM (os : List Ob) (p kind i z : Int) : (setM os p kind i z).1.map sh = os.map sh := by
 unfold setM
 split
 ·rfl
 split
 ·rfl
 ·exact sh_set
theorem place_word {p : Int} (hp : U64 p) (h : (ofR p).1 = 2) : p = (ofR p).2.1 * 8 + 1 := by
 unfold ofR at h ⊢
 split at h
 ·rename_i hr
  rw [if_pos hr]
  unfold U64 at hp
  unfold ofRaw at h ⊢
  split at h
  ·exact absurd h (by simp)
  rename_i h0
  split at h
  ·rename_i h1
   rw [if_neg h0, if_pos h1]
   show p = p / 8 * 8 + 1
   omega
  ·rename_i h1
   split at h
   ·split at h
    ·exact absurd h (by simp)
    split at h
    ·have h' : p / 8 % 32 - 2 = 2 := h
     omega
    ·exact absurd h (by simp)
   split at h
   ·exact absurd h (by simp)
   ·exact absurd h (by simp)
 ·exact absurd h (by simp)
theorem words_split {os : List Ob} {k : Nat} (h : k < os.length) : wordsL os = wordsL (os.take k) ++ (wordR 8 ((os.getD k default).f.length : Nat) (os.getD k default).kind :: ((os.getD k default).f ++ wordsL (os.drop (k + 1)))) := by
 have h1 : os = os.take k ++ (os.getD k default :: os.drop (k + 1)) := by
  conv => lhs; rw [<- List.take_append_drop k os, List.drop_eq_getElem_cons h]
  rw [List.getD_eq_getElem?_getD, List.getElem?_eq_getElem h]; rfl
 conv => lhs; rw [h1, wordsL_append]
 rfl
theorem at_len (os : List Ob) (k : Nat) : (wordsL (os.take k)).length = atO os k := by rw [wordsL_length]; rfl
theorem word_head {os : List Ob} {k : Nat} (h : k < os.length) : (wordsL os).getD (atO os k) 0 = wordR 8 ((os.getD k default).f.length : Nat) (os.getD k default).kind := by
 rw [words_split h, List.getD_eq_getElem?_getD, List.getElem?_append_right (by rw [at_len]; exact Nat.le_refl _), at_len, Nat.sub_self]; rfl
theorem word_field {os : List Ob} {k j : Nat} (h : k < os.length) (hj : j < (os.getD k default).f.length) : (wordsL os).getD (atO os k + 1 + j) 0 = (os.getD k default).f.getD j 0 := by
 rw [words_split h, List.getD_eq_getElem?_getD, List.getElem?_append_right (by rw [at_len]; omega), at_len, show atO os k + 1 + j - atO os k = j + 1 by omega, List.getElem?_cons_succ, List.getElem?_append_left hj, <- List.getD_eq_getElem?_getD]
theorem at_succ {os : List Ob} {k : Nat} (h : k < os.length) : atO os (k + 1) = atO os k + 1 + (os.getD k default).f.length := by
 unfold atO
 rw [List.take_succ_eq_append_getElem h, usedL_append, List.getD_eq_getElem?_getD, List.getElem?_eq_getElem h]
 simp only [usedL, Option.getD_some]; omega
theorem at_all (os : List Ob) : atO os os.length = usedL os := by unfold atO; rw [List.take_length]
theorem at_mono {os : List Ob} {j k : Nat} (h : j <= k) (hk : k <= os.length) : atO os j + (k - j) <= atO os k := by
 induction k with
 | zero => obtain rfl : j = 0 := by omega
           simp
 | succ k ih =>
  by_cases e : j = k + 1
  ·subst e; simp
  ·have := ih (by omega) (by omega)
   rw [at_succ (by omega)]; omega
theorem at_inj {os : List Ob} {j k : Nat} (hj : j < os.length) (hk : k < os.length) (h : atO os j = atO os k) : j = k := by
 rcases Nat.lt_trichotomy j k with h1 | h1 | h1
 ·have := at_mono (os := os) (Nat.le_of_lt h1) (Nat.le_of_lt hk); omega
 ·exact h1
 ·have := at_mono (os := os) (Nat.le_of_lt h1) (Nat.le_of_lt hj); omega
theorem at_lt {os : List Ob} {k : Nat} (h : k < os.length) : atO os k + 1 + (os.getD k default).f.length <= usedL os := by
 rw [<- at_succ h, <- at_all]
 have := at_mono (os := os) (j := k + 1) (k := os.length) h (Nat.le_refl _)
 omega
theorem place_of {os : List Ob} {i : Nat} (h : i < usedL os) : ∃ k, k < os.length /\ (i = atO os k \/ ∃ j, j < (os.getD k default).f.length /\ i = atO os k + 1 + j) := by
 have key : ∀ n, n <= os.length -> i < atO os n -> ∃ k, k < n /\ atO os k <= i /\ i < atO os (k + 1) := fun n => by
  induction n with
  | zero => intro _ h; simp [atO, usedL] at h
  | succ n ih =>
   intro hn hi
   by_cases e : i < atO os n
   ·obtain ⟨k, a, b⟩ := ih (by omega) e; exact ⟨k, by omega, b⟩
   ·exact ⟨n, by omega, by omega, hi⟩
 obtain ⟨k, h1, h2, h3⟩ := key os.length (Nat.le_refl _) (by rw [at_all]; exact h)
 rw [at_succ h1] at h3
 refine ⟨k, h1, ?_⟩
 by_cases e : i = atO os k
 ·exact .inl e
 ·exact .inr ⟨i - atO os k - 1, by omega, by omega⟩
theorem fnd_at {os : List Ob} {k : Nat} (h : k < os.length) {i : Nat} (hi : i <= k) : fnd os (atO os k : Nat) i = some k := by
 induction hk : k - i generalizing i with
 | zero =>
  obtain rfl : i = k := by omega
  rw [fnd, if_pos h, if_pos rfl]
 | succ n ih =>
  rw [fnd, if_pos (by omega), if_neg (fun e => by have := at_inj (os := os) (j := i) (k := k) (by omega) h (by omega); omega), ih (by omega) (by omega)]
theorem ptr_of {n : Nat} (h : n <= 1099511627776) : ofR (wordR 2 (n : Int) 0) = (2, (n : Int), 0) := by
 have := word_back (k := 2) (n := n) (t := 0) (by unfold rightB; simp; omega)
 simpa using this
theorem find_ptr {os : List Ob} {k : Nat} (h : k < os.length) (hu : usedL os <= 1099511627776) : findM os (wordR 2 (atO os k : Nat) 0) = some k := by
 have hl := at_lt h
 unfold findM
 rw [ptr_of (by omega)]
 simp only [if_true]
 exact fnd_at h (Nat.zero_le _)
theorem head_of {x : Ob} (hk : 1 <= x.kind /\ x.kind <= 22) (hl : x.f.length <= 1099511627776) : ofR (wordR 8 (x.f.length : Nat) x.kind) = (8, ((x.f.length : Nat) : Int), x.kind) := by
 have := word_back (k := 8) (n := (x.f.length : Nat)) (t := x.kind) (by unfold rightB; simp; omega)
 simpa using this
theorem getD_in_os {l : List Ob} {i : Nat} (h : i < l.length) : l.getD i default ∈ l := by
 rw [List.getD_eq_getElem?_getD, List.getElem?_eq_getElem h]; exact List.getElem_mem h
theorem getD_in_f {l : List Int} {i : Nat} (h : i < l.length) : l.getD i 0 ∈ l := by
 rw [List.getD_eq_getElem?_getD, List.getElem?_eq_getElem h]; exact List.getElem_mem h
theorem head_iff {os : List Ob} (ho : OsOk os) (hu : usedL os <= 1099511627776) {i : Nat} (h : i < usedL os) : (ofR ((wordsL os).getD i 0)).1 = 8 ↔ ∃ k, k < os.length /\ i = atO os k := by
 constructor
 ·intro e
  obtain ⟨k, hk, h1 | ⟨j, hj, h1⟩⟩ := place_of h
  ·exact ⟨k, hk, h1⟩
  ·rw [h1, word_field hk hj] at e
   have := ho.nh _ (getD_in_os hk) _ (getD_in_f hj)
   unfold isHd at this
   simp only [decide_eq_false_iff_not] at this
   exact absurd e this
 ·rintro ⟨k, hk, rfl⟩
  have hl := at_lt hk
  rw [word_head hk, head_of (ho.kd _ (getD_in_os hk)) (by omega)]
def textOf (l : List Nat) : ByteArray := ⟨(l.map UInt8.ofNat).toArray⟩
theorem bs_textOf {l : List Nat} (h : ∀ x ∈ l, x < 256) : bs (textOf l) = l := by
 unfold bs textOf
 rw [List.toList_toArray, List.map_map]
 conv => rhs; rw [<- List.map_id l]
 refine List.map_congr_left (fun x hx => ?_)
 show (UInt8.ofNat x).toNat = x
 rw [UInt8.toNat_ofNat']
 exact Nat.mod_eq_of_lt (h x hx)
theorem bs_byte (s : ByteArray) : ∀ x ∈ bs s, x < 256 := fun x hx => by
 unfold bs at hx
 obtain ⟨u, _, rfl⟩ := List.mem_map.1 hx
 exact UInt8.toNat_lt u
theorem textOf_bs (s : ByteArray) : textOf (bs s) = s := by
 unfold bs textOf
 rw [List.map_map]
 have : (UInt8.ofNat ∘ UInt8.toNat) = id := by funext u; simp
 rw [this, List.map_id]
def symT (nm : List ByteArray) (x : Int) : ByteArray := nm.getD (nN x).toNat ByteArray.empty
def symB (nm : List ByteArray) (x : Int) : Bool := decide (nK x = 5) && (decide (nN x < nm.length) && textB 6 (symT nm x))
def namB (nm : List ByteArray) (x : Int) : Bool := decide (nK x = 5) && (decide (nN x < nm.length) && textB 15 (symT nm x))
def plainD (nm : List ByteArray) (x : Int) : Nd :=
 if nK x = 1 then ⟨3, 0, textOf (printL (decide (nN x < 0)) (nN x).natAbs), []⟩
 else if nK x = 3 then (if nN x = 0 then ⟨1, 0, ByteArray.empty, []⟩ else if nN x = 1 \/ nN x = 2 then ⟨2, nN x - 1, ByteArray.empty, []⟩ else if nN x = 3 then ⟨10, 0, ByteArray.empty, []⟩ else voidN)
 else if nK x = 4 then ⟨4, nN x, ByteArray.empty, []⟩
 else if symB nm x = true then ⟨6, 0, symT nm x, []⟩
 else if nK x = 6 then ⟨12, 0, ByteArray.empty, []⟩ else voidN
def recB (os : List Ob) (nm : List ByteArray) (x : Int) : Bool := match findM os x with
 | some k => decide ((os.getD k default).kind = 13) && (decide (0 < (os.getD k default).f.length) && namB nm ((os.getD k default).f.getD 0 0))
 | none => false
def recT (os : List Ob) (nm : List ByteArray) (x : Int) : ByteArray := match findM os x with
 | some k => symT nm ((os.getD k default).f.getD 0 0)
 | none => ByteArray.empty
def recordT : ByteArray := textOf [114, 101, 99, 111, 114, 100, 45, 116, 121, 112, 101]
def tableT : ByteArray := textOf [116, 97, 98, 108, 101]
def condB (f : List Int) : Bool := decide (f.length = 3) && (decide (nK (f.getD 0 0) = 1) && (decide (0 <= nN (f.getD 0 0)) && decide (nN (f.getD 0 0) <= 2)))
def objD (os : List Ob) (nm : List ByteArray) (kd : Int) (f : List Int) : Nd :=
 if kd = 1 then (if f.length = 2 then ⟨7, 0, ByteArray.empty, f⟩ else voidN)
 else if kd = 2 then (if f.length <= 1024 then ⟨8, 0, ByteArray.empty, f⟩ else voidN)
 else if kd = 3 then (if (f.all lrB && decide (f.length <= 1024)) = true then ⟨5, 0, textOf (lrT f), []⟩ else voidN)
 else if kd = 4 then (if (f.all byB && decide (f.length <= 1024)) = true then ⟨9, 0, textOf (byT f), []⟩ else voidN)
 else if kd = 5 then (if bigB f = true then ⟨3, 0, textOf (printL (numNeg f) (val B32 (numMag f))), []⟩ else voidN)
 else if kd = 12 then (if condB f = true then ⟨13, nN (f.getD 0 0), ByteArray.empty, f.drop 1⟩ else voidN)
 else if kd = 14 then (if (decide (0 < f.length) && recB os nm (f.getD 0 0)) = true then ⟨15, 0, recT os nm (f.getD 0 0), f.drop 1⟩ else voidN)
 else if kd = 11 then ⟨14, 0, ByteArray.empty, []⟩
 else if kd = 19 then ⟨17, 0, ByteArray.empty, []⟩
 else if kd = 18 then ⟨16, 0, ByteArray.empty, f⟩
 else if kd = 13 then ⟨15, 0, recordT, []⟩
 else if kd = 22 then ⟨15, 0, tableT, []⟩
 else if kd = 6 \/ kd = 17 \/ kd = 16 \/ kd = 15 then ⟨12, 0, ByteArray.empty, []⟩
 else voidN
def wordD (os : List Ob) (nm : List ByteArray) (x : Int) : Nd := match findM os x with
 | some k => objD os nm (os.getD k default).kind (os.getD k default).f
 | none => plainD nm x
section
variable {os : List Ob} {l : List Bool} {nm : List ByteArray}
section
variable {os : List Ob} {nm : List ByteArray} {f : List Int}
theorem objD_1 : objD os nm 1 f = if f.length = 2 then ⟨7, 0, ByteArray.empty, f⟩ else voidN := rfl
theorem objD_2 : objD os nm 2 f = if f.length <= 1024 then ⟨8, 0, ByteArray.empty, f⟩ else voidN := rfl
theorem objD_3 : objD os nm 3 f = if (f.all lrB && decide (f.length <= 1024)) = true then ⟨5, 0, textOf (lrT f), []⟩ else voidN := rfl
theorem objD_4 : objD os nm 4 f = if (f.all byB && decide (f.length <= 1024)) = true then ⟨9, 0, textOf (byT f), []⟩ else voidN := rfl
theorem objD_5 : objD os nm 5 f = if bigB f = true then ⟨3, 0, textOf (printL (numNeg f) (val B32 (numMag f))), []⟩ else voidN := rfl
theorem objD_12 : objD os nm 12 f = if condB f = true then ⟨13, nN (f.getD 0 0), ByteArray.empty, f.drop 1⟩ else voidN := rfl
theorem objD_14 : objD os nm 14 f = if (decide (0 < f.length) && recB os nm (f.getD 0 0)) = true then ⟨15, 0, recT os nm (f.getD 0 0), f.drop 1⟩ else voidN := rfl
theorem objD_o {kd : Int} (k1 : kd ≠ 1) (k2 : kd ≠ 2) (k3 : kd ≠ 3) (k4 : kd ≠ 4) (k5 : kd ≠ 5) (k12 : kd ≠ 12) (k14 : kd ≠ 14) : objD os nm kd f =
  if kd = 11 then ⟨14, 0, ByteArray.empty, []⟩ else if kd = 19 then ⟨17, 0, ByteArray.empty, []⟩ else if kd = 18 then ⟨16, 0, ByteArray.empty, f⟩ else if kd = 13 then ⟨15, 0, recordT, []⟩ else if kd = 22 then ⟨15, 0, tableT, []⟩
  else if kd = 6 \/ kd = 17 \/ kd = 16 \/ kd = 15 then ⟨12, 0, ByteArray.empty, []⟩ else voidN := by
 unfold objD
 rw [if_neg k1, if_neg k2, if_neg k3, if_neg k4, if_neg k5, if_neg k12, if_neg k14]
end
end
theorem or_u64_0 (d : Nat) (h : d < 4294967296) : bits .or .u64 0 (d : Int) = ((d : Nat) : Int) := by
 have := u64_or_nat 0 d (by omega) (by omega)
 rw [Nat.zero_or] at this; exact this
theorem or_u64_32 (a d : Nat) (h1 : a < 4294967296) (h2 : d < 4294967296) : bits .or .u64 (a : Int) ((d : Int) * 4294967296) = ((a + 4294967296 * d : Nat) : Int) := by
 rw [show ((d : Int) * 4294967296) = ((d * 4294967296 : Nat) : Int) by omega, u64_or_nat _ _ (by omega) (by omega), Nat.or_comm, nat_join 32 _ _ (by omega) (by omega)]; omega
def fits (z : Int) : Bool := decide (-9223372036854775808 <= z /\ z <= 9223372036854775807)
theorem long_not_fits {s : Bool} {l : List Nat} (hg : goodB s l = true) (h : 2 < l.length) : fits (sgn s (val B32 l)) = false := by
 have h1 := (goodB_tr hg).pos (B := B32) (by decide) (by intro e; simp [e] at h)
 have h2 : B32 ^ 2 <= B32 ^ (l.length - 1) := Nat.pow_le_pow_right (by decide) (by omega)
 have h3 : B32 ^ 2 = 18446744073709551616 := by decide
 unfold fits sgn
 cases s <;> simp <;> omega
theorem short_lt {l : List Nat} (hd : Dg B32 l) (h : l.length <= 2) : val B32 l <= 18446744073709551615 := by
 have h1 := val_lt hd
 have h2 : B32 ^ l.length <= B32 ^ 2 := Nat.pow_le_pow_right (by decide) h
 have h3 : B32 ^ 2 = 18446744073709551616 := by decide
 omega
theorem wrap_neg (a : Nat) (h : a <= 9223372036854775808) : wrap64 (IntKind.u64.wrap (-(a : Int))) = -(a : Int) := by
 rw [IntKind.wrap_u64]; unfold wrap64; omega
def ToPost (w : World) (z : Int) (e : Ending) (w' : World) : Prop := ∃ v, e = .returned (.tuple #[.int .i64 v, .bool (fits z)]) /\ (fits z = true -> v = z) /\ Below w.heap.size w w'
theorem toPost_no {w w' : World} {z v : Int} (hf : fits z = false) (hb : Below w.heap.size w w') : ToPost w z (.returned (.tuple #[.int .i64 v, .bool false])) w' :=
 ⟨v, by rw [hf], fun h => (by rw [hf] at h; cases h), hb⟩
theorem toPost_yes {w w' : World} {z v : Int} (hf : fits z = true) (hv : v = z) (hb : Below w.heap.size w w') : ToPost w z (.returned (.tuple #[.int .i64 v, .bool true])) w' :=
 ⟨v, by rw [hf], fun _ => hv, hb⟩
set_option maxRecDepth 100000 in
set_option maxHeartbeats 1000000 in
theorem to_any (neg : Bool) (ao : Option Addr) (n cap : Nat) (l : List Nat) (w : World) (R : Row .u32 B32 w ao n cap l) (g : goodB neg l = true) :
  Calls Tryz.prog 181 #[.agg #[.bool neg, .slice ao n cap]] w (ToPost w (sgn neg (val B32 l))) := by
 have hmx := R.most
 have hft := R.fits
 unfold maxLen at hmx
 have HR := hid R
 have G := hid g
 have HL := hid R.len
 clear R g
 go_enter Tryz.func181, Tryz.ntmps181
 go_wp2_with fail
 refine (good_any neg ao n cap l _ (HR.out.below (Ba _ _))).mono ?_
 rintro e w1 ⟨rfl, hb1⟩
 rw [G.out]
 have X := hid ((Box.new 104 w neg ao n cap).on hb1)
 obtain ⟨c0, c1⟩ := X.out.c
 have HB := hid (Bt (Ba w (.cells #[.bool neg, .slice ao n cap] 104)) hb1)
 have R1 := hid (HR.out.below HB.out)
 clear hb1 HR
 by_cases h2 : 2 < n
 ·have e2 : decide ((2 : Int) < n) = true := by simp; omega
  have HF := hid (long_not_fits G.out (by rw [HL.out]; exact h2))
  go_wp2
  go_ret2
  exact toPost_no HF.out HB.out
 ·have e2 : decide ((2 : Int) < n) = false := by simp; omega
  have hV := short_lt R1.out.dg (by rw [HL.out]; omega)
  obtain ⟨V, hVV⟩ : ∃ V, V = val B32 l := ⟨_, rfl⟩
  rw [<- hVV] at hV
  have HV := hid hVV
  clear hVV
  go_wp2
  go_loop [4, 5, 6, 19] (fun m _ _ i => ∃ k a : Nat, k <= n /\ i = .int .i64 k /\ m = .int .u64 a /\ Hid (a = val B32 (l.take k))) (fun _ _ _ i => n - (intOf i).toNat)
  case atStart => exact ⟨0, 0, Nat.zero_le _, rfl, rfl, by simp [Hid, val]⟩
  case round =>
   obtain ⟨k, a, hk, rfl, rfl, ha⟩ := hrel
   by_cases hlt : k < n
   ·obtain ⟨b, o, rfl, hl, hc⟩ := R1.out.rd.some (by rw [HL.out]; omega)
    have hck := hc k (by rw [HL.out]; exact hlt)
    obtain ⟨d, hd⟩ : ∃ d, d = l.getD k 0 := ⟨_, rfl⟩
    rw [<- hd] at hck
    have hdb : d < 4294967296 := by rw [hd]; exact R1.out.dg.getD _ (by rw [HL.out]; exact hlt)
    have HS : Hid (val B32 (l.take (k + 1)) = a + B32 ^ k * d) := by
     unfold Hid; rw [val_take_succ B32 l k (by rw [HL.out]; exact hlt), <- ha.out, <- hd]
    clear hd hc
    have hk2 : k = 0 \/ k = 1 := by omega
    rcases hk2 with rfl | rfl
    ·obtain rfl : a = 0 := by have := ha.out; simpa [val] using this
     have hor := or_u64_0 d hdb
     simp only [Nat.add_zero] at hck
     go_wp2
     exact ⟨⟨1, d, by omega, rfl, rfl, by unfold Hid; rw [HS.out]; simp⟩, by simp [intOf]; omega⟩
    ·have hab : a < 4294967296 := by
      have h1 := ha.out
      have h2 := val_lt (R1.out.dg.take 1)
      have h3 : B32 ^ (l.take 1).length <= B32 ^ 1 := Nat.pow_le_pow_right (by decide) (by rw [List.length_take]; omega)
      have h4 : B32 ^ 1 = 4294967296 := by decide
      omega
     have hor := or_u64_32 a d hab hdb
     obtain ⟨A, hA⟩ : ∃ A, A = a + 4294967296 * d := ⟨_, rfl⟩
     rw [<- hA] at hor
     have HA := hid hA
     clear hA
     go_wp2
     exact ⟨⟨2, A, by omega, rfl, rfl, by unfold Hid; rw [HS.out, HA.out]; simp [B32]⟩, by simp [intOf]; omega⟩
   ·have haV : a = V := by rw [ha.out, HV.out, List.take_of_length_le (by rw [HL.out]; omega)]
    subst haV
    clear ha
    cases neg
    ·by_cases hf : a <= 9223372036854775807
     ·have HF : Hid (fits (sgn false a) = true) := by unfold Hid fits sgn; simp; omega
      have ec : decide ((a : Int) < 9223372036854775808) = true := by rw [decide_eq_true_eq]; omega
      go_wp2
      go_ret2
      rw [<- HV.out]
      exact toPost_yes HF.out (by simp [sgn]) HB.out
     ·have HF : Hid (fits (sgn false a) = false) := by unfold Hid fits sgn; simp; omega
      have ec : decide ((a : Int) < 9223372036854775808) = false := by rw [decide_eq_false_iff_not]; omega
      go_wp2
      go_ret2
      rw [<- HV.out]
      exact toPost_no HF.out HB.out
    ·by_cases hf : a <= 9223372036854775808
     ·have HF : Hid (fits (sgn true a) = true) := by unfold Hid fits sgn; simp; omega
      go_wp2
      go_ret2
      rw [<- HV.out]
      exact toPost_yes HF.out ((wrap_neg a hf).trans (by simp [sgn])) HB.out
     ·have HF : Hid (fits (sgn true a) = false) := by unfold Hid fits sgn; simp; omega
      go_wp2
      go_ret2
      rw [<- HV.out]
      exact toPost_no HF.out HB.out
end Go.Proofs.YticimejfjjmikaaGreatDoor
