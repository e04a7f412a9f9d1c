/-
  Walks, of the document's heap: New, Fill.
-/
import Derived.Test.YthgkonjglappjaaV4
set_option linter.unusedVariables false
set_option linter.unusedSimpArgs false
set_option maxRecDepth 100000
namespace Go.Proofs.Ythgkonjglappjaa
open Go.RowKit

set_option maxHeartbeats 4000000 in
theorem rnew_any (n : Int) (hn : Z64 n) (w : World) :
    Calls Try.prog 28 #[.int .i64 n] w fun e w' => if n < 1 ∨ 4194304 < n then e = .returned (.tuple #[.pointer none, .int .i64 1]) ∧ w' = w else ∃ g, e = .returned (.tuple #[.pointer (some ⟨g, 0, none⟩), .int .i64 0]) ∧ w.heap.size ≤ g ∧ RH w.heap.size g n (.slice none 0 0) [] w' ∧ Below w.heap.size w w' := by
  unfold Z64 at hn
  by_cases hb : n < 1 ∨ 4194304 < n
  · simp only [if_pos hb]
    go_enter Try.func28, Try.ntmps28
    go_wp2
    all_goals first
      | omega
      | (go_ret2; exact ⟨rfl, rfl⟩)
  · simp only [if_neg hb]
    have HE : Hid (RH w.heap.size w.heap.size n (.slice none 0 0) [] (w.alloc (.cells #[.int .i64 n, .slice none 0 0] 44))) :=
      ⟨blk_new _ _ _, World.ownsRow_nil _ _ _ _, fun x hx => (by cases hx), List.Pairwise.nil, fun x hx => (by cases hx), (by intro e; cases e), Nat.le_refl _, fun x hx => (by cases hx), fun x hx => (by cases hx), ⟨by simp [usedL]; omega, by omega⟩⟩
    go_enter Try.func28, Try.ntmps28
    go_wp2
    all_goals first
      | omega
      | (go_ret2; exact ⟨_, rfl, Nat.le_refl _, HE.out, Ba _ _⟩)

/-- 'append(words, more...)' in plain code. -/
theorem appU {P : Program} {w : World} {ops : Array Oper} {rest : List Oper} {o : Oper} {a : Act} {Q : Exit → Act → World → Prop} (hgd : o.guard = none) (s x : Operand) (t : TypeId) (ho : o.op = .call { callee := .builtin .append, args := #[s, x], argTypes := #[t, t] })
    (base : Nat) (e : TypeId) (ht : P.underlying t = some (.slice e)) (hi : (P.info? e).map (fun i => (i.zero, i.size, i.bytes)) = some (some (.int .u64 0), 1, 8))
    (v : Value) (n : Nat) (l : List Int) (hs : a.eval s = v) (hown : w.ownsRow base e 1 v n (uz l))
    (ao : Option Addr) (m c : Nat) (r : List Int) (hx : a.eval x = .slice ao m c) (hr : URow w ao m c r) (hsm : n + m ≤ 1099511627776) (hbase : base ≤ w.heap.size)
    (h : ∀ v' w', w'.ownsRow base e 1 v' (n + m) (uz (l ++ r)) → w.grownBy w' v.ownBlock → wpList P ops Q rest (a.put o.dst v') w') : wpList P ops Q (o :: rest) a w :=
  wpList_plain hgd fun K hK => by
    have := stepU (P := P) (w := w) (ops := ops) (o := o) (a := a) (K := K) (Q := Q) (E := False) o.dst rfl hgd s x t ho base e ht hi v n l hs hown ao m c r hx hr hsm hbase (fun v' w' h1 h2 => hK _ _ (h v' w' h1 h2))
    have hw : Region.wanted o (yielded ops a.tmps) = true := by simp [Region.wanted, hgd]
    rw [if_pos hw] at this
    exact this
theorem urow_one {w : World} {g : Nat} {z : Int} {t : TypeId} (h : w.heap[g]? = some (.cells #[.int .u64 z] t (0, 0))) (hz : U64 z) : URow w (some ⟨g, 0, none⟩) 1 1 [z] :=
  ⟨rfl, Nat.le_refl _, by unfold maxLen; omega, fun e => (by cases e), fun y hy => by simp at hy; rw [hy]; exact hz, .inr ⟨g, 0, rfl, (Array.getElem?_eq_some_iff.1 h).1, fun i hi => by
    have : i = 0 := by simpa using hi
    subst this
    exact blk_cell h 0⟩⟩
theorem urow_own {w : World} {B : Nat} {e : TypeId} {v : Value} {l : List Int} (h : w.ownsRow B e 1 v l.length (uz l)) (hb : ∀ z ∈ l, U64 z) : ∃ ao cap, v = .slice ao l.length cap ∧ URow w ao l.length cap l := by
  rcases h.2 with ⟨rfl, h0⟩ | ⟨g, cap, cur, rfl, h2, h3, h4, h5, h6, h7⟩
  · have : l = [] := List.length_eq_zero_iff.1 h0
    subst this
    exact ⟨none, 0, rfl, rfl, Nat.le_refl _, by unfold maxLen; omega, fun _ => rfl, hb, .inl rfl⟩
  · refine ⟨some ⟨g, 0, none⟩, cap, rfl, rfl, h4, h5, fun e => (by cases e), hb, .inr ⟨g, 0, rfl, (Array.getElem?_eq_some_iff.1 h3).1, fun i hi => ?_⟩⟩
    rw [Nat.zero_add, blk_cell h3]
    have : cur[i]? = (uz l)[i]? := by rw [← h7, List.getElem?_take, if_pos (by omega)]; simp
    rw [this, uz_get hi]

/-- What Fill answers; the objects behind it. -/
def fillM (os : List Ob) (N kind n z : Int) : Int × Int :=
  if kind < 1 ∨ 22 < kind then (0, 70) else if n < 0 ∨ 4194304 < n ∨ isHd z = true then (0, 1) else allocM os N kind (List.replicate n.toNat z)
def fillO (os : List Ob) (N kind n z : Int) : List Ob := if (fillM os N kind n z).2 = 0 then os ++ [⟨kind, List.replicate n.toNat z⟩] else os
set_option maxHeartbeats 16000000 in
theorem rfill_any {B g : Nat} {N : Int} {vL : Value} {ls : List (Ob × Sl)} (kind n z : Int) (hk : Z64 kind) (hn : Z64 n) (hz : U64 z) (w : World) (h : RH B g N vL ls w) (hB : B ≤ w.heap.size) :
    Calls Try.prog 30 #[.pointer (some ⟨g, 0, none⟩), .int .i64 kind, .int .i64 n, .int .u64 z] w fun e w' =>
      e = .returned (.tuple #[.int .u64 (fillM (ls.map Prod.fst) N kind n z).1, .int .i64 (fillM (ls.map Prod.fst) N kind n z).2]) ∧ RPost B g N vL ls w (fillO (ls.map Prod.fst) N kind n z) w' := by
  have H := hid h
  have hrm := h.room
  have C1 := hid (ishead_any z hz)
  have HK := hid hk
  unfold Z64 at hk hn
  clear h
  by_cases hk1 : kind < 1 ∨ 22 < kind
  · have ha : fillM (ls.map Prod.fst) N kind n z = (0, 70) := by unfold fillM; rw [if_pos hk1]
    have hao : fillO (ls.map Prod.fst) N kind n z = ls.map Prod.fst := by unfold fillO; rw [ha]; rfl
    rw [ha, hao]
    have HE := hid (RPost.same H.out (Below.refl _ _))
    clear ha hao
    go_enter Try.func30, Try.ntmps30
    go_wp2_with fail
    all_goals first
      | omega
      | (go_ret2; exact ⟨rfl, HE.out⟩)
  have hk2 : 1 ≤ kind ∧ kind ≤ 22 := by omega
  by_cases hn1 : n < 0 ∨ 4194304 < n
  · have ha : fillM (ls.map Prod.fst) N kind n z = (0, 1) := by unfold fillM; rw [if_neg hk1, if_pos (by rcases hn1 with h | h; exact .inl h; exact .inr (.inl h))]
    have hao : fillO (ls.map Prod.fst) N kind n z = ls.map Prod.fst := by unfold fillO; rw [ha]; rfl
    rw [ha, hao]
    have HE := hid (RPost.same H.out (Below.refl _ _))
    clear ha hao
    go_enter Try.func30, Try.ntmps30
    go_wp2_with fail
    all_goals first
      | omega
      | (go_ret2; exact ⟨rfl, HE.out⟩)
  have hn2 : 0 ≤ n ∧ n ≤ 4194304 := by omega
  by_cases h8 : (ofR z).1 = 8
  · have ha : fillM (ls.map Prod.fst) N kind n z = (0, 1) := by unfold fillM; rw [if_neg hk1, if_pos (.inr (.inr (decide_eq_true h8)))]
    have hao : fillO (ls.map Prod.fst) N kind n z = ls.map Prod.fst := by unfold fillO; rw [ha]; rfl
    rw [ha, hao]
    rw [decide_eq_true h8] at C1
    clear ha hao
    go_enter Try.func30, Try.ntmps30
    go_wp2_with (go_at_call 32; with_reducible refine (C1.out _).mono ?_; rintro e wb ⟨rfl, bb⟩)
    go_ret2
    exact ⟨rfl, RPost.same H.out bb⟩
  rw [decide_eq_false h8] at C1
  obtain ⟨m, rfl⟩ : ∃ m : Nat, n = (m : Int) := ⟨n.toNat, by omega⟩
  have hfm : fillM (ls.map Prod.fst) N kind (m : Int) z = allocM (ls.map Prod.fst) N kind (List.replicate m z) := by
    unfold fillM
    rw [if_neg hk1, if_neg (by rintro (h | h | h); omega; omega; exact h8 (of_decide_eq_true h)), Int.toNat_natCast]
  have hfo : fillO (ls.map Prod.fst) N kind (m : Int) z = allocO (ls.map Prod.fst) N kind (List.replicate m z) := by
    unfold fillO allocO
    rw [hfm, Int.toNat_natCast]
  rw [hfm, hfo]
  clear hfm hfo
  obtain ⟨U, hU⟩ : ∃ u, u = usedL (ls.map Prod.fst) := ⟨_, rfl⟩
  have C2 : Hid (∀ wx, Below w.heap.size w wx → Calls Try.prog 51 #[.pointer (some ⟨g, 0, none⟩)] wx fun e w' => e = .returned (.int .i64 (N - (U : Nat))) ∧ Below wx.heap.size wx w') := fun wx b => by rw [hU]; exact rroom_any wx (H.out.on b)
  have HU := hid hU
  rw [← hU] at hrm
  clear hU
  by_cases hfull : N - (U : Nat) < 1 + (m : Nat)
  · have hany : (List.replicate m z).any isHd = false := by
      rw [List.any_replicate]
      split
      · rfl
      · exact decide_eq_false h8
    have ha : allocM (ls.map Prod.fst) N kind (List.replicate m z) = (0, 3) := by unfold allocM; rw [if_neg hk1, hany, if_neg (by simp), if_pos (by rw [← HU.out, List.length_replicate]; exact hfull)]
    have hao : allocO (ls.map Prod.fst) N kind (List.replicate m z) = ls.map Prod.fst := by unfold allocO; rw [ha]; rfl
    rw [ha, hao]
    clear ha hao hany
    go_enter Try.func30, Try.ntmps30
    go_wp2_with (first
      | (go_at_call 32; with_reducible refine (C1.out _).mono ?_; rintro e wb ⟨rfl, bb⟩)
      | (go_at_call 51; with_reducible refine (C2.out _ bb).mono ?_; rintro e wc ⟨rfl, bc⟩))
    go_ret2
    exact ⟨rfl, RPost.same H.out (Bt bb bc)⟩
  go_enter Try.func30, Try.ntmps30
  go_wp2_with (first
    | (go_at_call 32; with_reducible refine (C1.out _).mono ?_; rintro e wb ⟨rfl, bb⟩)
    | (go_at_call 51; with_reducible refine (C2.out _ bb).mono ?_; rintro e wc ⟨rfl, bc⟩; have HBC := hid (Bt bb bc); clear bc bb))
  go_loopw [10, 11] (fun v i wr => ∃ q : Nat, q ≤ m ∧ i = .int .i64 q ∧ Hid (wr.ownsRow wc.heap.size 46 1 v q (uz (List.replicate q z)) ∧ Below wc.heap.size wc wr)) (fun _ i _ => m - (intOf i).toNat)
  case atStart => exact ⟨0, Nat.zero_le _, rfl, by simpa [uz] using World.ownsRow_nil _ _ _ _, Below.refl _ _⟩
  case round =>
    obtain ⟨q, hq, rfl, hI⟩ := hrel
    by_cases hlt : q < m
    · have HOA := hid (uown_on hI.out.1 (Ba wr (.cells #[.int .u64 z] 46)))
      have HUR := hid (urow_one (blk_new wr #[.int .u64 z] 46) hz)
      have HS : Hid (wc.heap.size ≤ (wr.alloc (.cells #[.int .u64 z] 46)).heap.size) := Nat.le_trans hI.out.2.size (Ba wr _).size
      go_wp2_with (at_builtin; refine appU rfl _ _ 27 rfl wc.heap.size 46 Try.underlying27 info_word _ q (List.replicate q z) rfl HOA.out (some ⟨wr.heap.size, 0, none⟩) 1 1 [z] rfl HUR.out (by omega) HS.out ?_; intro v' w' ho hg)
      have e1 : List.replicate q z ++ [z] = List.replicate (q + 1) z := by rw [List.replicate_succ']
      rw [e1] at ho
      exact ⟨⟨q + 1, by omega, by go_num, ho, (hI.out.2.trans ((Ba wr _).mono hI.out.2.size)).grown hg (Nat.le_trans hI.out.2.size (Ba wr _).size) (fun k hk => (HOA.out.lt k hk).1)⟩, by simp [intOf] <;> omega⟩
    · obtain rfl : q = m := by omega
      have hrow := hI.out.1
      have hrow' : wr.ownsRow wc.heap.size 46 1 u10 (List.replicate q z).length (uz (List.replicate q z)) := by rw [List.length_replicate]; exact hrow
      obtain ⟨aF, cF, hv, hUR⟩ := urow_own hrow' (fun y hy => by rw [List.eq_of_mem_replicate hy]; exact hz)
      rw [List.length_replicate] at hv hUR
      obtain rfl := hv
      have HBR := hid (Bt HBC.out hI.out.2)
      have C3 := hid (ralloc_any kind HK.out aF q cF (List.replicate q z) wr (H.out.on HBR.out) hUR (Nat.le_trans hB HBR.out.size) (by omega))
      clear hrow hrow' hUR hI
      go_wp2_with (go_at_call 52; with_reducible refine C3.out.mono ?_; rintro e wd ⟨rfl, hp⟩)
      go_ret2
      refine ⟨rfl, ?_⟩
      obtain ⟨vL', ls', p1, p2, p3, p4⟩ := hp
      refine ⟨vL', ls', p1, p2, fun b hb => ?_, (Mod.of_below _ HBR.out).trans p4 (fun _ _ e => e)⟩
      rcases p3 b hb with h' | h'
      · exact .inl h'
      · right; have := HBR.out.size; omega
end Go.Proofs.Ythgkonjglappjaa
