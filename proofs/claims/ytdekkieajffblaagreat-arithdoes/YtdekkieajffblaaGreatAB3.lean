/-
  Walks of the program's bigs: Lay.
-/
import Derived.Test.YtdekkieajffblaaGreatV9
import Derived.Test.YtdekkieajffblaaGreatW23
set_option linter.unusedVariables false
set_option linter.unusedSimpArgs false
set_option maxRecDepth 100000
namespace Go.Proofs.YtdekkieajffblaaGreat
open Go.RowKit

/-- Both heaps in one memory, with their blocks. -/
structure Mx (B : Nat) (v : Value) (g : Nat) (N : Int) (osP osR : List Ob) (F : Nat → Prop) (vL : Value) (ls : List (Ob × Sl)) (w : World) : Prop where
  ph : PH B v N (wordsL osP) F w
  rh : RH B g N vL ls w
  mp : ls.map Prod.fst = osR
  dj : ∀ b, F b → ¬ RF g vL ls b
  okP : OsOk osP
  okR : OsOk osR
  bw : B ≤ w.heap.size
section
variable {B g : Nat} {v : Value} {N : Int} {osP osR os' : List Ob} {F : Nat → Prop} {vL : Value} {ls : List (Ob × Sl)} {w w' : World}
theorem Mx.keep (h : Mx B v g N osP osR F vL ls w) (hs : w.heap.size ≤ w'.heap.size) (hF : ∀ b, F b → w'.heap[b]? = w.heap[b]?) (hR : ∀ b, RF g vL ls b → w'.heap[b]? = w.heap[b]?) : Mx B v g N osP osR F vL ls w' :=
  ⟨h.ph.keep hF, h.rh.keep hR, h.mp, h.dj, h.okP, h.okR, Nat.le_trans h.bw hs⟩
theorem Mx.on (h : Mx B v g N osP osR F vL ls w) (hb : Below w.heap.size w w') : Mx B v g N osP osR F vL ls w' :=
  h.keep hb.size (fun b hf => hb.block b (h.ph.ge b hf).2) (fun b hf => hb.block b (h.rh.foot_ge b hf).2)
theorem Mx.p (h : Mx B v g N osP osR F vL ls w) (ho : OsOk os') (hp : PPost B v N F w (wordsL os') w') : ∃ F', Mx B v g N os' osR F' vL ls w' ∧ (∀ b, b < w.heap.size → ¬ F b → ¬ F' b ∧ w'.heap[b]? = w.heap[b]?) ∧ Below B w w' := by
  obtain ⟨F', p1, p2, p3⟩ := hp
  refine ⟨F', ⟨p1, h.rh.mod p3 (fun b hb hf => h.dj b hf hb), h.mp, fun b hb hr => ?_, ho, h.okR, Nat.le_trans h.bw p3.size⟩, fun b hb hn => ⟨fun e => ?_, p3.block b hb hn⟩, p3.below (fun b hb => (h.ph.ge b hb).1) h.bw⟩
  · rcases p2 b hb with h' | h'
    · exact h.dj b h' hr
    · have := (h.rh.foot_ge b hr).2; omega
  · rcases p2 b e with h' | h'
    · exact hn h'
    · omega
theorem Mx.r (h : Mx B v g N osP osR F vL ls w) (ho : OsOk os') (hp : RPost B g N vL ls w os' w') : ∃ vL' ls', Mx B v g N osP os' F vL' ls' w' ∧ (∀ b, b < w.heap.size → ¬ RF g vL ls b → ¬ RF g vL' ls' b ∧ w'.heap[b]? = w.heap[b]?) ∧ Below B w w' := by
  obtain ⟨vL', ls', p1, p2, p3, p4⟩ := hp
  refine ⟨vL', ls', ⟨h.ph.keep (fun b hb => p4.block b (h.ph.ge b hb).2 (h.dj b hb)), p1, p2, fun b hb hr => ?_, h.okP, ho, Nat.le_trans h.bw p4.size⟩, fun b hb hn => ⟨fun e => ?_, p4.block b hb hn⟩, p4.below (fun b hb => (h.rh.foot_ge b hb).1) h.bw⟩
  · rcases p3 b hr with h' | h'
    · exact h.dj b hb h'
    · have := (h.ph.ge b hb).2; omega
  · rcases p3 b e with h' | h'
    · exact hn h'
    · omega
theorem Mx.mix (h : Mx B v g N osP osR F vL ls w) : Mix B v g N osP osR w := ⟨⟨F, vL, ls, h.ph, h.rh, h.mp, h.dj⟩, h.okP, h.okR, h.bw⟩
end
/-- What is of neither heap stays so, and as it is. -/
def Fr (g : Nat) (F : Nat → Prop) (vL : Value) (ls : List (Ob × Sl)) (F' : Nat → Prop) (vL' : Value) (ls' : List (Ob × Sl)) (w w' : World) : Prop := ∀ b, b < w.heap.size → ¬ F b → ¬ RF g vL ls b → ¬ F' b ∧ ¬ RF g vL' ls' b ∧ w'.heap[b]? = w.heap[b]?
section
variable {g : Nat} {F F' F2 : Nat → Prop} {vL vL' vL2 : Value} {ls ls' ls2 : List (Ob × Sl)} {w w1 w2 : World}
theorem Fr.on (h : Below w.heap.size w w1) : Fr g F vL ls F vL ls w w1 := fun b hb n1 n2 => ⟨n1, n2, h.block b hb⟩
theorem Fr.p (h : ∀ b, b < w.heap.size → ¬ F b → ¬ F' b ∧ w1.heap[b]? = w.heap[b]?) : Fr g F vL ls F' vL ls w w1 := fun b hb n1 n2 => ⟨(h b hb n1).1, n2, (h b hb n1).2⟩
theorem Fr.r (h : ∀ b, b < w.heap.size → ¬ RF g vL ls b → ¬ RF g vL' ls' b ∧ w1.heap[b]? = w.heap[b]?) : Fr g F vL ls F vL' ls' w w1 := fun b hb n1 n2 => ⟨n1, (h b hb n2).1, (h b hb n2).2⟩
theorem Fr.trans (h : Fr g F vL ls F' vL' ls' w w1) (hs : w.heap.size ≤ w1.heap.size) (k : Fr g F' vL' ls' F2 vL2 ls2 w1 w2) : Fr g F vL ls F2 vL2 ls2 w w2 := fun b hb n1 n2 => by
  obtain ⟨a1, a2, a3⟩ := h b hb n1 n2
  obtain ⟨b1, b2, b3⟩ := k b (Nat.lt_of_lt_of_le hb hs) a1 a2
  exact ⟨b1, b2, b3.trans a3⟩
end
end Go.Proofs.YtdekkieajffblaaGreat

set_option linter.unusedVariables false
set_option linter.unusedSimpArgs false
set_option maxRecDepth 100000
namespace Go.Proofs.YtdekkieajffblaaGreat
open Go.RowKit

theorem urow_two {w : World} {g : Nat} {t : TypeId} (h : w.heap[g]? = some (.cells #[.int .u64 2, .int .u64 2] t (0, 0))) : URow w (some ⟨g, 0, none⟩) 2 2 [2, 2] :=
  ⟨rfl, Nat.le_refl _, by unfold maxLen; omega, fun e => (by cases e), fun y hy => by simp at hy; rw [hy]; unfold U64; omega, .inr ⟨g, 0, rfl, (Array.getElem?_eq_some_iff.1 h).1, fun i hi => by
    have : i = 0 ∨ i = 1 := by simp at hi; omega
    rcases this with rfl | rfl
    · exact blk_cell h 0
    · exact blk_cell h 1⟩⟩
theorem os_nil : OsOk [] := ⟨fun x hx => (by cases hx), fun x hx => (by cases hx), fun x hx => (by cases hx)⟩
theorem PPost.below {B : Nat} {v : Value} {N : Int} {ws ws' : List Int} {F : Nat → Prop} {w w' : World} (h : PH B v N ws F w) (hp : PPost B v N F w ws' w') (hB : B ≤ w.heap.size) : Below B w w' := by
  obtain ⟨F', p1, p2, p3⟩ := hp
  exact p3.below (fun b hb => (h.ge b hb).1) hB
theorem awake_alloc {B : Nat} {v : Value} {F : Nat → Prop} {os : List Ob} (ho : OsOk os) (w0 w : World) (h : PH B v 4 (wordsL os) F w) (hb : Below B w0 w) (hB : B ≤ w.heap.size) :
    Calls Tryz.prog 58 #[v, .int .i64 1, .slice (some ⟨w.heap.size, 0, none⟩) 2 2] (w.alloc (.cells #[.int .u64 2, .int .u64 2] 35)) fun e w' => e = .returned (.tuple #[.int .u64 (allocM os 4 1 [2, 2]).1, .int .i64 (allocM os 4 1 [2, 2]).2]) ∧ ∃ F', PH B v 4 (wordsL (allocO os 4 1 [2, 2])) F' w' ∧ Below B w0 w' ∧ B ≤ w'.heap.size := by
  have hk : PH B v 4 (wordsL os) F (w.alloc (.cells #[.int .u64 2, .int .u64 2] 35)) := h.keep (fun b hb' => (Ba w _).block b (h.ge b hb').2)
  have hB2 : B ≤ (w.alloc (.cells #[.int .u64 2, .int .u64 2] 35)).heap.size := by rw [size_alloc]; omega
  refine (palloc_any ho 1 (by unfold Z64; omega) (some ⟨w.heap.size, 0, none⟩) 2 2 [2, 2] _ hk (urow_two (blk_new w _ _)) hB2 (fun a ha hf => ?_) (by omega)).mono ?_
  · cases ha; have := (h.ge _ hf).2; simp at this
  rintro e w' ⟨rfl, hp⟩
  have hbl := PPost.below hk hp hB2
  obtain ⟨F', p1, p2, p3⟩ := hp
  refine ⟨rfl, F', p1, ?_, Nat.le_trans hB2 hbl.size⟩
  exact (hb.trans ((Ba w _).mono hB)).trans hbl
theorem RH.weak {B B' g : Nat} {N : Int} {vL : Value} {ls : List (Ob × Sl)} {w : World} (h : RH B g N vL ls w) (hb : B' ≤ B) : RH B' g N vL ls w :=
  { h with own := own_weak h.own hb, rows := fun x hx => ⟨own_weak (h.rows x hx).1 hb, (h.rows x hx).2⟩, Bg := Nat.le_trans hb h.Bg }
end Go.Proofs.YtdekkieajffblaaGreat

set_option linter.unusedVariables false
set_option linter.unusedSimpArgs false
set_option maxRecDepth 100000
namespace Go.Proofs.YtdekkieajffblaaGreat
open Go.RowKit

section
variable {B : Nat} {v : Value} {N : Int} {os : List Ob} {ws : List Int} {F : Nat → Prop} {w w1 w' : World}
theorem PH.onb (h : PH B v N ws F w) (hb : Below w.heap.size w w') : PH B v N ws F w' := h.keep (fun b hF => hb.block b (h.ge b hF).2)
theorem PPost.front {ws' : List Int} (hb : Below w.heap.size w w1) (h : PPost B v N F w1 ws' w') : PPost B v N F w ws' w' := by
  obtain ⟨F', h1, h2, h3⟩ := h
  have hs := hb.size
  exact ⟨F', h1, fun b e => (h2 b e).imp id (fun e => by omega), (Mod.of_below F hb).trans h3 (fun _ _ e => e)⟩
theorem PPost.behind {ws' : List Int} (h : PPost B v N F w ws' w1) (hb : Below w1.heap.size w1 w') : PPost B v N F w ws' w' := by
  obtain ⟨F', h1, h2, h3⟩ := h
  exact ⟨F', h1.onb hb, h2, h3.trans (Mod.of_below F hb) (fun _ _ e => e)⟩
theorem PPost.still (h : PH B v N ws F w) (hb : Below w.heap.size w w') : PPost B v N F w ws w' := ⟨F, h.onb hb, fun _ e => .inl e, Mod.of_below F hb⟩
theorem neg_good {neg : Bool} {l : List Nat} (g : goodB neg l = true) : neg = decide (sgn neg (val B32 l) < 0) := by
  cases neg
  · symm; refine decide_eq_false ?_; simp [sgn]
  · have h1 : val B32 l ≠ 0 := (goodB_tr g).ne_zero (by decide) (fun e => by have := goodB_neg g (by simp [e]); cases this)
    symm; refine decide_eq_true ?_; simp [sgn]; omega
set_option maxHeartbeats 4000000 in
theorem blay_any (ho : OsOk os) (x : Value) (z : Int) (w : World) (h : PH B v N (wordsL os) F w) (hx : IsInt w x z) (hB : B ≤ w.heap.size) :
    Calls Tryz.prog 27 #[v, x] w fun e w' => e = .returned (.tuple #[.int .u64 (layM os N z).1, .int .i64 (layM os N z).2]) ∧ PPost B v N F w (wordsL (layO os N z)) w' := by
  obtain ⟨neg, ao, n, cap, l, rfl, R, g, hz⟩ := hx.open_
  have hn40 : n ≤ 40 := by rw [← R.len]; exact goodB_len g
  have hm := mg_of R.dg g
  have hng := neg_good g
  rw [← hz] at hm hng
  have b0 := Ba w (.cells #[.bool neg, .slice ao n cap] 40)
  have hxb := blk_new w #[.bool neg, .slice ao n cap] 40
  have HC : Hid (∀ W, Below (w.alloc (.cells #[.bool neg, .slice ao n cap] 40)).heap.size (w.alloc (.cells #[.bool neg, .slice ao n cap] 40)) W → W.cell? ⟨w.heap.size, 0, none⟩ = some (.bool neg) ∧ W.cell? ⟨w.heap.size, 1, none⟩ = some (.slice ao n cap) ∧ Below w.heap.size w W) := fun W b => by
    have e := (b.block w.heap.size (by rw [size_alloc]; omega)).trans hxb
    exact ⟨blk_cell e 0, blk_cell e 1, Bt b0 b⟩
  have CG : Hid (∀ W, Below w.heap.size w W → Calls Tryz.prog 56 #[.agg #[.bool neg, .slice ao n cap]] W fun e w' => e = .returned (.bool true) ∧ Below W.heap.size W w') := fun W b => by
    have := good_any neg ao n cap l W (R.below b)
    rw [g] at this; exact this
  have CW : Hid (∀ W, Below w.heap.size w W → Calls Tryz.prog 57 #[.agg #[.bool neg, .slice ao n cap]] W fun e w' => ∃ x, e = .returned (.tuple #[.int .u64 x, .bool (fixB z)]) ∧ (fixB z = true → x = wordR 1 z 0) ∧ Below W.heap.size W w') := fun W b => by
    have := bword_any neg ao n cap l W (R.below b) g
    rw [← hz] at this; exact this
  have CF : Hid (∀ W, Below w.heap.size w W → Calls Tryz.prog 59 #[.agg #[.bool neg, .slice ao n cap]] W fun e w' => ∃ af nf cf, e = .returned (.slice af nf cf) ∧ URow w' af nf cf (bigL (decide (z < 0)) (mg z.natAbs)) ∧ (∀ a, af = some a → w.heap.size ≤ a.block) ∧ Below W.heap.size W w') := fun W b => by
    refine (bfields_any neg ao n cap l W (R.below b) (by omega)).mono ?_
    rintro e w' ⟨vf, rfl, h1, h2⟩
    have hl : n + 1 = (bigL neg l).length := by rw [bigL_len, R.len]
    rw [hl] at h1
    have hge : ∀ b', vf.ownBlock = some b' → W.heap.size ≤ b' := fun b' e => (h1.lt b' e).1
    obtain ⟨af, cf, rfl, hu⟩ := urow_own h1 (bigL_u _ _)
    rw [hng, hm] at hu
    refine ⟨af, _, cf, rfl, by rw [hng, hm]; exact hu, fun a e => ?_, h2⟩
    have := hge a.block (by subst e; rfl)
    have := b.size
    omega
  have CA : Hid (∀ W (af : Option Addr) (nf cf : Nat), Below w.heap.size w W → URow W af nf cf (bigL (decide (z < 0)) (mg z.natAbs)) → (∀ a, af = some a → w.heap.size ≤ a.block) → Calls Tryz.prog 58 #[v, .int .i64 5, .slice af nf cf] W fun e w' => e = .returned (.tuple #[.int .u64 (allocM os N 5 (bigL (decide (z < 0)) (mg z.natAbs))).1, .int .i64 (allocM os N 5 (bigL (decide (z < 0)) (mg z.natAbs))).2]) ∧ PPost B v N F w (wordsL (allocO os N 5 (bigL (decide (z < 0)) (mg z.natAbs)))) w') := fun W af nf cf b U hge => by
    have hlen := U.len
    rw [bigL_len, ← hm, R.len] at hlen
    refine (palloc_any ho 5 (by unfold Z64; omega) af nf cf _ W (h.onb b) U (by have := b.size; omega) (fun a e hF => by have := (h.ge a.block hF).2; have := hge a e; omega) (by omega)).mono ?_
    rintro e w' ⟨rfl, hp⟩
    exact ⟨rfl, PPost.front b hp⟩
  have HS : Hid (∀ w', Below w.heap.size w w' → PPost B v N F w (wordsL os) w') := fun w' b => PPost.still h b
  have hLM : layM os N z = if fixB z = true then (wordR 1 z 0, 0) else allocM os N 5 (bigL (decide (z < 0)) (mg z.natAbs)) := rfl
  have hLO : layO os N z = if fixB z = true then os else allocO os N 5 (bigL (decide (z < 0)) (mg z.natAbs)) := rfl
  obtain ⟨gh, rfl⟩ := h.ptr
  obtain ⟨c0, c1, _⟩ := HC.out _ (Below.refl _ _)
  have C1 := hid (CG.out _ b0)
  obtain ⟨fb, hfb⟩ : ∃ b, b = fixB z := ⟨_, rfl⟩
  rw [← hfb] at CW hLM hLO
  rw [hLM, hLO]
  obtain ⟨a1, ha1⟩ : ∃ y, y = (allocM os N 5 (bigL (decide (z < 0)) (mg z.natAbs))).1 := ⟨_, rfl⟩
  obtain ⟨a2, ha2⟩ : ∃ y, y = (allocM os N 5 (bigL (decide (z < 0)) (mg z.natAbs))).2 := ⟨_, rfl⟩
  rw [← ha1, ← ha2] at CA
  have HA : Hid (allocM os N 5 (bigL (decide (z < 0)) (mg z.natAbs)) = (a1, a2)) := by rw [ha1, ha2]; rfl
  clear R g hxb b0 hfb hm hng hz h hx hn40 hLM hLO ha1 ha2 hB
  cases fb
  · go_enter Tryz.func27, Tryz.ntmps27
    go_wp2_with (first
      | (go_at_call 56; (with_reducible refine C1.out.mono ?_); rintro e W1 ⟨rfl, b1⟩; obtain ⟨d0, d1, b2⟩ := HC.out W1 b1; have HB1 := hid b1; have C2 := hid (CW.out W1 b2); clear c0 c1 b1 b2)
      | (go_at_call 57; (with_reducible refine C2.out.mono ?_); rintro e W2 ⟨x2, rfl, _, b3⟩; have b4 := HB1.out.trans (b3.mono HB1.out.size); obtain ⟨f0, f1, b5⟩ := HC.out W2 b4; have HB2 := hid b4; have C3 := hid (CF.out W2 b5); clear b3 b4 b5 d0 d1)
      | (go_at_call 59; (with_reducible refine C3.out.mono ?_); rintro e W3 ⟨af, nf, cf, rfl, hU, hge, b6⟩; have b7 := HB2.out.trans (b6.mono HB2.out.size); obtain ⟨_, _, b8⟩ := HC.out W3 b7; have C4 := hid (CA.out W3 af nf cf b8 hU hge); clear b6 b7 b8 hU hge)
      | (go_at_call 58; (with_reducible refine C4.out.mono ?_); rintro e W4 ⟨rfl, hp⟩; have HP := hid hp; clear hp))
    go_ret2
    refine ⟨?_, HP.out⟩
    rw [HA.out]; rfl
  · go_enter Tryz.func27, Tryz.ntmps27
    go_wp2_with (first
      | (go_at_call 56; (with_reducible refine C1.out.mono ?_); rintro e W1 ⟨rfl, b1⟩; obtain ⟨d0, d1, b2⟩ := HC.out W1 b1; have HB1 := hid b1; have C2 := hid (CW.out W1 b2); clear c0 c1 b1 b2)
      | (go_at_call 57; (with_reducible refine C2.out.mono ?_); rintro e W2 ⟨x2, rfl, hx2, b3⟩; have b4 := HB1.out.trans (b3.mono HB1.out.size); obtain ⟨_, _, b5⟩ := HC.out W2 b4; have HB2 := hid b5; have HX2 := hid (hx2 (by trivial)); clear b3 b4 b5 hx2 d0 d1))
    go_ret2
    refine ⟨?_, HS.out _ HB2.out⟩
    rw [HX2.out]; rfl
end
end Go.Proofs.YtdekkieajffblaaGreat
