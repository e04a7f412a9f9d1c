/-
  awake of layer 2.
-/
import Derived.Test.YtfkdpomhojhapaaDoorG20
set_option linter.unusedVariables false
set_option linter.unusedSimpArgs false
namespace Go.Proofs.YtfkdpomhojhapaaDoor
open Go.RowKit

def five : Nd := ⟨3, 0, ⟨#[53]⟩, []⟩
def text0 : Nd := ⟨5, 0, ⟨#[]⟩, []⟩
def pair01 : Nd := ⟨7, 0, ⟨#[]⟩, [0, 1]⟩
def lensA (q : List Nd × List Int) : Nat × Nat := (q.1.length, q.2.length)
theorem evA : lensA (canonG [five, five] [1, 0] 201) = (1, 2) := by kernel_rfl
theorem evB : lensA (canonG [text0, text0] [1, 0] 201) = (2, 2) := by kernel_rfl
theorem evC : lensA (canonG [five, pair01] [1] 201) = (2, 1) := by kernel_rfl
theorem evC2 : ((canonG [five, pair01] [1] 201).1.getD 0 default).kids = [1, 0] := by kernel_rfl
theorem own_lit {w : World} {g n k : Nat} {e : TypeId} {cs : Array Value} {xs : List Value} (h : w.heap[g]? = some (.cells cs e (0, 0))) (hx : cs.toList = xs) (hk : xs.length = n * k) (hn : n ≤ 1000) (base : Nat) (hb : base ≤ g) : w.ownsRow base e k (.slice (some ⟨g, 0, none⟩) n n) n xs := by
  refine ⟨hk, .inr ⟨g, n, cs, rfl, hb, h, Nat.le_refl _, by unfold maxLen; omega, ?_, ?_⟩⟩
  · rw [← Array.length_toList, hx, hk]
  · rw [hx, List.take_of_length_le (by omega)]
theorem lit_nodes {w : World} {g n : Nat} {cs : Array Value} {l : List (Nd × (Option Addr × Nat × Nat))} (h : w.heap[g]? = some (.cells cs 32 (0, 0))) (hx : cs.toList = ncs l) (hl : l.length = n) (hn : n ≤ 1000) (hk : ∀ x ∈ l, IRow w x.2.1 x.2.2.1 x.2.2.2 x.1.kids ∧ (∀ ad, x.2.1 = some ad → ad.block < g ∧ ad.block < w.heap.size)) (ho : ∀ x ∈ l, NdOk x.1) :
    NRow w (some ⟨g, 0, none⟩) n n (l.map Prod.fst) := by
  subst hl
  have ho' : NOwn 0 w (.slice (some ⟨g, 0, none⟩) l.length l.length) l := ⟨own_lit h hx (ncs_length l) hn 0 (Nat.zero_le _), fun x hx => ⟨(hk x hx).1, fun ad had => ⟨Nat.zero_le _, ((hk x hx).2 ad had).2, fun e => by have := ((hk x hx).2 ad had).1; have : g = ad.block := Option.some.inj e; omega⟩⟩, ho⟩
  obtain ⟨ao, cap, e, hr⟩ := ho'.row
  cases e
  exact hr
theorem lit_ints {w : World} {g n : Nat} {cs : Array Value} {l : List Int} (h : w.heap[g]? = some (.cells cs 3 (0, 0))) (hx : cs.toList = cz l) (hl : l.length = n) (hn : n ≤ 1000) (hb : ∀ z ∈ l, I64 z) : IRow w (some ⟨g, 0, none⟩) n n l := by
  subst hl
  obtain ⟨ao, cap, e, hr⟩ := irow_of (own_lit h hx (by rw [cz_length]; omega) hn 0 (Nat.zero_le _)) hb
  cases e
  exact hr
theorem two_new (w : World) (o1 o2 : Obj) : ((w.alloc o1).alloc o2).heap[w.heap.size]? = some o1 ∧ ((w.alloc o1).alloc o2).heap[w.heap.size + 1]? = some o2 := by
  refine ⟨?_, heap_alloc2_new w o1 o2⟩
  exact ((Ba (w.alloc o1) o2).block _ (by rw [size_alloc]; omega)).trans (heap_alloc_new _ _)
theorem small2 (a b : Nd) (ha : a.text.size ≤ 2000 ∧ a.kids.length ≤ 100) (hb : b.text.size ≤ 2000 ∧ b.kids.length ≤ 100) : smallG [a, b] ∧ ∀ d ∈ [a, b], d.kids.length ≤ 100 := by
  refine ⟨fun d hd => ?_, fun d hd => ?_⟩ <;> (simp at hd; rcases hd with rfl | rfl <;> omega)

theorem five_small : five.text.size ≤ 2000 ∧ five.kids.length ≤ 100 := by decide
theorem text_small : text0.text.size ≤ 2000 ∧ text0.kids.length ≤ 100 := by decide
theorem pair_small : pair01.text.size ≤ 2000 ∧ pair01.kids.length ≤ 100 := by decide
theorem five_ok : NdOk five := by unfold NdOk five I64 maxLen; decide
theorem text_ok : NdOk text0 := by unfold NdOk text0 I64 maxLen; decide
theorem pair_ok : NdOk pair01 := by unfold NdOk pair01 I64 maxLen; decide
theorem ok2 (a b : Nd) {x y : Option Addr × Nat × Nat} (ha : NdOk a) (hb : NdOk b) : ∀ z ∈ [(a, x), (b, y)], NdOk z.1 := by
  intro z hz; simp at hz; rcases hz with rfl | rfl <;> assumption
theorem ok10 : ∀ z ∈ ([1, 0] : List Int), I64 z := by intro z hz; simp at hz; unfold I64; omega
theorem ok01 : ∀ z ∈ ([0, 1] : List Int), I64 z := by intro z hz; simp at hz; unfold I64; omega
theorem ok1 : ∀ z ∈ ([1] : List Int), I64 z := by intro z hz; simp at hz; unfold I64; omega
theorem lit_nil (h : ∀ w' : World, IRow w' none 0 0 []) (w : World) (g : Nat) (a : Nd) (ha : a.kids = []) {b : Nd} (hb : b.kids = []) : ∀ x ∈ [(a, ((none : Option Addr), 0, 0)), (b, none, 0, 0)], IRow w x.2.1 x.2.2.1 x.2.2.2 x.1.kids ∧ (∀ ad, x.2.1 = some ad → ad.block < g ∧ ad.block < w.heap.size) := by
  intro x hx; simp at hx; rcases hx with rfl | rfl
  · exact ⟨by rw [ha]; exact h w, fun ad had => (by cases had)⟩
  · exact ⟨by rw [hb]; exact h w, fun ad had => (by cases had)⟩

theorem lit_one (h : ∀ w' : World, IRow w' none 0 0 []) {w : World} {g k : Nat} (hk : IRow w (some ⟨k, 0, none⟩) 2 2 [0, 1]) (hg : k < g) (hw : k < w.heap.size) : ∀ x ∈ [(five, ((none : Option Addr), 0, 0)), (pair01, some ⟨k, 0, none⟩, 2, 2)], IRow w x.2.1 x.2.2.1 x.2.2.2 x.1.kids ∧ (∀ ad, x.2.1 = some ad → ad.block < g ∧ ad.block < w.heap.size) := by
  intro x hx; simp at hx; rcases hx with rfl | rfl
  · exact ⟨h w, fun ad had => (by cases had)⟩
  · exact ⟨hk, fun ad had => (by cases had; exact ⟨hg, hw⟩)⟩

set_option maxHeartbeats 4000000 in
theorem wakes_any (w : World) (hT : Tabs w) :
    Calls Tryd.prog 11 #[] w fun e w' => e = .returned (.bool true) ∧ Below w.heap.size w w' := by
  have HT := hid hT
  clear hT
  go_enter Tryd.func11, Tryd.ntmps11
  go_wp2_with fail
  have b0 := Baa w (.cells #[.int .i64 3, .int .i64 0, .string ⟨#[53]⟩, .slice none 0 0] 32) (.cells #[.int .i64 5, .int .i64 0, .string ⟨#[]⟩, .slice none 0 0] 32)
  obtain ⟨x1, x2⟩ := two_new w (.cells #[.int .i64 3, .int .i64 0, .string ⟨#[53]⟩, .slice none 0 0] 32) (.cells #[.int .i64 5, .int .i64 0, .string ⟨#[]⟩, .slice none 0 0] 32)
  have hs0 : ((w.alloc (.cells #[.int .i64 3, .int .i64 0, .string ⟨#[53]⟩, .slice none 0 0] 32)).alloc (.cells #[.int .i64 5, .int .i64 0, .string ⟨#[]⟩, .slice none 0 0] 32)).heap.size = w.heap.size + 1 + 1 := by rw [size_alloc, size_alloc]
  rw [← hs0]
  generalize (w.alloc (.cells #[.int .i64 3, .int .i64 0, .string ⟨#[53]⟩, .slice none 0 0] 32)).alloc (.cells #[.int .i64 5, .int .i64 0, .string ⟨#[]⟩, .slice none 0 0] 32) = W1 at *
  have nil_ok : ∀ (w' : World), IRow w' none 0 0 [] := fun w' => IRow.nil w' none
  have HNIL := hid nil_ok
  clear nil_ok
  obtain ⟨gf, hgf⟩ : ∃ g, g = w.heap.size := ⟨_, rfl⟩
  obtain ⟨gt, hgt⟩ : ∃ g, g = w.heap.size + 1 := ⟨_, rfl⟩
  rw [← hgf] at x1
  rw [← hgt] at x2
  rw [← hgt, ← hgf]
  have hlo : Hid (gf < W1.heap.size ∧ gt < W1.heap.size) := by unfold Hid; omega
  have X1 := hid x1
  have X2 := hid x2
  have HB0 := hid b0
  clear x1 x2 b0 hgf hgt hs0
  -- the first graph
  have bA := Baa W1 (.cells #[.int .i64 3, .int .i64 0, .string ⟨#[53]⟩, .slice none 0 0, .int .i64 3, .int .i64 0, .string ⟨#[53]⟩, .slice none 0 0] 32) (.cells #[.int .i64 1, .int .i64 0] 3)
  obtain ⟨p1, p2⟩ := two_new W1 (.cells #[.int .i64 3, .int .i64 0, .string ⟨#[53]⟩, .slice none 0 0, .int .i64 3, .int .i64 0, .string ⟨#[53]⟩, .slice none 0 0] 32) (.cells #[.int .i64 1, .int .i64 0] 3)
  have hsA : ((W1.alloc (.cells #[.int .i64 3, .int .i64 0, .string ⟨#[53]⟩, .slice none 0 0, .int .i64 3, .int .i64 0, .string ⟨#[53]⟩, .slice none 0 0] 32)).alloc (.cells #[.int .i64 1, .int .i64 0] 3)).heap.size = W1.heap.size + 1 + 1 := by rw [size_alloc, size_alloc]
  generalize (W1.alloc (.cells #[.int .i64 3, .int .i64 0, .string ⟨#[53]⟩, .slice none 0 0, .int .i64 3, .int .i64 0, .string ⟨#[53]⟩, .slice none 0 0] 32)).alloc (.cells #[.int .i64 1, .int .i64 0] 3) = W2 at *
  have GA : GIs W2 (some ⟨W1.heap.size, 0, none⟩) 2 2 (some ⟨W1.heap.size + 1, 0, none⟩) 2 2 [five, five] [1, 0] :=
    ⟨lit_nodes (l := [(five, none, 0, 0), (five, none, 0, 0)]) p1 rfl rfl (by omega) (lit_nil HNIL.out _ _ _ rfl rfl) (ok2 five five five_ok five_ok), lit_ints p2 rfl rfl (by omega) ok10⟩
  refine (canon_any _ _ 2 2 2 2 [five, five] [1, 0] W2 GA (small2 five five five_small five_small).1 (small2 five five five_small five_small).2 (by omega) (by omega) (HT.out.below (HB0.out.trans (bA.mono HB0.out.size))) 201 (by omega) (by omega)).mono ?_
  rintro e w2 ⟨a1, n1, c1, a2, n2, c2, rfl, hGA, bB⟩
  have l1 : 1 = n1 := (congrArg Prod.fst evA).symm.trans hGA.nodes.len
  have l2 : 2 = n2 := (congrArg Prod.snd evA).symm.trans hGA.roots.len
  subst l1 l2
  unfold GVal
  have hB2 := bA.trans (bB.mono bA.size)
  have HB2 := hid (HB0.out.trans (hB2.mono HB0.out.size))
  have X1' := hid ((hB2.block gf hlo.out.1).trans X1.out)
  have X2' := hid ((hB2.block gt hlo.out.2).trans X2.out)
  have hlo' : Hid (gf < w2.heap.size ∧ gt < w2.heap.size) := ⟨Nat.lt_of_lt_of_le hlo.out.1 hB2.size, Nat.lt_of_lt_of_le hlo.out.2 hB2.size⟩
  have t0 : ∀ ob, (w2.alloc ob).cell? ⟨gt, 0, none⟩ = some (.int .i64 5) := fun ob => (cell_old _ _ _ _ hlo'.out.2).trans (blk_cell X2'.out 0)
  have t1 : ∀ ob, (w2.alloc ob).cell? ⟨gt, 1, none⟩ = some (.int .i64 0) := fun ob => (cell_old _ _ _ _ hlo'.out.2).trans (blk_cell X2'.out 1)
  have t2 : ∀ ob, (w2.alloc ob).cell? ⟨gt, 2, none⟩ = some (.string ⟨#[]⟩) := fun ob => (cell_old _ _ _ _ hlo'.out.2).trans (blk_cell X2'.out 2)
  have t3 : ∀ ob, (w2.alloc ob).cell? ⟨gt, 3, none⟩ = some (.slice none 0 0) := fun ob => (cell_old _ _ _ _ hlo'.out.2).trans (blk_cell X2'.out 3)
  clear bA bB p1 p2 hsA GA hGA hB2 X1 X2 hlo
  go_wp2_with fail
  -- the second graph
  clear t0 t1 t2 t3
  have bX := Ba w2 (.cells #[.slice a1 1 c1, .slice a2 2 c2] 25)
  have y1 := GBox.new 25 w2 a1 a2 1 c1 2 c2
  rw [← size_alloc w2 (.cells #[.slice a1 1 c1, .slice a2 2 c2] 25)]
  obtain ⟨ga, hga⟩ : ∃ g, g = w2.heap.size := ⟨_, rfl⟩
  rw [← hga] at y1
  rw [← hga]
  clear hga
  generalize w2.alloc (.cells #[.slice a1 1 c1, .slice a2 2 c2] 25) = W3 at *
  have HX3 := hid bX
  have bA := Baa W3 (.cells #[.int .i64 5, .int .i64 0, .string ⟨#[]⟩, .slice none 0 0, .int .i64 5, .int .i64 0, .string ⟨#[]⟩, .slice none 0 0] 32) (.cells #[.int .i64 1, .int .i64 0] 3)
  obtain ⟨p1, p2⟩ := two_new W3 (.cells #[.int .i64 5, .int .i64 0, .string ⟨#[]⟩, .slice none 0 0, .int .i64 5, .int .i64 0, .string ⟨#[]⟩, .slice none 0 0] 32) (.cells #[.int .i64 1, .int .i64 0] 3)
  generalize (W3.alloc (.cells #[.int .i64 5, .int .i64 0, .string ⟨#[]⟩, .slice none 0 0, .int .i64 5, .int .i64 0, .string ⟨#[]⟩, .slice none 0 0] 32)).alloc (.cells #[.int .i64 1, .int .i64 0] 3) = W4 at *
  have GA : GIs W4 (some ⟨W3.heap.size, 0, none⟩) 2 2 (some ⟨W3.heap.size + 1, 0, none⟩) 2 2 [text0, text0] [1, 0] :=
    ⟨lit_nodes (l := [(text0, none, 0, 0), (text0, none, 0, 0)]) p1 rfl rfl (by omega) (lit_nil HNIL.out _ _ _ rfl rfl) (ok2 text0 text0 text_ok text_ok), lit_ints p2 rfl rfl (by omega) ok10⟩
  have b04 : Below w.heap.size w W4 := (HB2.out.trans (bX.mono HB2.out.size)).trans (bA.mono (Nat.le_trans HB2.out.size bX.size))
  refine (canon_any _ _ 2 2 2 2 [text0, text0] [1, 0] W4 GA (small2 text0 text0 text_small text_small).1 (small2 text0 text0 text_small text_small).2 (by omega) (by omega) (HT.out.below b04) 201 (by omega) (by omega)).mono ?_
  rintro e w4 ⟨d1, n1, e1, d2, n2, e2, rfl, hGA, bB⟩
  have l1 : 2 = n1 := (congrArg Prod.fst evB).symm.trans hGA.nodes.len
  have l2 : 2 = n2 := (congrArg Prod.snd evB).symm.trans hGA.roots.len
  subst l1 l2
  unfold GVal
  have hB4 := bA.trans (bB.mono bA.size)
  have HB4 := hid (b04.trans (bB.mono b04.size))
  have X3 := hid ((hB4.block gf (Nat.lt_of_lt_of_le hlo'.out.1 bX.size)).trans ((bX.block gf hlo'.out.1).trans X1'.out))
  have YA := hid (y1.on hB4)
  have hlo4 : Hid (gf < w4.heap.size ∧ ga < w4.heap.size) := ⟨(Array.getElem?_eq_some_iff.1 X3.out).1, YA.out.lt⟩
  have t0 : ∀ ob, (w4.alloc ob).cell? ⟨gf, 0, none⟩ = some (.int .i64 3) := fun ob => (cell_old _ _ _ _ hlo4.out.1).trans (blk_cell X3.out 0)
  have t1 : ∀ ob, (w4.alloc ob).cell? ⟨gf, 1, none⟩ = some (.int .i64 0) := fun ob => (cell_old _ _ _ _ hlo4.out.1).trans (blk_cell X3.out 1)
  have t2 : ∀ ob, (w4.alloc ob).cell? ⟨gf, 2, none⟩ = some (.string ⟨#[53]⟩) := fun ob => (cell_old _ _ _ _ hlo4.out.1).trans (blk_cell X3.out 2)
  have t3 : ∀ ob, (w4.alloc ob).cell? ⟨gf, 3, none⟩ = some (.slice none 0 0) := fun ob => (cell_old _ _ _ _ hlo4.out.1).trans (blk_cell X3.out 3)
  clear bA bB p1 p2 GA hGA hB4 X1' X2' hlo' bX y1 b04 HX3
  go_wp2_with fail
  -- the third graph
  clear t0 t1 t2 t3
  have bX := Ba w4 (.cells #[.slice d1 2 e1, .slice d2 2 e2] 25)
  have y2 := GBox.new 25 w4 d1 d2 2 e1 2 e2
  have y1 := YA.out.on bX
  rw [← size_alloc w4 (.cells #[.slice d1 2 e1, .slice d2 2 e2] 25)]
  obtain ⟨gb, hgb⟩ : ∃ g, g = w4.heap.size := ⟨_, rfl⟩
  rw [← hgb] at y2
  rw [← hgb]
  clear hgb
  generalize w4.alloc (.cells #[.slice d1 2 e1, .slice d2 2 e2] 25) = W5 at *
  have bK := Ba W5 (.cells #[.int .i64 0, .int .i64 1] 3)
  have kb := blk_new W5 #[.int .i64 0, .int .i64 1] 3
  rw [← size_alloc W5 (.cells #[.int .i64 0, .int .i64 1] 3)]
  have hs6 := size_alloc W5 (.cells #[.int .i64 0, .int .i64 1] 3)
  generalize W5.alloc (.cells #[.int .i64 0, .int .i64 1] 3) = W6 at *
  have bA := Baa W6 (.cells #[.int .i64 3, .int .i64 0, .string ⟨#[53]⟩, .slice none 0 0, .int .i64 7, .int .i64 0, .string ⟨#[]⟩, .slice (some ⟨W5.heap.size, 0, none⟩) 2 2] 32) (.cells #[.int .i64 1] 3)
  obtain ⟨p1, p2⟩ := two_new W6 (.cells #[.int .i64 3, .int .i64 0, .string ⟨#[53]⟩, .slice none 0 0, .int .i64 7, .int .i64 0, .string ⟨#[]⟩, .slice (some ⟨W5.heap.size, 0, none⟩) 2 2] 32) (.cells #[.int .i64 1] 3)
  have hs7 : ((W6.alloc (.cells #[.int .i64 3, .int .i64 0, .string ⟨#[53]⟩, .slice none 0 0, .int .i64 7, .int .i64 0, .string ⟨#[]⟩, .slice (some ⟨W5.heap.size, 0, none⟩) 2 2] 32)).alloc (.cells #[.int .i64 1] 3)).heap.size = W6.heap.size + 1 + 1 := by rw [size_alloc, size_alloc]
  generalize (W6.alloc (.cells #[.int .i64 3, .int .i64 0, .string ⟨#[53]⟩, .slice none 0 0, .int .i64 7, .int .i64 0, .string ⟨#[]⟩, .slice (some ⟨W5.heap.size, 0, none⟩) 2 2] 32)).alloc (.cells #[.int .i64 1] 3) = W7 at *
  have kI : IRow W7 (some ⟨W5.heap.size, 0, none⟩) 2 2 [0, 1] := (lit_ints (n := 2) kb rfl rfl (by omega) ok01).below bA
  have GA : GIs W7 (some ⟨W6.heap.size, 0, none⟩) 2 2 (some ⟨W6.heap.size + 1, 0, none⟩) 1 1 [five, pair01] [1] :=
    ⟨lit_nodes (l := [(five, none, 0, 0), (pair01, some ⟨W5.heap.size, 0, none⟩, 2, 2)]) p1 rfl rfl (by omega) (lit_one HNIL.out kI (by omega) (by omega)) (ok2 five pair01 five_ok pair_ok), lit_ints p2 rfl rfl (by omega) ok1⟩
  have b06 : Below w.heap.size w W6 := (HB4.out.trans (bX.mono HB4.out.size)).trans (bK.mono (Nat.le_trans HB4.out.size bX.size))
  have b07 : Below w.heap.size w W7 := b06.trans (bA.mono b06.size)
  refine (canon_any _ _ 2 2 1 1 [five, pair01] [1] W7 GA (small2 five pair01 five_small pair_small).1 (small2 five pair01 five_small pair_small).2 (by omega) (by omega) (HT.out.below b07) 201 (by omega) (by omega)).mono ?_
  rintro e w6 ⟨f1, n1, g1, f2, n2, g2, rfl, hGA, bB⟩
  have l1 : 2 = n1 := (congrArg Prod.fst evC).symm.trans hGA.nodes.len
  have l2 : 1 = n2 := (congrArg Prod.snd evC).symm.trans hGA.roots.len
  subst l1 l2
  unfold GVal
  obtain ⟨bn, on, rfl, hln, hnd⟩ := hGA.nodes.some (by omega)
  obtain ⟨_, _, _, ak, nk, ck, hk, hkI⟩ := hnd 0 (by omega)
  rw [evC2] at hkI
  have l3 : 2 = nk := hkI.len
  subst l3
  obtain ⟨bk, ok, rfl, hlk, hkc⟩ := hkI.some (by omega)
  have hk1 := hkc 1 (by omega)
  have hckl := hkI.fits
  have hckm := hkI.most
  have hg1l := hGA.nodes.fits
  have hg1m := hGA.nodes.most
  unfold maxLen at hckm hg1m
  have hB6 := (bK.trans (bA.mono bK.size)).trans (bB.mono (Nat.le_trans bK.size bA.size))
  have HB6 := hid (b07.trans (bB.mono b07.size))
  have z1 := y1.on hB6
  have z2 := y2.on hB6
  have q1 : ∀ ob, (w6.alloc ob).cell? ⟨ga, 0, none⟩ = some (.slice a1 1 c1) := fun ob => (cell_old _ _ _ _ z1.lt).trans z1.c.1
  have q2 : ∀ ob, (w6.alloc ob).cell? ⟨ga, 1, none⟩ = some (.slice a2 2 c2) := fun ob => (cell_old _ _ _ _ z1.lt).trans z1.c.2
  have q3 : ∀ ob, (w6.alloc ob).cell? ⟨gb, 0, none⟩ = some (.slice d1 2 e1) := fun ob => (cell_old _ _ _ _ z2.lt).trans z2.c.1
  have q4 : ∀ ob, (w6.alloc ob).cell? ⟨bn, on + 3, none⟩ = some (.slice (some ⟨bk, ok, none⟩) 2 ck) := fun ob => (cell_old _ _ _ _ hln).trans (by simpa using hk)
  have q5 : ∀ ob, (w6.alloc ob).cell? ⟨bk, ok + 1, none⟩ = some (.int .i64 0) := fun ob => (cell_old _ _ _ _ hlk).trans hk1
  clear bA bB bK p1 p2 GA hGA hB6 X3 hlo4 bX y1 y2 b06 b07 z1 z2 hk hkI hkc hk1 hnd YA kI kb hs6 hs7 hln hlk
  go_wp2_with fail
  go_ret
  exact ⟨rfl, HB6.out.trans ((Ba w6 _).mono HB6.out.size)⟩
end Go.Proofs.YtfkdpomhojhapaaDoor
