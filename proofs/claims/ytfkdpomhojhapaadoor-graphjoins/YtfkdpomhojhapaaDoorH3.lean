/-
  Walks: moved, movedNode.
-/
import Derived.Test.YtfkdpomhojhapaaDoorG19
set_option linter.unusedVariables false
set_option linter.unusedSimpArgs false
set_option maxRecDepth 100000
namespace Go.Proofs.YtfkdpomhojhapaaDoor
open Go.RowKit

/-- Places further on. -/
def movedL (k : Int) (l : List Int) : List Int := l.map (· + k)
theorem movedL_snoc (k : Int) {l : List Int} {m : Nat} (h : m < l.length) : movedL k (l.take (m + 1)) = movedL k (l.take m) ++ [l.getD m 0 + k] := by
  unfold movedL
  rw [List.take_succ_eq_append_getElem h, List.map_append, List.getD_eq_getElem?_getD, List.getElem?_eq_getElem h]; rfl

set_option maxHeartbeats 2000000 in
theorem moved_any (ao : Option Addr) (n cap : Nat) (l : List Int) (k : Int) (w : World) (R : IRow w ao n cap l) (hr : ∀ z ∈ l, -1099511627776 ≤ z ∧ z ≤ 1099511627776) (hk : 0 ≤ k ∧ k ≤ 1000) (hn : n ≤ 1000) :
    Calls Tryd.prog 14 #[.slice ao n cap, .int .i64 k] w fun e w' => ∃ v, e = .returned v ∧ w'.ownsRow w.heap.size 3 1 v n (cz (movedL k l)) ∧ Below w.heap.size w w' := by
  have HR := hid R
  have HRN := hid hr
  have hf := R.fits
  have hm := R.most
  unfold maxLen at hm
  obtain ⟨hk1, hk2⟩ := hk
  clear R hr
  go_enter Tryd.func14, Tryd.ntmps14
  go_wp2_with fail
  go_loopw [5, 10] (fun v i wr => ∃ m : Nat, m ≤ n ∧ i = .int .i64 m ∧ Hid (wr.ownsRow w.heap.size 3 1 v m (cz (movedL k (l.take m))) ∧ Below w.heap.size w wr)) (fun _ i _ => n - (intOf i).toNat)
  case atStart => exact ⟨0, Nat.zero_le _, rfl, by simpa [movedL, cz] using World.ownsRow_nil _ _ _ _, Below.refl _ _⟩
  case round =>
    obtain ⟨m, hmn, rfl, hI⟩ := hrel
    have hbw := hI.out.2
    by_cases hlt : m < n
    · obtain ⟨b, o, rfl, hl, hc⟩ := HR.out.some (by omega)
      have hml : m < l.length := by rw [HR.out.len]; exact hlt
      obtain ⟨z, hz⟩ : ∃ z, z = l.getD m 0 := ⟨_, rfl⟩
      have hzr := HRN.out z (by rw [hz, List.getD_eq_getElem?_getD, List.getElem?_eq_getElem hml]; exact List.getElem_mem hml)
      have hc1 : wr.cell? ⟨b, o + m, none⟩ = some (.int .i64 z) := by
        rw [hz]; exact (hbw.cell (p := ⟨b, o + m, none⟩) hl).trans (hc m hlt)
      have hst : Hid (movedL k (l.take (m + 1)) = movedL k (l.take m) ++ [z + k]) := by unfold Hid; rw [hz]; exact movedL_snoc k hml
      have HOA : Hid (∀ ox, (wr.alloc ox).ownsRow w.heap.size 3 1 u5 m (cz (movedL k (l.take m)))) := fun ox => hI.out.1.alloc ox
      have HBW := hid hbw
      have hsz : Hid (w.heap.size ≤ wr.heap.size) := hbw.size
      have HOW := hid hI.out.1
      obtain ⟨hz1, hz2⟩ := hzr
      clear hc hz hbw hI
      go_wp2_with (at_builtin; refine appz rfl _ _ 23 rfl w.heap.size 3 Tryd.underlying23 info_int _ _ (movedL k (l.take m)) rfl (HOA.out _) ⟨wr.heap.size, 0, none⟩ 1 (z + k) rfl ?c0 (by omega) (by have := hsz.out; simp; omega) ?_; rotate_right; intro g2 cap2 w4 hown hgrow hloc hglt)
      case c0 => exact cell_new wr (.int .i64 (z + k)) 3
      rw [← hst.out] at hown
      have hb2 : Below w.heap.size (wr.alloc (.cells #[.int .i64 (z + k)] 3)) w4 := (Below.refl _ _).grown hgrow (by have := hsz.out; rw [size_alloc]; omega) (fun k hk => (HOW.out.lt k hk).1)
      exact ⟨⟨m + 1, by omega, by go_num, hown, ((HBW.out.trans ((Ba wr _).mono hsz.out)).trans hb2)⟩, by simp [intOf] <;> omega⟩
    · obtain rfl : m = n := by omega
      obtain ⟨h1, h2⟩ := hI.out
      rw [List.take_of_length_le (by rw [HR.out.len]; omega)] at h1
      have H1 := hid h1
      have H2 := hid h2
      clear h1 h2 hI hbw
      go_wp2_with fail
      go_ret
      exact ⟨_, rfl, H1.out, H2.out⟩

theorem store4 {w : World} {g : Nat} {a b c d v1 v2 v3 v4 : Value} {t : TypeId} (h : w.heap[g]? = some (.cells #[a, b, c, d] t (0, 0))) : ((((w.setCell ⟨g, 0, none⟩ v1).setCell ⟨g, 1, none⟩ v2).setCell ⟨g, 2, none⟩ v3).setCell ⟨g, 3, none⟩ v4).heap[g]? = some (.cells #[v1, v2, v3, v4] t (0, 0)) := by
  have h1 := blk_set (i := 0) h v1
  have h2 := blk_set (i := 1) h1 v2
  have h3 := blk_set (i := 2) h2 v3
  have h4 := blk_set (i := 3) h3 v4
  rw [h4]; rfl
theorem store4_far {w : World} {g b : Nat} {v1 v2 v3 v4 : Value} (h : b ≠ g) : ((((w.setCell ⟨g, 0, none⟩ v1).setCell ⟨g, 1, none⟩ v2).setCell ⟨g, 2, none⟩ v3).setCell ⟨g, 3, none⟩ v4).heap[b]? = w.heap[b]? :=
  (Below.heap_setCell _ _ _ _ h).trans ((Below.heap_setCell _ _ _ _ h).trans ((Below.heap_setCell _ _ _ _ h).trans (Below.heap_setCell _ _ _ _ h)))
theorem store4_below {n : Nat} {w0 w : World} {g : Nat} {v1 v2 v3 v4 : Value} (h : Below n w0 w) (hg : n ≤ g) : Below n w0 ((((w.setCell ⟨g, 0, none⟩ v1).setCell ⟨g, 1, none⟩ v2).setCell ⟨g, 2, none⟩ v3).setCell ⟨g, 3, none⟩ v4) :=
  (((h.setCell (p := ⟨g, 0, none⟩) hg _).setCell (p := ⟨g, 1, none⟩) hg _).setCell (p := ⟨g, 2, none⟩) hg _).setCell (p := ⟨g, 3, none⟩) hg _
theorem owns_lower {w : World} {B B' : Nat} {e : TypeId} {k : Nat} {v : Value} {n : Nat} {xs : List Value} (h : w.ownsRow B e k v n xs) (hb : B' ≤ B) : w.ownsRow B' e k v n xs := by
  refine ⟨h.1, ?_⟩
  rcases h.2 with h0 | ⟨g, cap, cur, h1, h2, h3⟩
  · exact .inl h0
  · exact .inr ⟨g, cap, cur, h1, Nat.le_trans hb h2, h3⟩

set_option maxHeartbeats 2000000 in
theorem movedNode_any (dk dn : Int) (dt : ByteArray) (ak : Option Addr) (nk ck : Nat) (dl : List Int) (k : Int) (w : World) (R : IRow w ak nk ck dl) (hr : ∀ z ∈ dl, -1099511627776 ≤ z ∧ z ≤ 1099511627776) (hk : 0 ≤ k ∧ k ≤ 1000) (hn : nk ≤ 1000) :
    Calls Tryd.prog 13 #[.agg #[.int .i64 dk, .int .i64 dn, .string dt, .slice ak nk ck], .int .i64 k] w fun e w' => ∃ ak' ck', e = .returned (.agg #[.int .i64 dk, .int .i64 dn, .string dt, .slice ak' nk ck']) ∧ w'.ownsRow w.heap.size 3 1 (.slice ak' nk ck') nk (cz (movedL k dl)) ∧ Below w.heap.size w w' := by
  have HR := hid R
  have HRN := hid hr
  have HKK := hid hk
  clear R hr hk
  go_enter Tryd.func13, Tryd.ntmps13
  go_wp2_with fail
  have bA := Baa w (.cells #[.int .i64 dk, .int .i64 dn, .string dt, .slice ak nk ck] 32) (.cells #[.int .i64 0, .int .i64 0, .string ⟨#[]⟩, .slice none 0 0] 32)
  have p1 := (Ba (w.alloc (.cells #[.int .i64 dk, .int .i64 dn, .string dt, .slice ak nk ck] 32)) (.cells #[.int .i64 0, .int .i64 0, .string ⟨#[]⟩, .slice none 0 0] 32)).block w.heap.size (by rw [size_alloc]; omega) |>.trans (heap_alloc_new w (.cells #[.int .i64 dk, .int .i64 dn, .string dt, .slice ak nk ck] 32))
  have p2 := heap_alloc2_new w (.cells #[.int .i64 dk, .int .i64 dn, .string dt, .slice ak nk ck] 32) (.cells #[.int .i64 0, .int .i64 0, .string ⟨#[]⟩, .slice none 0 0] 32)
  have hsz : ((w.alloc (.cells #[.int .i64 dk, .int .i64 dn, .string dt, .slice ak nk ck] 32)).alloc (.cells #[.int .i64 0, .int .i64 0, .string ⟨#[]⟩, .slice none 0 0] 32)).heap.size = w.heap.size + 1 + 1 := by rw [size_alloc, size_alloc]
  generalize (w.alloc (.cells #[.int .i64 dk, .int .i64 dn, .string dt, .slice ak nk ck] 32)).alloc (.cells #[.int .i64 0, .int .i64 0, .string ⟨#[]⟩, .slice none 0 0] 32) = W1 at *
  obtain ⟨gb, hgb⟩ : ∃ g, g = w.heap.size := ⟨_, rfl⟩
  obtain ⟨gr, hgr⟩ : ∃ g, g = w.heap.size + 1 := ⟨_, rfl⟩
  rw [← hgb] at p1
  rw [← hgr] at p2
  rw [← hgr, ← hgb]
  refine (moved_any ak nk ck dl k W1 (HR.out.below bA) HRN.out HKK.out hn).mono ?_
  rintro e w3 ⟨v, rfl, hown3, b3⟩
  obtain ⟨ak', ck', rfl⟩ : ∃ ak' ck', v = .slice ak' nk ck' := by
    rcases hown3.2 with ⟨h, h0⟩ | ⟨g, cap, cur, h, _⟩
    · subst h0; exact ⟨_, _, h⟩
    · exact ⟨_, _, h⟩
  have q1 := (b3.block gb (by omega)).trans p1
  have q2 := (b3.block gr (by omega)).trans p2
  have f3 : w3.frozen? ⟨gb, 3, none⟩ = false := blk_free q1 3
  have c3 : w3.cell? ⟨gb, 3, none⟩ = some (.slice ak nk ck) := blk_cell q1 3
  have r1 : (w3.setCell ⟨gb, 3, none⟩ (.slice ak' nk ck')).heap[gb]? = some (.cells #[.int .i64 dk, .int .i64 dn, .string dt, .slice ak' nk ck'] 32 (0, 0)) := by
    have := blk_set (i := 3) q1 (.slice ak' nk ck'); rw [this]; rfl
  have r2 : (w3.setCell ⟨gb, 3, none⟩ (.slice ak' nk ck')).heap[gr]? = some (.cells #[.int .i64 0, .int .i64 0, .string ⟨#[]⟩, .slice none 0 0] 32 (0, 0)) := (Below.heap_setCell _ _ _ _ (by show gr ≠ gb; omega)).trans q2
  have d0 : (w3.setCell ⟨gb, 3, none⟩ (.slice ak' nk ck')).cell? ⟨gb, 0, none⟩ = some (.int .i64 dk) := blk_cell r1 0
  have d1 : (w3.setCell ⟨gb, 3, none⟩ (.slice ak' nk ck')).cell? ⟨gb, 1, none⟩ = some (.int .i64 dn) := blk_cell r1 1
  have d2 : (w3.setCell ⟨gb, 3, none⟩ (.slice ak' nk ck')).cell? ⟨gb, 2, none⟩ = some (.string dt) := blk_cell r1 2
  have d3 : (w3.setCell ⟨gb, 3, none⟩ (.slice ak' nk ck')).cell? ⟨gb, 3, none⟩ = some (.slice ak' nk ck') := blk_cell r1 3
  have g0 : (w3.setCell ⟨gb, 3, none⟩ (.slice ak' nk ck')).cell? ⟨gr, 0, none⟩ = some (.int .i64 0) := blk_cell r2 0
  have g1 : (w3.setCell ⟨gb, 3, none⟩ (.slice ak' nk ck')).cell? ⟨gr, 1, none⟩ = some (.int .i64 0) := blk_cell r2 1
  have g2 : (w3.setCell ⟨gb, 3, none⟩ (.slice ak' nk ck')).cell? ⟨gr, 2, none⟩ = some (.string ⟨#[]⟩) := blk_cell r2 2
  have g3 : (w3.setCell ⟨gb, 3, none⟩ (.slice ak' nk ck')).cell? ⟨gr, 3, none⟩ = some (.slice none 0 0) := blk_cell r2 3
  have h0 : (w3.setCell ⟨gb, 3, none⟩ (.slice ak' nk ck')).frozen? ⟨gr, 0, none⟩ = false := blk_free r2 0
  have h1 : (w3.setCell ⟨gb, 3, none⟩ (.slice ak' nk ck')).frozen? ⟨gr, 1, none⟩ = false := blk_free r2 1
  have h2 : (w3.setCell ⟨gb, 3, none⟩ (.slice ak' nk ck')).frozen? ⟨gr, 2, none⟩ = false := blk_free r2 2
  have h3 : (w3.setCell ⟨gb, 3, none⟩ (.slice ak' nk ck')).frozen? ⟨gr, 3, none⟩ = false := blk_free r2 3
  have hlo : Hid (gb ≠ gr ∧ w.heap.size ≤ gb ∧ w.heap.size ≤ gr ∧ gb < W1.heap.size ∧ gr < W1.heap.size) := by refine ⟨?_, ?_, ?_, ?_, ?_⟩ <;> omega
  have hgne : gb ≠ gr := hlo.out.1
  have HR2 := hid r2
  have HO3 := hid hown3
  have HB3 := hid (Bt bA b3)
  clear hgb hgr hsz p1 p2 q1 q2 r1 r2 hown3 b3 bA
  go_wp2_with fail
  have hst := store4 (v1 := .int .i64 dk) (v2 := .int .i64 dn) (v3 := .string dt) (v4 := .slice ak' nk ck') HR2.out
  have t0 := blk_cell hst 0
  have t1 := blk_cell hst 1
  have t2 := blk_cell hst 2
  have t3 := blk_cell hst 3
  clear d0 d1 d2 d3 g0 g1 g2 g3 h0 h1 h2 h3 f3 c3
  (try simp only [Exit.inBlock, Exit.then]); refine bodyPost_ret (by simp [results, Tryd.results13, go_sem, t0, t1, t2, t3]; rfl) rfl ?_
  refine ⟨ak', ck', rfl, ?_, ?_⟩
  · refine owns_lower (owns_frame HO3.out (fun b hb => ?_)) (by have := hlo.out; omega)
    have := (HO3.out.lt b hb).1
    have := hlo.out
    exact (store4_far (by omega)).trans (Below.heap_setCell _ _ _ _ (by show b ≠ gb; omega))
  · exact store4_below (HB3.out.setCell (p := ⟨gb, 3, none⟩) hlo.out.2.1 _) hlo.out.2.2.1
end Go.Proofs.YtfkdpomhojhapaaDoor
