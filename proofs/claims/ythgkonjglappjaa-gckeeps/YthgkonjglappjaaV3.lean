/-
  Walks, of the document's heap: Set.
-/
import Derived.Test.YthgkonjglappjaaV2
set_option linter.unusedVariables false
set_option linter.unusedSimpArgs false
set_option maxRecDepth 100000
namespace Go.Proofs.Ythgkonjglappjaa
open Go.RowKit

/-- An object with one field set. -/
def setF (x : Ob) (j : Nat) (z : Int) : Ob := { x with f := x.f.set j z }
def setM (os : List Ob) (p kind i z : Int) : List Ob × Int :=
  if (fieldM os p kind i).2 ≠ 0 then (os, (fieldM os p kind i).2)
  else if (ofR z).1 = 8 then (os, 1)
  else (os.set (fieldM os p kind i).1.toNat (setF (os.getD (fieldM os p kind i).1.toNat default) i.toNat z), 0)
theorem uset {w : World} {base : Nat} {e : TypeId} {g n cap : Nat} {l : List Int} (h : w.ownsRow base e 1 (.slice (some ⟨g, 0, none⟩) n cap) n (uz l)) {k : Nat} (z : Int) : (w.setCell ⟨g, k, none⟩ (.int .u64 z)).ownsRow base e 1 (.slice (some ⟨g, 0, none⟩) n cap) n (uz (l.set k z)) := by
  have e1 : uz (l.set k z) = (uz l).set k (.int .u64 z) := by simp [uz, List.map_set]
  rw [e1]
  refine ⟨by rw [List.length_set]; exact h.1, ?_⟩
  rcases h.2 with ⟨h0, _⟩ | ⟨g', cap', cur, h1, h2, h3, h4, h5, h6, h7⟩
  · cases h0
  · cases h1
    refine .inr ⟨g, cap, cur.setIfInBounds k (.int .u64 z), rfl, h2, blk_set (i := k) h3 _, h4, h5, by simpa using h6, ?_⟩
    rw [← h7, Array.toList_setIfInBounds, List.take_set]
theorem ocs_set (y : Ob × Sl) : ∀ (l : List (Ob × Sl)) (a n : Nat), n < l.length → y.1.kind = (l.getD n default).1.kind → y.1.f.length = (l.getD n default).1.f.length → y.2 = (l.getD n default).2 → ocs a (l.set n y) = ocs a l
  | [], _, _, h, _, _, _ => by simp at h
  | x :: l, a, 0, _, h1, h2, h3 => by
    simp only [List.getD_cons_zero] at h1 h2 h3
    simp only [List.set_cons_zero, ocs, oc, h1, h2, h3]
  | x :: l, a, n + 1, h, h1, h2, h3 => by
    simp only [List.getD_cons_succ] at h1 h2 h3
    simp only [List.set_cons_succ, ocs]
    rw [ocs_set y l _ n (by simpa using h) h1 h2 h3]
theorem used_set (y : Ob) : ∀ (l : List Ob) (n : Nat), n < l.length → y.f.length = (l.getD n default).f.length → usedL (l.set n y) = usedL l
  | [], _, h, _ => by simp at h
  | x :: l, 0, _, h2 => by simp only [List.getD_cons_zero] at h2; simp only [List.set_cons_zero, usedL, h2]
  | x :: l, n + 1, h, h2 => by
    simp only [List.getD_cons_succ] at h2
    simp only [List.set_cons_succ, usedL]
    rw [used_set y l n (by simpa using h) h2]
section
variable {B g : Nat} {N : Int} {vL : Value} {ls : List (Ob × Sl)}
theorem mem_set_cases {α : Type} {l : List α} {n : Nat} {y x : α} (h : x ∈ l.set n y) : x = y ∨ ∃ m, ∃ hm : m < l.length, m ≠ n ∧ x = l[m] := by
  obtain ⟨m, hm, rfl⟩ := List.mem_iff_getElem.1 h
  rw [List.getElem_set]
  by_cases e : n = m
  · left; rw [if_pos e]
  · right; rw [if_neg e]; exact ⟨m, by simpa using hm, fun e' => e e'.symm, rfl⟩
/-- A field is set where it lies. -/
theorem RH.set {w : World} (h : RH B g N vL ls w) {n j : Nat} (hn : n < ls.length) {x : Ob × Sl} (hx : x = ls.getD n default) (hj : j < x.1.f.length) {gr cr : Nat} (hr : x.2.1 = some ⟨gr, 0, none⟩) {z : Int} (hz : U64 z) :
    RH B g N vL (ls.set n (setF x.1 j z, x.2)) (w.setCell ⟨gr, j, none⟩ (.int .u64 z)) ∧ (∀ b, RF g vL (ls.set n (setF x.1 j z, x.2)) b ↔ RF g vL ls b) := by
  have hmem : x ∈ ls := by rw [hx]; exact getD_in_ob hn
  have hxe : ls[n] = x := by rw [hx, List.getD_eq_getElem?_getD, List.getElem?_eq_getElem hn]; rfl
  have hao := h.ao x hmem _ hr
  have hsnd : (ls.set n (setF x.1 j z, x.2)).map Prod.snd = ls.map Prod.snd := by
    rw [List.map_set]
    have e : (ls.map Prod.snd)[n]'(by simpa using hn) = x.2 := by simp [hxe]
    simp only []
    rw [← e]
    exact List.set_getElem_self _
  have hset : ∀ y ∈ ls.set n (setF x.1 j z, x.2), ∃ y' ∈ ls, y.2 = y'.2 ∧ y.1.kind = y'.1.kind := fun y hy => by
    rcases mem_set_cases hy with rfl | ⟨m, hm, _, rfl⟩
    · exact ⟨x, hmem, rfl, rfl⟩
    · exact ⟨ls[m], List.getElem_mem hm, rfl, rfl⟩
  have hfoot : ∀ b, RF g vL (ls.set n (setF x.1 j z, x.2)) b ↔ RF g vL ls b := fun b => by
    have key : (∃ y ∈ ls.set n (setF x.1 j z, x.2), ∃ a, y.2.1 = some a ∧ a.block = b) ↔ (∃ y ∈ ls, ∃ a, y.2.1 = some a ∧ a.block = b) := by
      have e1 : ∀ l : List (Ob × Sl), (∃ y ∈ l, ∃ a, y.2.1 = some a ∧ a.block = b) ↔ (∃ s ∈ l.map Prod.snd, ∃ a, s.1 = some a ∧ a.block = b) := fun l => by
        constructor
        · rintro ⟨y, hy, a, ha⟩; exact ⟨y.2, List.mem_map.2 ⟨y, hy, rfl⟩, a, ha⟩
        · rintro ⟨s, hs, a, ha⟩; obtain ⟨y, hy, rfl⟩ := List.mem_map.1 hs; exact ⟨y, hy, a, ha⟩
      rw [e1, e1, hsnd]
    unfold RF; rw [key]
  refine ⟨⟨?_, ?_, ?_, ?_, ?_, h.gl, h.Bg, ?_, ?_, ?_⟩, hfoot⟩
  · exact (Below.heap_setCell w ⟨gr, j, none⟩ (.int .u64 z) g (fun e => hao.2 e.symm)).trans h.box
  · rw [List.length_set, ocs_set _ _ _ _ hn (by rw [← hx]; rfl) (by rw [← hx]; simp [setF]) (by rw [← hx])]
    exact own_at h.own (fun b e => Below.heap_setCell _ _ _ _ (fun e' => hao.1 (by rw [← e']; exact e)))
  · intro y hy
    rcases mem_set_cases hy with rfl | ⟨m, hm, hne, rfl⟩
    · obtain ⟨r1, r2⟩ := h.rows x hmem
      simp only [setF, List.length_set]
      rw [hr] at r1 ⊢
      rw [← r2] at r1 ⊢
      exact ⟨uset r1 z, rfl⟩
    · have hm' := List.getElem_mem hm
      refine ⟨own_at (h.rows _ hm').1 (fun b e => Below.heap_setCell _ _ _ _ (fun e' => ?_)), (h.rows _ hm').2⟩
      have ha : ∃ a : Addr, ls[m].2.1 = some a ∧ a.block = b := by
        cases e'' : ls[m].2.1 with
        | none => rw [e''] at e; cases e
        | some a => rw [e''] at e; exact ⟨a, rfl, by injection e⟩
      obtain ⟨a, ha1, ha2⟩ := ha
      have hp := List.pairwise_iff_getElem.1 h.apart
      rcases Nat.lt_or_gt_of_ne hne with hlt | hlt
      · have := hp m n hm hn hlt a ⟨gr, 0, none⟩ ha1 (by rw [hxe]; exact hr)
        exact this (ha2.trans e')
      · have := hp n m hn hm hlt ⟨gr, 0, none⟩ a (by rw [hxe]; exact hr) ha1
        exact this (ha2.trans e').symm
  · have e1 : ∀ l : List (Ob × Sl), l.Pairwise (fun x y => ∀ a a', x.2.1 = some a → y.2.1 = some a' → a.block ≠ a'.block) ↔ (l.map Prod.snd).Pairwise (fun x y => ∀ a a', x.1 = some a → y.1 = some a' → a.block ≠ a'.block) := fun l => by rw [List.pairwise_map]
    rw [e1, hsnd, ← e1]
    exact h.apart
  · intro y hy a ha
    obtain ⟨y', hy', e1, _⟩ := hset y hy
    exact h.ao y' hy' a (by rw [← e1]; exact ha)
  · intro y hy u hu
    rcases mem_set_cases hy with rfl | ⟨m, hm, _, rfl⟩
    · simp only [setF] at hu
      rcases List.mem_or_eq_of_mem_set hu with hu | rfl
      · exact h.uf x hmem u hu
      · exact hz
    · exact h.uf _ (List.getElem_mem hm) u hu
  · intro y hy
    obtain ⟨y', hy', _, e2⟩ := hset y hy
    rw [e2]; exact h.kd y' hy'
  · rw [List.map_set, used_set _ _ _ (by rw [List.length_map]; exact hn) (by rw [← getD_fst, ← hx]; simp [setF])]
    exact h.room

set_option maxHeartbeats 4000000 in
theorem rset_any (p kind i z : Int) (hp : U64 p) (hk : Z64 kind) (hi : Z64 i) (hz : U64 z) (w : World) (h : RH B g N vL ls w) :
    Calls Try.prog 34 #[.pointer (some ⟨g, 0, none⟩), .int .u64 p, .int .i64 kind, .int .i64 i, .int .u64 z] w fun e w' =>
      e = .returned (.int .i64 (setM (ls.map Prod.fst) p kind i z).2) ∧ ∃ ls', RH B g N vL ls' w' ∧ ls'.map Prod.fst = (setM (ls.map Prod.fst) p kind i z).1 ∧ (∀ b, RF g vL ls' b ↔ RF g vL ls b) ∧ Mod (RF g vL ls) w w' := by
  have H := hid h
  have C1 := hid (rfield_any p kind i hp hk hi w h)
  have C2 := hid (ishead_any z hz)
  unfold Z64 at hk hi
  clear h
  obtain ⟨a, ha⟩ : ∃ a, a = fieldM (ls.map Prod.fst) p kind i := ⟨_, rfl⟩
  have HG : Hid (setM (ls.map Prod.fst) p kind i z = if a.2 ≠ 0 then (ls.map Prod.fst, a.2) else if (ofR z).1 = 8 then (ls.map Prod.fst, 1) else ((ls.map Prod.fst).set a.1.toNat (setF ((ls.map Prod.fst).getD a.1.toNat default) i.toNat z), 0)) := by unfold Hid setM; rw [ha]
  rw [← ha] at C1
  by_cases h0 : a.2 = 0
  · obtain ⟨n, hn1, hn2, hn3, hi0, hi1⟩ := fieldM_ok (ha ▸ h0)
    rw [← ha] at hn1
    rw [hn1] at C1 HG
    simp only [ne_eq, not_true_eq_false, if_false, Int.toNat_natCast] at C1 HG
    rw [List.length_map] at hn2
    by_cases h8 : (ofR z).1 = 8
    · rw [HG.out, if_pos h8]
      rw [decide_eq_true h8] at C2
      simp only
      clear HG
      go_enter Try.func34, Try.ntmps34
      go_wp2_with (first
        | (go_at_call 55; with_reducible refine C1.out.mono ?_; rintro e wa ⟨rfl, ba⟩)
        | (go_at_call 32; with_reducible refine (C2.out _).mono ?_; rintro e wb ⟨rfl, bb⟩))
      go_ret
      exact ⟨rfl, ls, H.out.on (Bt ba bb), rfl, fun _ => Iff.rfl, Mod.of_below _ (Bt ba bb)⟩
    · rw [HG.out, if_neg h8]
      rw [decide_eq_false h8] at C2
      simp only
      obtain ⟨x, hx⟩ : ∃ x, x = ls.getD n default := ⟨_, rfl⟩
      rw [← getD_fst, ← hx] at hi1 ⊢
      have hmem : x ∈ ls := by rw [hx]; exact getD_in_ob hn2
      obtain ⟨gl, cap, hv, hc1, hc2, _⟩ := H.out.obj hn2 hx
      obtain rfl := hv
      unfold maxLen at hc2
      obtain ⟨j, hj⟩ : ∃ j : Nat, i = (j : Int) := ⟨i.toNat, by omega⟩
      subst hj
      simp only [Int.toNat_natCast]
      have hjl : j < x.1.f.length := by omega
      obtain ⟨gr, cr, hvr, _, hr1, hr2, _⟩ := owned_cell (H.out.rows x hmem).1 hjl
      have hr : x.2.1 = some ⟨gr, 0, none⟩ := by injection hvr
      have HC : Hid (∀ wa, Below w.heap.size w wa → wa.cell? ⟨g, 1, none⟩ = some (.slice (some ⟨gl, 0, none⟩) ls.length cap) ∧ wa.cell? ⟨gl, n * 3 + 2, none⟩ = some (.slice (some ⟨gr, 0, none⟩) x.1.f.length cr) ∧ wa.cell? ⟨gr, j, none⟩ = some (.int .u64 (x.1.f.getD j 0)) ∧ wa.frozen? ⟨gr, j, none⟩ = false) := fun wa ba => by
        have hR := H.out.on ba
        obtain ⟨gl', cap', hv', _, _, j0, j1, j2⟩ := hR.obj hn2 hx
        cases hv'
        obtain ⟨gr', cr', hvr', _, _, _, hcc, hff⟩ := owned_cell (hR.rows x hmem).1 hjl
        rw [hvr] at hvr'
        cases hvr'
        rw [hvr] at j2
        exact ⟨blk_cell hR.box 1, j2, hcc, hff⟩
      have HP : Hid (∀ wa, Below w.heap.size w wa → RH B g N (.slice (some ⟨gl, 0, none⟩) ls.length cap) (ls.set n (setF x.1 j z, x.2)) (wa.setCell ⟨gr, j, none⟩ (.int .u64 z)) ∧ (∀ b, RF g (.slice (some ⟨gl, 0, none⟩) ls.length cap) (ls.set n (setF x.1 j z, x.2)) b ↔ RF g (.slice (some ⟨gl, 0, none⟩) ls.length cap) ls b)) := fun wa ba => (H.out.on ba).set hn2 hx hjl (cr := cr) hr hz
      have HM : Hid ((ls.set n (setF x.1 j z, x.2)).map Prod.fst = (ls.map Prod.fst).set n (setF x.1 j z)) := by unfold Hid; rw [List.map_set]
      have HFr : Hid (RF g (.slice (some ⟨gl, 0, none⟩) ls.length cap) ls gr) := .inr (.inr ⟨x, hmem, _, hr, rfl⟩)
      obtain ⟨zz, hzz⟩ : ∃ q, q = x.1.f.getD j 0 := ⟨_, rfl⟩
      rw [← hzz] at HC
      have HL := hid hjl
      obtain ⟨xl, hxl⟩ : ∃ q, q = x.1.f.length := ⟨_, rfl⟩
      rw [← hxl] at HC hr1 hjl
      unfold maxLen at hr2
      clear HG ha hn1 hn3 hx hmem hvr h0 hi0 hi1 hzz hxl
      go_enter Try.func34, Try.ntmps34
      go_wp2_with (first
        | (go_at_call 55; with_reducible refine C1.out.mono ?_; rintro e wa ⟨rfl, ba⟩)
        | (go_at_call 32; with_reducible refine (C2.out _).mono ?_; rintro e wb ⟨rfl, bb⟩; have HBB := hid (Bt ba bb); obtain ⟨c1, c2, c3, c4⟩ := HC.out wb HBB.out; clear ba bb))
      go_ret
      obtain ⟨q1, q2⟩ := HP.out wb HBB.out
      exact ⟨rfl, _, q1, HM.out, q2, (Mod.of_below _ HBB.out).setCell (.inl HFr.out) _⟩
  · rw [HG.out, if_pos h0]
    have e0 : (a.2 != 0) = true := by simpa using h0
    obtain ⟨a1, a2⟩ := a
    simp only at C1 e0 h0 ⊢
    clear HG ha
    go_enter Try.func34, Try.ntmps34
    go_wp2_with (go_at_call 55; with_reducible refine C1.out.mono ?_; rintro e wa ⟨rfl, ba⟩)
    go_ret
    exact ⟨rfl, ls, H.out.on ba, rfl, fun _ => Iff.rfl, Mod.of_below _ ba⟩
end
end Go.Proofs.Ythgkonjglappjaa
