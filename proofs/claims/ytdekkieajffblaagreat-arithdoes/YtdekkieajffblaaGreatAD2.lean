/-
  Walks, of the document's answer: Number, Lay, Do, Room.
-/
import Derived.Test.YtdekkieajffblaaGreatAW3
import Derived.Test.YtdekkieajffblaaGreatAD1
import Derived.Test.YtdekkieajffblaaGreatW35
import Derived.Test.YtdekkieajffblaaGreatST17
import Derived.Test.YtdekkieajffblaaGreatST4
set_option linter.unusedVariables false
set_option linter.unusedSimpArgs false
set_option maxRecDepth 100000
namespace Go.Proofs.YtdekkieajffblaaGreat
open Go.RowKit

/-- Two integers that are handed in: are they good? -/
theorem two_good (neg neg' : Bool) (ao ao' : Option Addr) (n cap n' cap' : Nat) (l l' : List Nat) (w W : World) (g : Nat) (t : TypeId) (R : Row .u32 B32 w ao n cap l) (R' : Row .u32 B32 w ao' n' cap' l') (hb : Below w.heap.size w W) (hg : W.heap[g]? = some (.cells #[.bool neg, .slice ao n cap, .bool neg', .slice ao' n' cap'] t (0, 0))) :
    Calls Tryz.prog 4 #[.slice (some ⟨g, 0, none⟩) 2 2] W fun e w' => e = .returned (.bool (goodB neg l && goodB neg' l')) ∧ Below W.heap.size W w' := by
  have := zgood_any _ 2 2 _ W (zrow_two hg (R.below hb) (R'.below hb)) (by omega)
  have e : [(neg, l), (neg', l')].all goodZ = (goodB neg l && goodB neg' l') := by simp [goodZ]
  rw [e] at this
  exact this
end Go.Proofs.YtdekkieajffblaaGreat

set_option linter.unusedVariables false
set_option linter.unusedSimpArgs false
set_option maxRecDepth 100000
namespace Go.Proofs.YtdekkieajffblaaGreat
open Go.RowKit

theorem boxrow_on {W wx wy : World} {p b i j : Nat} {a0 a1 b0 b1 : Value}
    (h : wx.cell? ⟨p, 0, none⟩ = some a0 ∧ wx.cell? ⟨p, 1, none⟩ = some a1 ∧ wx.cell? ⟨b, i, none⟩ = some b0 ∧ wx.cell? ⟨b, j, none⟩ = some b1 ∧ Below W.heap.size W wx) (hb : Below wx.heap.size wx wy) :
    wy.cell? ⟨p, 0, none⟩ = some a0 ∧ wy.cell? ⟨p, 1, none⟩ = some a1 ∧ wy.cell? ⟨b, i, none⟩ = some b0 ∧ wy.cell? ⟨b, j, none⟩ = some b1 ∧ Below W.heap.size W wy := by
  obtain ⟨h1, h2, h3, h4, h7⟩ := h
  exact ⟨(hb.cell (p := ⟨p, 0, none⟩) (cell_lt h1)).trans h1, (hb.cell (p := ⟨p, 1, none⟩) (cell_lt h1)).trans h2, (hb.cell (p := ⟨b, i, none⟩) (cell_lt h3)).trans h3, (hb.cell (p := ⟨b, j, none⟩) (cell_lt h4)).trans h4, Bt h7 hb⟩
theorem boxrow_bel {W wx : World} {p b i j : Nat} {a0 a1 b0 b1 : Value}
    (h : wx.cell? ⟨p, 0, none⟩ = some a0 ∧ wx.cell? ⟨p, 1, none⟩ = some a1 ∧ wx.cell? ⟨b, i, none⟩ = some b0 ∧ wx.cell? ⟨b, j, none⟩ = some b1 ∧ Below W.heap.size W wx) : Below W.heap.size W wx := h.2.2.2.2
theorem need_le {z : Int} (hb : ¬ Big z.natAbs) : needZ z ≤ 42 := by
  unfold needZ
  split
  · omega
  · have := mg_len40 hb; omega
theorem lay_fits {os : List Ob} {N z : Int} (h : needZ z ≤ N - (usedL os : Nat)) : (layM os N z).2 = 0 := by
  rw [layM_is]
  split
  · rfl
  · rw [if_neg (by omega)]
theorem layM_u (os : List Ob) (N z : Int) : U64 (layM os N z).1 := by
  rw [layM_is]
  split
  · exact wordR_rng _ _ _
  · split
    · unfold U64; omega
    · exact wordR_rng _ _ _
end Go.Proofs.YtdekkieajffblaaGreat

set_option linter.unusedVariables false
set_option linter.unusedSimpArgs false
set_option maxRecDepth 100000
namespace Go.Proofs.YtdekkieajffblaaGreat
open Go.RowKit

theorem need_zero : needZ 0 = 0 := by decide
theorem bigZ_err {z : Int} (h : (bigZ z).2 ≠ 0) : (bigZ z).1 = 0 ∧ (bigZ z).2 = 10 := by
  unfold bigZ at h ⊢
  split
  · exact ⟨rfl, rfl⟩
  · rename_i h1
    rw [if_neg h1] at h
    exact absurd rfl h
theorem reck_err {op a b : Int} (h : (reckM op a b).2 ≠ 0) : (reckM op a b).1 = 0 ∧ (reckM op a b).2 ≠ 3 := by
  unfold reckM at h ⊢
  by_cases h1 : op = 1
  · rw [if_pos h1] at h ⊢
    obtain ⟨k1, k2⟩ := bigZ_err h
    exact ⟨k1, by rw [k2]; decide⟩
  rw [if_neg h1] at h ⊢
  by_cases h2 : op = 2
  · rw [if_pos h2] at h ⊢
    obtain ⟨k1, k2⟩ := bigZ_err h
    exact ⟨k1, by rw [k2]; decide⟩
  rw [if_neg h2] at h ⊢
  by_cases h3 : op = 3
  · rw [if_pos h3] at h ⊢
    obtain ⟨k1, k2⟩ := bigZ_err h
    exact ⟨k1, by rw [k2]; decide⟩
  rw [if_neg h3] at h ⊢
  by_cases h0 : b = 0
  · simp only [h0, if_pos]
    split
    · exact ⟨rfl, by decide⟩
    · split
      · exact ⟨rfl, by decide⟩
      · split
        · exact ⟨rfl, by decide⟩
        · exact ⟨rfl, by decide⟩
  · simp only [h0, if_false] at h ⊢
    by_cases h4 : op = 4
    · rw [if_pos h4] at h; exact absurd rfl h
    rw [if_neg h4] at h ⊢
    by_cases h5 : op = 5
    · rw [if_pos h5] at h; exact absurd rfl h
    rw [if_neg h5] at h ⊢
    by_cases h6 : op = 6
    · rw [if_pos h6] at h; exact absurd rfl h
    rw [if_neg h6]
    exact ⟨rfl, by decide⟩
theorem bothZ_err (os : List Ob) (p q : Int) : (bothZ os p q).2.2 = 0 ∨ (bothZ os p q).2.2 = 70 := by
  unfold bothZ
  split
  · exact .inl rfl
  · exact .inr rfl
theorem res_err {os : List Ob} {op p q : Int} (h : (resZ os op p q).2 ≠ 0) : (resZ os op p q).1 = 0 ∧ (resZ os op p q).2 ≠ 3 := by
  unfold resZ at h ⊢
  by_cases h1 : op < 1 ∨ 6 < op
  · rw [if_pos h1]; exact ⟨rfl, by decide⟩
  rw [if_neg h1] at h ⊢
  by_cases h2 : (bothZ os p q).2.2 = 0
  · rw [if_pos h2] at h ⊢
    exact reck_err h
  · rw [if_neg h2]
    refine ⟨rfl, ?_⟩
    rcases bothZ_err os p q with e | e
    · exact absurd e h2
    · show (bothZ os p q).2.2 ≠ 3
      rw [e]; decide
theorem do_ok {os : List Ob} {N op p q : Int} (h : (doM os N op p q).2 = 0) : ((usedL (doO os N op p q) : Nat) : Int) = (usedL os : Nat) + needZ (resZ os op p q).1 := by
  unfold doM at h
  unfold doO
  by_cases h1 : (resZ os op p q).2 = 0
  · rw [if_pos h1] at h ⊢
    exact lay_used _ _ _ h
  · rw [if_neg h1] at h
    exact absurd h h1
theorem do_no {os : List Ob} {N op p q : Int} (hu : ((usedL os : Nat) : Int) ≤ N) (h : (doM os N op p q).2 ≠ 0) : doO os N op p q = os ∧ ((doM os N op p q).2 = 3 ↔ N - (usedL os : Nat) < needZ (resZ os op p q).1) := by
  unfold doM at h ⊢
  unfold doO
  by_cases h1 : (resZ os op p q).2 = 0
  · rw [if_pos h1] at h ⊢
    rw [if_pos h1]
    refine ⟨layM_err h, ?_⟩
    rw [layM_is] at h ⊢
    by_cases h2 : fixB (resZ os op p q).1 = true
    · rw [if_pos h2] at h; exact absurd rfl h
    · rw [if_neg h2] at h ⊢
      by_cases h3 : N - (usedL os : Nat) < needZ (resZ os op p q).1
      · rw [if_pos h3]; exact ⟨fun _ => h3, fun _ => rfl⟩
      · rw [if_neg h3] at h; exact absurd rfl h
  · rw [if_neg h1, if_neg h1]
    obtain ⟨k1, k2⟩ := res_err h1
    refine ⟨rfl, fun e => absurd e k2, fun e => ?_⟩
    rw [k1, need_zero] at e
    omega
theorem lay_no {os : List Ob} {N z : Int} (h : (layM os N z).2 ≠ 0) : N - (usedL os : Nat) < needZ z := by
  rw [layM_is] at h
  split at h
  · exact absurd rfl h
  · split at h
    · assumption
    · exact absurd rfl h
theorem lay_le {os : List Ob} {N z : Int} (hu : ((usedL os : Nat) : Int) ≤ N) : ((usedL (layO os N z) : Nat) : Int) ≤ N := by
  by_cases h : (layM os N z).2 = 0
  · have := lay_used os N z h
    rw [layM_is] at h
    split at h
    · rename_i h1
      have e : needZ z = 0 := by unfold needZ; rw [if_pos h1]
      omega
    · split at h
      · cases h
      · omega
  · rw [layM_err h]; exact hu
theorem reck_small {op a b : Int} (hb : ¬ Big b.natAbs) (ha : ¬ Big a.natAbs) : ¬ Big (reckM op a b).1.natAbs := by
  have h00 : ¬ Big (0 : Int).natAbs := not_big_64 _ (by decide)
  have hz : ∀ z, ¬ Big (bigZ z).1.natAbs := fun z => by
    unfold bigZ
    split
    · exact h00
    · rename_i h
      exact fun e => h ((tooB_iff z).2 e)
  unfold reckM
  split
  · exact hz _
  split
  · exact hz _
  split
  · exact hz _
  by_cases h0 : b = 0
  · simp only [h0, if_pos]
    split
    · exact h00
    · split
      · exact h00
      · split
        · exact h00
        · exact h00
  · simp only [h0, if_false]
    split
    · refine not_big_le (v := a.natAbs) ?_ ha
      show (a.tdiv b).natAbs ≤ _
      rw [Int.natAbs_tdiv]; exact Nat.div_le_self _ _
    · split
      · refine not_big_le (v := b.natAbs) ?_ hb
        have := tmod_abs (a := a) h0
        show (a.tmod b).natAbs ≤ _
        omega
      · split
        · show ¬ Big (modZ a b).natAbs
          unfold modZ
          split
          · rename_i h
            exact mod_small h0 hb h.2
          · refine not_big_le (v := b.natAbs) ?_ hb
            have := tmod_abs (a := a) h0
            omega
        · exact h00
theorem res_small {os : List Ob} (ha : AllBig os) (op p q : Int) : ¬ Big (resZ os op p q).1.natAbs := by
  have h00 : ¬ Big (0 : Int).natAbs := not_big_64 _ (by decide)
  have hn : ∀ p, ¬ Big ((numM os p).getD 0).natAbs := fun p => by
    cases h : numM os p with
    | none => exact h00
    | some z => exact numM_small ha h
  unfold resZ
  split
  · exact h00
  split
  · rename_i h
    refine reck_small ?_ ?_
    · unfold bothZ; split
      · exact hn q
      · exact h00
    · unfold bothZ; split
      · exact hn p
      · exact h00
  · exact h00
theorem doO_ok {os : List Ob} (h : OsOk os) (N op p q : Int) : OsOk (doO os N op p q) := by
  unfold doO
  split
  · exact layO_ok h _ _
  · exact h
theorem doO_all {os : List Ob} (h : AllBig os) (N op p q : Int) : AllBig (doO os N op p q) := by
  unfold doO
  split
  · exact layO_all h N (res_small h op p q)
  · exact h
end Go.Proofs.YtdekkieajffblaaGreat

set_option linter.unusedVariables false
set_option linter.unusedSimpArgs false
set_option maxRecDepth 100000
namespace Go.Proofs.YtdekkieajffblaaGreat
open Go.RowKit

section
variable {B g : Nat} {N : Int} {vL : Value} {ls : List (Ob × Sl)} {w w1 w' : World}
set_option maxHeartbeats 8000000 in
theorem dnumber_any (p : Int) (hp : U64 p) (w : World) (h : RH B g N vL ls w) (ha : AllBig (ls.map Prod.fst)) :
    Calls Tryz.prog 13 #[.pointer (some ⟨g, 0, none⟩), .int .u64 p] w fun e w' => ∃ s ao n cap, e = .returned (.tuple #[.agg #[.bool s, .slice ao n cap], .bool (numM (ls.map Prod.fst) p).isSome]) ∧ IsInt w' (.agg #[.bool s, .slice ao n cap]) ((numM (ls.map Prod.fst) p).getD 0) ∧ Below w.heap.size w w' := by
  have b0 := Ba w (.cells #[.bool false, .slice none 0 0] 40)
  have hx0 := Box.new 40 w false none 0 0
  obtain ⟨W0, hW0⟩ : ∃ W, W = w.alloc (.cells #[.bool false, .slice none 0 0] 40) := ⟨_, rfl⟩
  rw [← hW0] at b0 hx0
  have CO := hid (rof_any p hp W0)
  unfold SVal at CO
  have hn : numM (ls.map Prod.fst) p = if (ofR p).1 = 1 then some (ofR p).2.1 else (findM (ls.map Prod.fst) p).map (fun k => intL ((ls.map Prod.fst).getD k default).f) := by
    unfold numM isR hasR
    by_cases h1 : (ofR p).1 = 1
    · rw [if_pos (by simpa using h1), if_pos h1, if_pos h1]
    · rw [if_neg (by simpa using h1), if_neg h1]
  have hz64 := ofR_z p hp
  have CF : Hid (∀ W, Below w.heap.size w W → Calls Tryz.prog 40 #[.pointer (some ⟨g, 0, none⟩), .int .u64 p] W fun e w' => e = .returned (.int .i64 (optI (findM (ls.map Prod.fst) p))) ∧ Below W.heap.size W w') := fun W b => rfind_any p hp W (h.on b)
  have fin : Hid (∀ W (s : Bool) (a : Option Addr) (m c : Nat), Below W0.heap.size W0 W → Box 40 W w.heap.size false none 0 0 ∧ Box 40 ((W.setCell ⟨w.heap.size, 0, none⟩ (.bool s)).setCell ⟨w.heap.size, 1, none⟩ (.slice a m c)) w.heap.size s a m c ∧ Below w.heap.size w ((W.setCell ⟨w.heap.size, 0, none⟩ (.bool s)).setCell ⟨w.heap.size, 1, none⟩ (.slice a m c)) ∧ (∀ {x z}, IsInt W x z → IsInt ((W.setCell ⟨w.heap.size, 0, none⟩ (.bool s)).setCell ⟨w.heap.size, 1, none⟩ (.slice a m c)) x z)) := fun W s a m c hb =>
    ⟨hx0.on hb, (hx0.on hb).set2 s a m c, store2_below (Bt b0 hb) (Nat.le_refl _), fun hi => hi.setBox (hx0.on hb) _ _⟩
  have HB0 := hid b0
  have HZ := hid (fun W : World => zero_is W)
  obtain ⟨k, hk⟩ : ∃ k, k = (ofR p).1 := ⟨_, rfl⟩
  obtain ⟨m, hm⟩ : ∃ k, k = (ofR p).2.1 := ⟨_, rfl⟩
  obtain ⟨t, ht⟩ : ∃ k, k = (ofR p).2.2 := ⟨_, rfl⟩
  rw [← hk, ← hm, ← ht] at CO
  rw [← hk, ← hm] at hn
  have hz1 : Z64 k := by rw [hk]; exact hz64.1
  have hz2 : Z64 m := by rw [hm]; exact hz64.2.1
  rw [hW0] at CO
  have HSD : Hid (∀ W1, Below W0.heap.size W0 W1 → Below W0.heap.size W0 (W1.alloc (.cells #[.int .i64 k, .int .i64 m, .int .i64 t] 78)) ∧ (W1.alloc (.cells #[.int .i64 k, .int .i64 m, .int .i64 t] 78)).cell? ⟨W1.heap.size, 0, none⟩ = some (.int .i64 k) ∧ (W1.alloc (.cells #[.int .i64 k, .int .i64 m, .int .i64 t] 78)).cell? ⟨W1.heap.size, 1, none⟩ = some (.int .i64 m)) := fun W1 b => by
    have hb := blk_new W1 #[.int .i64 k, .int .i64 m, .int .i64 t] 78
    exact ⟨b.trans ((Ba W1 _).mono b.size), blk_cell hb 0, blk_cell hb 1⟩
  unfold Z64 at hz1 hz2
  clear hz64 hk ht hp hx0 b0
  by_cases hk1 : k = 1
  · rw [if_pos hk1] at hn
    rw [hn]
    subst hk1
    have CM : Hid (∀ W, Calls Tryz.prog 25 #[.int .i64 m] W fun e w' => ∃ s ao n cap, e = .returned (.agg #[.bool s, .slice ao n cap]) ∧ IsInt w' (.agg #[.bool s, .slice ao n cap]) m ∧ Below W.heap.size W w') := fun W => by
      refine (rfrom_is m W hz2.1 hz2.2).mono ?_
      rintro e w' ⟨x, rfl, h1, h2⟩
      have k := h1
      obtain ⟨s, ao, n, cap, l, rfl, _⟩ := h1.open_
      exact ⟨s, ao, n, cap, rfl, k, h2⟩
    clear hn hm h ha CF
    go_enter Tryz.func13, Tryz.ntmps13
    go_wp2_with (first
      | (go_at_call 39; (with_reducible refine CO.out.mono ?_); rintro e W1 ⟨rfl, b1⟩; rw [← hW0] at b1; obtain ⟨b2, d0, d1⟩ := HSD.out W1 b1; have HB2 := hid b2; clear b1 b2)
      | (go_at_call 25; (with_reducible refine (CM.out _).mono ?_); rintro e W2 ⟨s, ar, nr, cr, rfl, hI, b3⟩; obtain ⟨o1, o2, o3, o4⟩ := fin.out W2 s ar nr cr (Bt HB2.out b3); obtain ⟨r0, r1⟩ := o1.c; obtain ⟨f0, f1⟩ := o1.f; obtain ⟨t0, t1⟩ := o2.c; have H3 := hid o3; have H4 := hid (o4 hI); clear o1 o2 o3 o4 hI b3))
    (try simp only [Exit.inBlock, Exit.then]); refine bodyPost_ret (v := .tuple #[.agg #[.bool s, .slice ar nr cr], .bool true]) (by simp [results, Tryz.results13, go_sem, t0, t1]) rfl ?_
    exact ⟨_, _, _, _, rfl, H4.out, H3.out⟩
  · rw [if_neg hk1] at hn
    rw [hn]
    have ek : (k == 1) = false := by simpa using hk1
    clear hn hm
    cases hf : findM (ls.map Prod.fst) p with
    | none =>
      rw [hf] at CF
      simp only [optI] at CF
      clear hf h ha
      go_enter Tryz.func13, Tryz.ntmps13
      go_wp2_with (first
        | (go_at_call 39; (with_reducible refine CO.out.mono ?_); rintro e W1 ⟨rfl, b1⟩; rw [← hW0] at b1; obtain ⟨b2, d0, d1⟩ := HSD.out W1 b1; have HB2 := hid b2; have C2 := hid (CF.out _ (Bt HB0.out b2)); clear b1 b2)
        | (go_at_call 40; (with_reducible refine C2.out.mono ?_); rintro e W2 ⟨rfl, b3⟩; obtain ⟨o1, o2, o3, o4⟩ := fin.out W2 false none 0 0 (Bt HB2.out b3); obtain ⟨r0, r1⟩ := o1.c; obtain ⟨f0, f1⟩ := o1.f; obtain ⟨t0, t1⟩ := o2.c; have H3 := hid o3; clear o1 o2 o3 o4 b3))
      (try simp only [Exit.inBlock, Exit.then]); refine bodyPost_ret (v := .tuple #[.agg #[.bool false, .slice none 0 0], .bool false]) (by simp [results, Tryz.results13, go_sem, t0, t1]) rfl ?_
      exact ⟨_, _, _, _, rfl, HZ.out _, H3.out⟩
    | some j =>
      rw [hf] at CF
      simp only [optI] at CF
      obtain ⟨hj, _⟩ := findM_lt hf
      rw [List.length_map] at hj
      obtain ⟨x, hx⟩ : ∃ x, x = ls.getD j default := ⟨_, rfl⟩
      have hmem : x ∈ ls := by rw [hx]; exact getD_in_ob hj
      have hxl := (h.rows x hmem).2
      have hxo : (ls.map Prod.fst).getD j default = x.1 := by rw [hx, ← getD_fst]
      obtain ⟨y, h1, h2, h3⟩ := ha x.1 (List.mem_map_of_mem hmem)
      have hfe : x.1.f = bigL (decide (y < 0)) (mg y.natAbs) := by rw [h1]; rfl
      have hkd : x.1.kind = 5 := by rw [h1]; rfl
      have hbig : bigB x.1.f = true := by rw [hfe]; exact big_is h2 h3
      have hiy : intL x.1.f = y := by rw [hfe]; exact big_intL y
      have hlen : x.1.f.length ≤ 41 := by rw [h1]; exact bigO_len h3
      have hgd : goodB (numNeg x.1.f) (numMag x.1.f) = true := by
        rw [bbigB_is, Bool.and_eq_true] at hbig
        exact bint_good hbig.1
      have HC : Hid (∀ wa, Below w.heap.size w wa → ∃ gl cap, ls.length ≤ cap ∧ cap ≤ 9223372036854775807 ∧ wa.cell? ⟨g, 1, none⟩ = some (.slice (some ⟨gl, 0, none⟩) ls.length cap) ∧ wa.cell? ⟨gl, j * 3 + 1, none⟩ = some (.int .i64 5) ∧ wa.cell? ⟨gl, j * 3 + 2, none⟩ = some (.slice x.2.1 x.2.2.1 x.2.2.2) ∧ URow wa x.2.1 x.2.2.1 x.2.2.2 x.1.f) := fun wa ba => by
        have hR := h.on ba
        obtain ⟨gl, cap, hv, hc1, hc2, j0, j1, j2⟩ := hR.obj hj hx
        have hb := blk_cell hR.box 1
        subst hv
        rw [hkd] at j1
        unfold maxLen at hc2
        obtain ⟨ao, cp, e, hu⟩ := urow_own (hR.rows x hmem).1 (fun z hz => hR.uf x hmem z hz)
        rw [← hxl] at e hu
        cases e
        exact ⟨gl, cap, hc1, hc2, hb, j1, j2, hu⟩
      rw [Option.map_some, hxo, hiy]
      have CN : Hid (∀ W, URow W x.2.1 x.2.2.1 x.2.2.2 x.1.f → Calls Tryz.prog 41 #[.slice x.2.1 x.2.2.1 x.2.2.2] W fun e w' => ∃ s ao n cap, e = .returned (.tuple #[.agg #[.bool s, .slice ao n cap], .bool true]) ∧ IsInt w' (.agg #[.bool s, .slice ao n cap]) y ∧ Below W.heap.size W w') := fun W U => by
        refine (number_any _ _ _ _ W U (by omega)).mono ?_
        rintro e w' ⟨s, ao, n, cap, rfl, e1, e2⟩
        obtain ⟨rfl, hr⟩ := e1 hbig
        exact ⟨_, ao, n, cap, by rw [hbig], ⟨_, _, ⟨ao, n, cap, rfl, hr⟩, hgd, hiy.symm⟩, e2⟩
      obtain ⟨f, hfd⟩ : ∃ f, f = x.1.f := ⟨_, rfl⟩
      rw [← hfd] at CN HC
      obtain ⟨xo, xa, xn, xc⟩ := x
      simp only at CN HC
      clear hfd hgd hlen hiy hbig hkd hfe h1 h2 h3 hxo hxl hmem hx hf h ha
      go_enter Tryz.func13, Tryz.ntmps13
      go_wp2_with (first
        | (go_at_call 39; (with_reducible refine CO.out.mono ?_); rintro e W1 ⟨rfl, b1⟩; rw [← hW0] at b1; obtain ⟨b2, d0, d1⟩ := HSD.out W1 b1; have HB2 := hid b2; have C2 := hid (CF.out _ (Bt HB0.out b2)); clear b1 b2)
        | (go_at_call 40; (with_reducible refine C2.out.mono ?_); rintro e W2 ⟨rfl, b3⟩; obtain ⟨gl, cp, q1, q2, q3, q4, q5, q6⟩ := HC.out W2 (Bt HB0.out (Bt HB2.out b3)); have HB3 := hid (Bt HB2.out b3); have C3 := hid (CN.out W2 q6); clear b3 q6)
        | (go_at_call 41; (with_reducible refine C3.out.mono ?_); rintro e W3 ⟨s, ar, nr, cr, rfl, hI, b4⟩; obtain ⟨o1, o2, o3, o4⟩ := fin.out W3 s ar nr cr (Bt HB3.out b4); obtain ⟨r0, r1⟩ := o1.c; obtain ⟨f0, f1⟩ := o1.f; obtain ⟨t0, t1⟩ := o2.c; have H3 := hid o3; have H4 := hid (o4 hI); clear o1 o2 o3 o4 hI b4))
      (try simp only [Exit.inBlock, Exit.then]); refine bodyPost_ret (v := .tuple #[.agg #[.bool s, .slice ar nr cr], .bool true]) (by simp [results, Tryz.results13, go_sem, t0, t1]) rfl ?_
      exact ⟨_, _, _, _, rfl, H4.out, H3.out⟩
end
end Go.Proofs.YtdekkieajffblaaGreat
