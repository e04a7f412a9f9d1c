import Derived.Test.YtbkfinjajkjhaaaGreatDoorLM14
import Derived.Test.YtbkfinjajkjhaaaGreatDoorLL2
import Derived.Test.YtbkfinjajkjhaaaGreatDoorW3
import Derived.Test.YtbkfinjajkjhaaaGreatDoorW14
import Derived.Laws.IdiomStrings
import Derived.Deep.RegionHeld3
set_option linter.unusedVariables false
set_option linter.unusedSimpArgs false
set_option maxRecDepth 100000
namespace Go.Proofs.YtbkfinjajkjhaaaGreatDoor
theorem Bnd.cut {l : List Nat} {k m : Nat} (h : Bnd l (k + m)) (hk : k <= l.length) : Bnd (l.drop k) m := by
 unfold Bnd
 rw [List.length_drop, getD_drop, getD_drop]
 by_cases h0 : m = 0
 ·exact .inl h0
 ·rcases h with h | h | h | h
  ·omega
  ·exact .inr (.inl (by omega))
  ·exact .inr (.inr (.inl h))
  ·exact .inr (.inr (.inr (by rw [show k + (m - 1) = k + m - 1 by omega]; exact h)))
theorem fst_take {r : List Nat} {m : Nat} (h : m <= r.length) : Fst r (r.take m) m := ⟨h, by rw [List.length_take]; omega, fun j hj => getD_take_lt r hj⟩
theorem len_take {r : List Nat} {m : Nat} (h : m <= r.length) : (r.take m).length = m := by rw [List.length_take]; omega
theorem cover {l : List Nat} {f k : Nat} {x : Tok} {T : List Tok} (hd : Dg 256 l) (hv : Vd l) (hn : l.length <= 65536) (hk : k <= l.length) (hb : Bnd l k) (hf : l.length < k + (f + 1)) (h : toksA (f + 1) l k = (x :: T, none)) :
  (k <= x.fr /\ x.fr <= x.un /\ x.un <= l.length) /\ (∃ b, ansM ((l.drop k).take (x.fr - k)) = ([b], 0, 0)) /\
  ((x.kind = 0 /\ T = [] /\ x.un = l.length /\ ∃ U, ansM ((l.drop x.fr).take (x.un - x.fr)) = (U, 0, 0)) \/
   (x.kind ≠ 0 /\ T ≠ [] /\ toksA f l x.un = (T, none) /\ Bnd l x.un /\ k < x.un /\ ∃ y z, ansM ((l.drop x.fr).take (x.un - x.fr)) = ([y, z], 0, 0) /\ ky y = ky x)) := by
 unfold toksA at h
 by_cases h2 : (skL l k).2 = false
 ·rw [if_pos h2] at h; cases h
 ·rw [if_neg h2] at h
  obtain ⟨m, m1, m2, m3⟩ := skL_gq (l := l) l.length k (by omega) hk (by simpa using h2)
  obtain ⟨b1, b2, b3⟩ := skL_bnd (l := l) l.length k (by omega) hk hb
  rw [m1] at b1 b2 b3
  have hm : m <= (l.drop k).length := by rw [List.length_drop]; omega
  have hvk := hv.drop k hk hb
  have hB : ∃ b, ansM ((l.drop k).take (k + m - k)) = ([b], 0, 0) := by
   rw [Nat.add_sub_cancel_left]
   have hs : Sq ((l.drop k).take m) [] := .nil (by
    rw [len_take hm]
    exact m2.loc _ (fst_take hm) (.inl (len_take hm).symm))
   obtain ⟨U, u1, u2⟩ := sq_ans (by rw [len_take hm]; rw [List.length_drop] at hm; omega) ((hd.drop k).take m) (hvk.take m hm (b1.cut hk)) hs
   rw [u1]
   have hl := congrArg List.length u2
   rw [List.length_map] at hl
   obtain ⟨b, rfl⟩ := List.length_eq_one_iff.1 hl
   exact ⟨b, rfl⟩
  by_cases h3 : l.length <= (skL l k).1
  ·rw [if_pos h3] at h
   cases h
   have e : k + m = l.length := by omega
   rw [e] at hB
   refine ⟨⟨hk, Nat.le_refl _, Nat.le_refl _⟩, hB, .inl ⟨rfl, rfl, rfl, ?_⟩⟩
   rw [show ((l.drop l.length).take (l.length - l.length)) = [] by rw [Nat.sub_self, List.take_zero]]
   exact ⟨(ansM []).1, by kernel_rfl⟩
  ·rw [if_neg h3] at h
   cases h4 : tkM (l.drop (skL l k).1) with
   | none => rw [h4] at h; cases h
   | some y =>
    rw [h4] at h
    simp only [Prod.mk.injEq, List.cons.injEq] at h
    obtain ⟨⟨e1, e2⟩, e3⟩ := h
    rw [m1] at h3 h4 e1 e2 e3
    have hne : l.drop (k + m) ≠ [] := by intro e; have := congrArg List.length e; rw [List.length_drop, List.length_nil] at this; omega
    have hle := tkM_le hne h4
    have hle2 := hle.2
    rw [List.length_drop] at hle2
    obtain ⟨d1, d2⟩ := tkM_end h4
    have hbe : Bnd l (k + m + y.2.2.2) := bnd_drop b2 hle.1 d2
    have hvq := hv.drop (k + m) b2 b1
    have hT := toks_sq f l (k + m + y.2.2.2) T (by omega) (by omega) (Prod.ext e2 e3)
    obtain ⟨L, _, l2⟩ := hT
    have hs : Sq ((l.drop (k + m)).take y.2.2.2) [kyT y] := by
     have hl := len_take hle.2
     have hne2 : (l.drop (k + m)).take y.2.2.2 ≠ [] := by intro e; rw [e] at hl; simp at hl; omega
     have ht := tkM_loc hne (fst_take hle.2) (.inl hl.symm) (hd.drop _) ((hd.drop _).take _) hvq h4
     refine .cons (q := 0) (x := y) (.nil _) (by omega) (by rw [List.drop_zero]; exact ht) (.nil ?_)
     rw [List.drop_eq_nil_of_le (by omega)]
     exact .nil _
    obtain ⟨U, u1, u2⟩ := sq_ans (by rw [len_take hle.2]; omega) ((hd.drop (k + m)).take y.2.2.2) (hvq.take _ hle.2 (hbe.cut b2)) hs
    subst e1
    refine ⟨⟨b3, by show k + m <= k + m + y.2.2.2; omega, by show k + m + y.2.2.2 <= _; omega⟩, hB, .inr ⟨d1, ?_, Prod.ext e2 e3, hbe, by show k < k + m + y.2.2.2; omega, ?_⟩⟩
    ·intro e; subst e; rw [List.map_nil] at l2; simp at l2
    ·show ∃ a z, ansM ((l.drop (k + m)).take (k + m + y.2.2.2 - (k + m))) = ([a, z], 0, 0) /\ _
     rw [Nat.add_sub_cancel_left, u1]
     have hl := congrArg List.length u2
     rw [List.length_map] at hl
     obtain ⟨a, U, rfl⟩ := List.exists_cons_of_length_eq_add_one hl
     obtain ⟨z, rfl⟩ := List.length_eq_one_iff.1 (show U.length = 1 by simpa using hl)
     exact ⟨a, z, rfl, by simp only [List.map_cons] at u2; exact (List.cons.inj u2).1⟩
theorem badA_lt : ∀ (f : Nat) (l : List Nat) (k p : Nat), badA f l k = some p -> p < l.length
 | 0, _, _, _, h => by cases h
 | f + 1, l, k, p, h => by
  unfold badA at h
  split at h
  ·cases h
  ·split at h
   ·cases h; omega
   ·exact badA_lt f l _ p h
theorem toksA_lt : ∀ (f : Nat) (l : List Nat) (k p : Nat), k <= l.length -> (toksA f l k).2 = some p -> p < l.length
 | 0, _, _, _, _, h => by cases h
 | f + 1, l, k, p, hk, h => by
  unfold toksA at h
  have hle := skL_le (l := l) hk
  by_cases h2 : (skL l k).2 = false
  ·rw [if_pos h2] at h
   cases h
   have h1 := hasB_pos (skL_wrong (l := l) l.length k (by omega) hk h2)
   rcases Nat.lt_or_ge (skL l k).1 l.length with h3 | h3
   ·exact h3
   ·exact absurd (List.drop_eq_nil_of_le h3) h1
  ·rw [if_neg h2] at h
   by_cases h3 : l.length <= (skL l k).1
   ·rw [if_pos h3] at h; cases h
   ·rw [if_neg h3] at h
    cases h4 : tkM (l.drop (skL l k).1) with
    | none => rw [h4] at h; cases h; omega
    | some y =>
     rw [h4] at h
     have hne : l.drop (skL l k).1 ≠ [] := by intro e; have := congrArg List.length e; rw [List.length_drop, List.length_nil] at this; omega
     have hx := tkM_le hne h4
     rw [List.length_drop] at hx
     exact toksA_lt f l _ p (by omega) h
theorem ans_err {l : List Nat} {T : List Tok} {e p : Int} (hn : l.length <= 65536) (h : ansM l = (T, e, p)) (he : e ≠ 0) : T = [] /\ 0 <= p /\ p < (l.length : Int) := by
 unfold ansM at h
 rw [if_neg (by omega)] at h
 cases h2 : badM l with
 | some q =>
  rw [h2] at h
  cases h
  have := badA_lt _ _ _ _ h2
  exact ⟨rfl, by omega, by omega⟩
 | none =>
  rw [h2] at h
  simp only at h
  cases h3 : (toksM l).2 with
  | some q =>
   rw [h3] at h
   cases h
   have := toksA_lt _ _ _ _ (Nat.zero_le _) h3
   exact ⟨rfl, by omega, by omega⟩
  | none =>
   rw [h3] at h
   simp only [Prod.mk.injEq] at h
   exact absurd h.2.1.symm he
end Go.Proofs.YtbkfinjajkjhaaaGreatDoor
namespace Go.Proofs.YtbkfinjajkjhaaaGreatDoor
open Go.RowKit
theorem tkSame_any (a b : Int) (t : ByteArray) (f u f' u' : Int) (w : World) : Calls Tryz.prog 17 #[.agg #[.int .i64 a, .int .i64 b, .string t, .int .i64 f, .int .i64 u], .agg #[.int .i64 a, .int .i64 b, .string t, .int .i64 f', .int .i64 u']] w fun e w' => e = .returned (.bool true) /\ Below w.heap.size w w' := by
 have t1 : (a == a) = true := by simp
 have t2 : (b == b) = true := by simp
 have t3 : (t.toList == t.toList) = true := by simp
 have HB : Hid (∀ o1 o2, Below w.heap.size w ((w.alloc o1).alloc o2)) := fun o1 o2 => Bt (Ba w o1) (Ba _ o2)
 go_enter Tryz.func17, Tryz.ntmps17
 go_wp2_with fail
 go_ret
 exact ⟨rfl, HB.out _ _⟩
theorem twoTk_on {W wx wy : World} {a0 a1 a2 a3 a4 b0 b1 b2 b3 b4 : Value} {c d x1 y1 : Nat}
  (h : wx.cell? ⟨c, x1, none⟩ = some a0 /\ wx.cell? ⟨c, x1 + 1, none⟩ = some a1 /\ wx.cell? ⟨c, x1 + 2, none⟩ = some a2 /\ wx.cell? ⟨c, x1 + 3, none⟩ = some a3 /\ wx.cell? ⟨c, x1 + 4, none⟩ = some a4 /\ wx.cell? ⟨d, y1, none⟩ = some b0 /\ wx.cell? ⟨d, y1 + 1, none⟩ = some b1 /\ wx.cell? ⟨d, y1 + 2, none⟩ = some b2 /\ wx.cell? ⟨d, y1 + 3, none⟩ = some b3 /\ wx.cell? ⟨d, y1 + 4, none⟩ = some b4 /\ Below W.heap.size W wx) (hb : Below wx.heap.size wx wy) :
  wy.cell? ⟨c, x1, none⟩ = some a0 /\ wy.cell? ⟨c, x1 + 1, none⟩ = some a1 /\ wy.cell? ⟨c, x1 + 2, none⟩ = some a2 /\ wy.cell? ⟨c, x1 + 3, none⟩ = some a3 /\ wy.cell? ⟨c, x1 + 4, none⟩ = some a4 /\ wy.cell? ⟨d, y1, none⟩ = some b0 /\ wy.cell? ⟨d, y1 + 1, none⟩ = some b1 /\ wy.cell? ⟨d, y1 + 2, none⟩ = some b2 /\ wy.cell? ⟨d, y1 + 3, none⟩ = some b3 /\ wy.cell? ⟨d, y1 + 4, none⟩ = some b4 /\ Below W.heap.size W wy := by
 obtain ⟨h0, h1, h2, h3, h4, g0, g1, g2, g3, g4, hB⟩ := h
 exact ⟨(hb.cell (p := ⟨c, x1, none⟩) (cellIn h0)).trans h0, (hb.cell (p := ⟨c, x1 + 1, none⟩) (cellIn h0)).trans h1, (hb.cell (p := ⟨c, x1 + 2, none⟩) (cellIn h0)).trans h2, (hb.cell (p := ⟨c, x1 + 3, none⟩) (cellIn h0)).trans h3, (hb.cell (p := ⟨c, x1 + 4, none⟩) (cellIn h0)).trans h4,
  (hb.cell (p := ⟨d, y1, none⟩) (cellIn g0)).trans g0, (hb.cell (p := ⟨d, y1 + 1, none⟩) (cellIn g0)).trans g1, (hb.cell (p := ⟨d, y1 + 2, none⟩) (cellIn g0)).trans g2, (hb.cell (p := ⟨d, y1 + 3, none⟩) (cellIn g0)).trans g3, (hb.cell (p := ⟨d, y1 + 4, none⟩) (cellIn g0)).trans g4, Bt hB hb⟩
end Go.Proofs.YtbkfinjajkjhaaaGreatDoor
namespace Go.Proofs.YtbkfinjajkjhaaaGreatDoor
open Go.RowKit
theorem toksA_len : ∀ (f : Nat) (l : List Nat) (k : Nat), (toksA f l k).1.length <= f
 | 0, _, _ => Nat.le_refl _
 | f + 1, l, k => by
  unfold toksA
  split
  ·exact Nat.zero_le _
  ·split
   ·simp
   ·split
    ·exact Nat.zero_le _
    ·simp only [List.length_cons]
     exact Nat.succ_le_succ (toksA_len f l _)
theorem ansM_len (l : List Nat) : (ansM l).1.length <= l.length + 1 := by
 unfold ansM
 split
 ·exact Nat.zero_le _
 ·split
  ·exact Nat.zero_le _
  ·split
   ·exact Nat.zero_le _
   ·exact toksA_len _ _ _
end Go.Proofs.YtbkfinjajkjhaaaGreatDoor
