import Derived.Test.YtbkfinjajkjhaaaGreatDoorLX9
import Derived.Test.YtbkfinjajkjhaaaGreatDoorRL9
set_option linter.unusedVariables false
set_option linter.unusedSimpArgs false
set_option maxRecDepth 100000
namespace Go.Proofs.YtbkfinjajkjhaaaGreatDoor
open Go.RowKit
def digB (c : Nat) : Bool := decide (48 <= c) && decide (c <= 57)
theorem xc (c : Nat) (w : World) : Calls Tryz.prog 83 #[.int .u8 (c : Int)] w fun e w' => e = .returned (.bool (digB c)) /\ w' = w := by
 by_cases h1 : 48 <= c
 ·have h1' : (48 : Int) <= (c : Int) := by omega
  by_cases h2 : c <= 57
  ·have h2' : (c : Int) <= 57 := by omega
   rw [show digB c = true by unfold digB; rw [decide_eq_true h1, decide_eq_true h2]; rfl]
   clear h1 h2
   go_enter Tryz.func83, Tryz.ntmps83
   go_wp2
   go_ret
   exact ⟨rfl, rfl⟩
  ·have h2' : ¬ (c : Int) <= 57 := by omega
   rw [show digB c = false by unfold digB; rw [decide_eq_false h2, Bool.and_false]]
   clear h1 h2
   go_enter Tryz.func83, Tryz.ntmps83
   go_wp2
   go_ret
   exact ⟨rfl, rfl⟩
 ·have h1' : ¬ (48 : Int) <= (c : Int) := by omega
  rw [show digB c = false by unfold digB; rw [decide_eq_false h1]; rfl]
  clear h1
  go_enter Tryz.func83, Tryz.ntmps83
  go_wp2
  go_ret
  exact ⟨rfl, rfl⟩
set_option maxHeartbeats 4000000 in
theorem zbc (c : Nat) (w : World) : Calls Tryz.prog 113 #[.int .i32 (c : Int)] w fun e w' => e = .returned (.bool (mayB c)) /\ w' = w := by
 by_cases h : (97 <= c /\ c <= 122) \/ (65 <= c /\ c <= 90) \/ (48 <= c /\ c <= 57) \/ 128 <= c
 ·rw [qf h]
  rcases h with h | h | h | h
  ·have q0 : (97 : Int) <= (c : Int) := by omega
   have q1 : (c : Int) <= 122 := by omega
   have q2 : (65 : Int) <= (c : Int) := by omega
   have q3 : ¬ ((c : Int) <= 90) := by omega
   have q4 : (48 : Int) <= (c : Int) := by omega
   have q5 : ¬ ((c : Int) <= 57) := by omega
   have q6 : ¬ ((127 : Int) < (c : Int)) := by omega
   clear h
   go_enter Tryz.func113, Tryz.ntmps113
   go_wp2
   go_ret
   exact ⟨rfl, rfl⟩
  ·have q0 : ¬ ((97 : Int) <= (c : Int)) := by omega
   have q1 : (c : Int) <= 122 := by omega
   have q2 : (65 : Int) <= (c : Int) := by omega
   have q3 : (c : Int) <= 90 := by omega
   have q4 : (48 : Int) <= (c : Int) := by omega
   have q5 : ¬ ((c : Int) <= 57) := by omega
   have q6 : ¬ ((127 : Int) < (c : Int)) := by omega
   clear h
   go_enter Tryz.func113, Tryz.ntmps113
   go_wp2
   go_ret
   exact ⟨rfl, rfl⟩
  ·have q0 : ¬ ((97 : Int) <= (c : Int)) := by omega
   have q1 : (c : Int) <= 122 := by omega
   have q2 : ¬ ((65 : Int) <= (c : Int)) := by omega
   have q3 : (c : Int) <= 90 := by omega
   have q4 : (48 : Int) <= (c : Int) := by omega
   have q5 : (c : Int) <= 57 := by omega
   have q6 : ¬ ((127 : Int) < (c : Int)) := by omega
   clear h
   go_enter Tryz.func113, Tryz.ntmps113
   go_wp2
   go_ret
   exact ⟨rfl, rfl⟩
  ·have q0 : (97 : Int) <= (c : Int) := by omega
   have q1 : ¬ ((c : Int) <= 122) := by omega
   have q2 : (65 : Int) <= (c : Int) := by omega
   have q3 : ¬ ((c : Int) <= 90) := by omega
   have q4 : (48 : Int) <= (c : Int) := by omega
   have q5 : ¬ ((c : Int) <= 57) := by omega
   have q6 : (127 : Int) < (c : Int) := by omega
   clear h
   go_enter Tryz.func113, Tryz.ntmps113
   go_wp2
   go_ret
   exact ⟨rfl, rfl⟩
 ·by_cases hs : c ∈ mayL
  ·rw [xb h, show mayL.contains c = true by simpa using hs]
   clear h
   simp only [mayL, List.mem_cons, List.not_mem_nil, or_false] at hs
   rcases hs with rfl | rfl | rfl | rfl | rfl | rfl | rfl | rfl | rfl | rfl | rfl | rfl | rfl | rfl | rfl | rfl | rfl | rfl
   all_goals
    go_enter Tryz.func113, Tryz.ntmps113
    go_wp2
    go_ret
    exact ⟨rfl, rfl⟩
  ·rw [xb h, show mayL.contains c = false by simpa using hs]
   simp only [mayL, List.mem_cons, List.not_mem_nil, or_false, not_or] at hs
   obtain ⟨s33, s36, s37, s38, s42, s47, s58, s60, s61, s62, s63, s94, s95, s126, s43, s45, s46, s64⟩ := hs
   have t33 : ((c : Int) == 33) = false := by simp; omega
   have t36 : ((c : Int) == 36) = false := by simp; omega
   have t37 : ((c : Int) == 37) = false := by simp; omega
   have t38 : ((c : Int) == 38) = false := by simp; omega
   have t42 : ((c : Int) == 42) = false := by simp; omega
   have t47 : ((c : Int) == 47) = false := by simp; omega
   have t58 : ((c : Int) == 58) = false := by simp; omega
   have t60 : ((c : Int) == 60) = false := by simp; omega
   have t61 : ((c : Int) == 61) = false := by simp; omega
   have t62 : ((c : Int) == 62) = false := by simp; omega
   have t63 : ((c : Int) == 63) = false := by simp; omega
   have t94 : ((c : Int) == 94) = false := by simp; omega
   have t95 : ((c : Int) == 95) = false := by simp; omega
   have t126 : ((c : Int) == 126) = false := by simp; omega
   have t43 : ((c : Int) == 43) = false := by simp; omega
   have t45 : ((c : Int) == 45) = false := by simp; omega
   have t46 : ((c : Int) == 46) = false := by simp; omega
   have t64 : ((c : Int) == 64) = false := by simp; omega
   clear s33 s36 s37 s38 s42 s47 s58 s60 s61 s62 s63 s94 s95 s126 s43 s45 s46 s64
   rcases (by omega : c < 48 \/ (58 <= c /\ c < 65) \/ (91 <= c /\ c < 97) \/ (123 <= c /\ c < 128)) with h' | h' | h' | h'
   ·have q0 : ¬ ((97 : Int) <= (c : Int)) := by omega
    have q1 : (c : Int) <= 122 := by omega
    have q2 : ¬ ((65 : Int) <= (c : Int)) := by omega
    have q3 : (c : Int) <= 90 := by omega
    have q4 : ¬ ((48 : Int) <= (c : Int)) := by omega
    have q5 : (c : Int) <= 57 := by omega
    have q6 : ¬ ((127 : Int) < (c : Int)) := by omega
    clear h h'
    go_enter Tryz.func113, Tryz.ntmps113
    go_wp2
    go_ret
    exact ⟨rfl, rfl⟩
   ·have q0 : ¬ ((97 : Int) <= (c : Int)) := by omega
    have q1 : (c : Int) <= 122 := by omega
    have q2 : ¬ ((65 : Int) <= (c : Int)) := by omega
    have q3 : (c : Int) <= 90 := by omega
    have q4 : (48 : Int) <= (c : Int) := by omega
    have q5 : ¬ ((c : Int) <= 57) := by omega
    have q6 : ¬ ((127 : Int) < (c : Int)) := by omega
    clear h h'
    go_enter Tryz.func113, Tryz.ntmps113
    go_wp2
    go_ret
    exact ⟨rfl, rfl⟩
   ·have q0 : ¬ ((97 : Int) <= (c : Int)) := by omega
    have q1 : (c : Int) <= 122 := by omega
    have q2 : (65 : Int) <= (c : Int) := by omega
    have q3 : ¬ ((c : Int) <= 90) := by omega
    have q4 : (48 : Int) <= (c : Int) := by omega
    have q5 : ¬ ((c : Int) <= 57) := by omega
    have q6 : ¬ ((127 : Int) < (c : Int)) := by omega
    clear h h'
    go_enter Tryz.func113, Tryz.ntmps113
    go_wp2
    go_ret
    exact ⟨rfl, rfl⟩
   ·have q0 : (97 : Int) <= (c : Int) := by omega
    have q1 : ¬ ((c : Int) <= 122) := by omega
    have q2 : (65 : Int) <= (c : Int) := by omega
    have q3 : ¬ ((c : Int) <= 90) := by omega
    have q4 : (48 : Int) <= (c : Int) := by omega
    have q5 : ¬ ((c : Int) <= 57) := by omega
    have q6 : ¬ ((127 : Int) < (c : Int)) := by omega
    clear h h'
    go_enter Tryz.func113, Tryz.ntmps113
    go_wp2
    go_ret
    exact ⟨rfl, rfl⟩
theorem f7 : ∀ (k : Nat) (l : List Nat), k <= l.length -> (∀ j, j < k -> 128 <= l.getD j 0) -> l.all mayB = (l.drop k).all mayB
 | 0, l, _, _ => by simp
 | k + 1, l, h, hj => by
  have := zjg (f := mayB) (l := l) (k := 0) (by omega) (qf (.inr (.inr (.inr (hj 0 (by omega))))))
  rw [List.drop_zero, Nat.zero_add] at this
  rw [this, f7 k (l.drop 1) (by rw [List.length_drop]; omega) (fun j hjk => by
   have := hj (1 + j) (by omega)
   rw [List.getD_eq_getElem?_getD] at this
   rw [List.getD_eq_getElem?_getD, List.getElem?_drop]; exact this), List.drop_drop, Nat.add_comm 1 k]
theorem qn (s : ByteArray) (p : Nat) : Utf8.decode s p = decN ((bs s).drop p) := by
 have h : Utf8.decode (bstr ((bs s).drop p)) 0 = Utf8.decode s p := by
  unfold bstr
  rw [zbw]
  exact Lib.decodeL_drop s p
 rw [<- h, gu ((zcr s).drop p)]
set_option maxHeartbeats 4000000 in
theorem zdm (s : ByteArray) (w : World) (hs : s.size <= 1000000) : Calls Tryz.prog 89 #[.string s] w fun e w' => e = .returned (.bool ((bs s).all mayB)) /\ Below w.heap.size w w' := by
 have hl := za s
 have HL := hid hl
 have CN := hid zbc
 obtain ⟨A, hA⟩ : ∃ A, A = (bs s).all mayB := ⟨_, rfl⟩
 rw [<- hA]
 have HA : Hid (A = ((bs s).drop 0).all mayB) := hA
 clear hA hl
 go_enter Tryz.func89, Tryz.ntmps89
 go_wp2_with fail
 go_loopg [4] s.size (fun g v wx => ∃ p : Nat, p <= s.size /\ g = s.size - p /\ wx = w.iter s p /\ Hid (A = ((bs s).drop p).all mayB))
 case atStart => exact ⟨0, Nat.zero_le _, rfl, rfl, HA.out⟩
 case round =>
  obtain ⟨p, hp, rfl, rfl, hI⟩ := hrel
  clear HA
  by_cases hlt : p < s.size
  ·have hit : (w.iter s p).heap[w.heap.size]? = some (.stringIter s p) := World.iter_heap w s p
   have hnx := fun ty => Lib.run_next_any_at (P := Tryz.prog) (w.iter s p) w.heap.size s p ty hit hlt
   have hne : (bs s).drop p ≠ [] := by intro e; have := congrArg List.length e; rw [List.length_drop, HL.out] at this; simp at this; omega
   have hle := y8 hne
   rw [List.length_drop, HL.out] at hle
   have hbit : A = (mayB (decN ((bs s).drop p)).1 && ((bs s).drop (p + (decN ((bs s).drop p)).2)).all mayB) := by
    rw [hI.out]
    by_cases h128 : 128 <= ((bs s).drop p).getD 0 0
    ·obtain ⟨h1, _, _, _, h5, h6⟩ := y7 hne h128
     rw [f7 _ _ h5 h6, List.drop_drop, qf (.inr (.inr (.inr h1))), Bool.true_and]
    ·rw [yg (by omega)]
     have : ((bs s).drop p).getD 0 0 = (bs s).getD p 0 := by rw [zf (by rw [HL.out]; exact hlt)]; rfl
     rw [this]
     conv => lhs; rw [zf (show p < (bs s).length by rw [HL.out]; exact hlt), List.all_cons]
   have hwi : (w.iter s p).iterAt w.heap.size s (p + (decN ((bs s).drop p)).2) = w.iter s (p + (decN ((bs s).drop p)).2) := by
    have := World.iter_set w s p (p + (decN ((bs s).drop p)).2)
    simpa [World.iterAt] using this
   rw [qn, hwi] at hnx
   obtain ⟨r, hr⟩ : ∃ r, r = decN ((bs s).drop p) := ⟨_, rfl⟩
   rw [<- hr] at hnx hbit hle
   clear hwi hit hne hI hr
   have C9 := hid (fun W => CN.out r.1 W)
   obtain ⟨b, hb⟩ : ∃ b, b = mayB r.1 := ⟨_, rfl⟩
   rw [<- hb] at C9 hbit
   have HB := hid hbit
   clear hb hbit
   cases b
   ·have e1 : Hid (A = false) := HB.out
    clear HB
    go_wp2_with (go_at_call 113; with_reducible refine (C9.out _).mono ?_; rintro e wb ⟨rfl, rfl⟩)
    go_ret
    exact ⟨by rw [e1.out]; rfl, Ba w _⟩
   ·have e1 : Hid (A = ((bs s).drop (p + r.2)).all mayB) := HB.out.trans (Bool.true_and _)
    clear HB
    go_wp2_with (go_at_call 113; with_reducible refine (C9.out _).mono ?_; rintro e wb ⟨rfl, rfl⟩)
    go_roundg (s.size - (p + r.2))
    case measure => omega
    case rel => exact ⟨p + r.2, by omega, rfl, rfl, e1.out⟩
  ·have hnx := fun ty => run_next_end (P := Tryz.prog) w s p ty hlt
   have e1 : Hid (A = true) := by unfold Hid; rw [hI.out, List.drop_eq_nil_of_le (by rw [HL.out]; omega)]; rfl
   clear hI
   go_wp2_with fail
   go_ret
   exact ⟨by rw [e1.out]; rfl, Ba w _⟩
def PTok (w : World) (r : Option Tkn) (e : Ending) (w' : World) : Prop :=
 ∃ k n t f o, ∃ q : Nat, e = .returned (.tuple #[tkV k n t f o, .int .i64 q]) /\ (r = none -> q = 0) /\ (∀ x, r = some x -> k = x.1 /\ n = x.2.1 /\ t = x.2.2.1 /\ q = x.2.2.2) /\ Below w.heap.size w w'
theorem PTok.no {w w' : World} {k n : Int} {t : ByteArray} {f o : Int} (h : Below w.heap.size w w') : PTok w none (.returned (.tuple #[tkV k n t f o, .int .i64 0])) w' := ⟨k, n, t, f, o, 0, rfl, fun _ => rfl, fun x h => (by cases h), h⟩
theorem PTok.yes {w w' : World} {k n : Int} {t : ByteArray} {f o q' : Int} {q : Nat} (hq : q' = q) (h : Below w.heap.size w w') : PTok w (some (k, n, t, q)) (.returned (.tuple #[tkV k n t f o, .int .i64 q'])) w' := ⟨k, n, t, f, o, q, by rw [hq], fun h => (by cases h), fun x h => (by cases h; exact ⟨rfl, rfl, rfl, rfl⟩), h⟩
def hwM (r : List Nat) : Option Tkn :=
 match jj (r.take (zd r)) with
 | some n => some (10, n, ⟨#[]⟩, zd r)
 | none => if r.take (zd r) = [35, 117, 56] /\ zd r < r.length /\ r.getD (zd r) 0 = 40 then some (4, 0, ⟨#[]⟩, zd r + 1) else none
set_option maxHeartbeats 8000000 in
theorem xd (ao : Option Addr) (n cap : Nat) (l : List Nat) (w : World) (R : BRow w ao n cap l) (hT : zx w) (hn : 0 < n) : Calls Tryz.prog 85 #[.slice ao n cap] w (PTok w (hwM l)) := by
 have HB0 : Hid (Below w.heap.size w (w.alloc (.cells #[.int .i64 0, .int .i64 0, .string ⟨#[]⟩, .int .i64 0, .int .i64 0] 31))) := Ba w _
 have RA := R.below HB0.out
 have CW := hid (jy ao n cap l _ RA (hT.below HB0.out))
 obtain ⟨A, hA⟩ : ∃ A, A = hwM l := ⟨_, rfl⟩
 rw [<- hA]
 obtain ⟨m, hm⟩ : ∃ m, m = zd l := ⟨_, rfl⟩
 have hml := zt l
 rw [<- hm, R.len] at hml
 unfold hwM at hA
 rw [<- hm] at hA CW
 obtain ⟨T, hTt⟩ : ∃ T, T = bstr (l.take m) := ⟨_, rfl⟩
 have hbt : bs T = l.take m := by rw [hTt, jw (R.dg.take m)]
 rw [<- hbt, R.len] at hA
 have hcap := R.fits
 have HCV : Hid (∀ W, Below w.heap.size w W -> (convert 22 9 (.slice (adv ao cap 0) m cap)).run Tryz.prog W = .ok (.string T) W) := fun W hW => by
  rw [hTt]; exact yu ((R.below hW).front hml)
 have hsl := fun W => y6 (w := W) (ao := ao) (n := n) (cap := cap) (m := m) (by omega)
 have hsl2 := fun W => yt (w := W) (ao := ao) (n := n) (cap := cap) (m := m) (by omega)
 obtain ⟨ax, hax⟩ : ∃ a, a = adv ao cap 0 := ⟨_, rfl⟩
 rw [<- hax] at HCV hsl hsl2
 have g1 := zj T [35, 116]
 have g2 := zj T [35, 116, 114, 117, 101]
 have g3 := zj T [35, 102]
 have g4 := zj T [35, 102, 97, 108, 115, 101]
 have g5 := zj T [35, 117, 56]
 obtain ⟨b, o, rfl, hb, hc⟩ := R.rd.some (by rw [R.len]; exact hn)
 have hrm := R.most
 unfold maxLen at hrm
 have HLn := hid R.len
 have HC : Hid (∀ W, Below w.heap.size w W -> m < n -> W.cell? ⟨b, o + m, none⟩ = some (.int .u8 (l.getD m 0 : Nat))) := fun W hW h => (hW.cell (p := ⟨b, o + m, none⟩) hb).trans (hc m (by rw [R.len]; exact h))
 have HA := hid hA
 have HX : Hid (∀ W, Below (w.heap.size + 1) (w.alloc (.cells #[.int .i64 0, .int .i64 0, .string ⟨#[]⟩, .int .i64 0, .int .i64 0] 31)) W -> TxW w W) := fun W h => ⟨(ym.new w).on (by rw [ze]; exact h), HB0.out.trans (h.mono (by omega))⟩
 rw [ze] at CW
 clear hA hm hbt hTt hax R RA hc hT
 go_enter Tryz.func85, Tryz.ntmps85
 go_wp2_with fail
 go_at_call 86
 with_reducible refine CW.out.mono ?_
 rintro e wa ⟨rfl, ba⟩
 have HW := hid (HX.out wa ba)
 have hcv := HCV.out wa HW.out.2
 obtain ⟨⟨c0, c1, c2, c3, c4⟩, f0, f1', f2, f3, f4⟩ := HW.out.1.facts
 have hcell := HC.out wa HW.out.2
 clear ba
 unfold jj at HA
 by_cases n0 : bs T = [35, 116]
 ·rw [show decide (bs T = List.map UInt8.toNat [35, 116]) = true from decide_eq_true n0] at g1
  have HA2 : Hid (A = some (10, 1, ⟨#[]⟩, m)) := by unfold Hid; rw [HA.out, n0]; rfl
  clear HA n0 g2 g3 g4 g5 hcell
  go_wp2_with fail
  rw [HA2.out]
  exact bodyPost_ret (v := .tuple #[tkV 10 1 ⟨#[]⟩ 0 0, .int .i64 m]) (by simp [results, Tryz.results85, go_sem, tkV, c0, c1, c2, c3, c4]) rfl (PTok.yes rfl (zc HW.out.2 (Nat.le_refl _) _ _ _ _ _))
 rw [show decide (bs T = List.map UInt8.toNat [35, 116]) = false from decide_eq_false n0] at g1
 by_cases n1 : bs T = [35, 116, 114, 117, 101]
 ·rw [show decide (bs T = List.map UInt8.toNat [35, 116, 114, 117, 101]) = true from decide_eq_true n1] at g2
  have HA2 : Hid (A = some (10, 1, ⟨#[]⟩, m)) := by unfold Hid; rw [HA.out, n1]; rfl
  clear HA n1 g3 g4 g5 hcell
  go_wp2_with fail
  rw [HA2.out]
  exact bodyPost_ret (v := .tuple #[tkV 10 1 ⟨#[]⟩ 0 0, .int .i64 m]) (by simp [results, Tryz.results85, go_sem, tkV, c0, c1, c2, c3, c4]) rfl (PTok.yes rfl (zc HW.out.2 (Nat.le_refl _) _ _ _ _ _))
 rw [show decide (bs T = List.map UInt8.toNat [35, 116, 114, 117, 101]) = false from decide_eq_false n1] at g2
 by_cases n2 : bs T = [35, 102]
 ·rw [show decide (bs T = List.map UInt8.toNat [35, 102]) = true from decide_eq_true n2] at g3
  have HA2 : Hid (A = some (10, 0, ⟨#[]⟩, m)) := by unfold Hid; rw [HA.out, n2]; rfl
  clear HA n2 g4 g5 hcell
  go_wp2_with fail
  rw [HA2.out]
  exact bodyPost_ret (v := .tuple #[tkV 10 0 ⟨#[]⟩ 0 0, .int .i64 m]) (by simp [results, Tryz.results85, go_sem, tkV, c0, c1, c2, c3, c4]) rfl (PTok.yes rfl (zc HW.out.2 (Nat.le_refl _) _ _ _ _ _))
 rw [show decide (bs T = List.map UInt8.toNat [35, 102]) = false from decide_eq_false n2] at g3
 by_cases n3 : bs T = [35, 102, 97, 108, 115, 101]
 ·rw [show decide (bs T = List.map UInt8.toNat [35, 102, 97, 108, 115, 101]) = true from decide_eq_true n3] at g4
  have HA2 : Hid (A = some (10, 0, ⟨#[]⟩, m)) := by unfold Hid; rw [HA.out, n3]; rfl
  clear HA n3 g5 hcell
  go_wp2_with fail
  rw [HA2.out]
  exact bodyPost_ret (v := .tuple #[tkV 10 0 ⟨#[]⟩ 0 0, .int .i64 m]) (by simp [results, Tryz.results85, go_sem, tkV, c0, c1, c2, c3, c4]) rfl (PTok.yes rfl (zc HW.out.2 (Nat.le_refl _) _ _ _ _ _))
 rw [show decide (bs T = List.map UInt8.toNat [35, 102, 97, 108, 115, 101]) = false from decide_eq_false n3] at g4
 have HA2 : Hid (A = if bs T = [35, 117, 56] /\ m < n /\ l.getD m 0 = 40 then some (4, 0, ⟨#[]⟩, m + 1) else none) := by
  unfold Hid; rw [HA.out, if_neg (fun h => h.elim n0 n1), if_neg (fun h => h.elim n2 n3)]
 clear HA n0 n1 n2 n3
 by_cases n5 : bs T = [35, 117, 56]
 ·rw [show decide (bs T = List.map UInt8.toNat [35, 117, 56]) = true from decide_eq_true n5] at g5
  by_cases hlt : m < n
  ·have hcv2 := hcell hlt
   clear hcell
   have hcell := hcv2
   clear hcv2
   have m0 : (0 : Int) <= (m : Int) := by omega
   have m1 : (m : Int) < (n : Int) := by omega
   obtain ⟨x, hx⟩ : ∃ x, x = l.getD m 0 := ⟨_, rfl⟩
   rw [<- hx] at hcell HA2
   by_cases h40 : x = 40
   ·have t1 : ((x : Int) == 40) = true := by simp; omega
    have HA3 : Hid (A = some (4, 0, ⟨#[]⟩, m + 1)) := HA2.out.trans (if_pos ⟨n5, hlt, h40⟩)
    clear HA2 n5 hx h40
    go_wp2_with fail
    rw [HA3.out]
    exact bodyPost_ret (v := .tuple #[tkV 4 0 ⟨#[]⟩ 0 0, .int .i64 ((m : Int) + 1)]) (by simp [results, Tryz.results85, go_sem, tkV, c0, c1, c2, c3, c4]) rfl (PTok.yes (by omega) (zc HW.out.2 (Nat.le_refl _) _ _ _ _ _))
   ·have t1 : ((x : Int) == 40) = false := by simp; omega
    have HA3 : Hid (A = none) := HA2.out.trans (if_neg (fun h => h40 h.2.2))
    clear HA2 n5 hx h40
    go_wp2_with fail
    rw [HA3.out]
    exact bodyPost_ret (v := .tuple #[tkV 0 0 ⟨#[]⟩ 0 0, .int .i64 0]) (by simp [results, Tryz.results85, go_sem, tkV, c0, c1, c2, c3, c4]) rfl (PTok.no (zc HW.out.2 (Nat.le_refl _) _ _ _ _ _))
  ·have m1 : ¬ (m : Int) < (n : Int) := by omega
   have HA3 : Hid (A = none) := HA2.out.trans (if_neg (fun h => hlt h.2.1))
   clear HA2 n5 hcell
   go_wp2_with fail
   rw [HA3.out]
   exact bodyPost_ret (v := .tuple #[tkV 0 0 ⟨#[]⟩ 0 0, .int .i64 0]) (by simp [results, Tryz.results85, go_sem, tkV, c0, c1, c2, c3, c4]) rfl (PTok.no (zc HW.out.2 (Nat.le_refl _) _ _ _ _ _))
 ·rw [show decide (bs T = List.map UInt8.toNat [35, 117, 56]) = false from decide_eq_false n5] at g5
  have HA3 : Hid (A = none) := HA2.out.trans (if_neg (fun h => n5 h.1))
  clear HA2 n5 hcell
  go_wp2_with fail
  rw [HA3.out]
  exact bodyPost_ret (v := .tuple #[tkV 0 0 ⟨#[]⟩ 0 0, .int .i64 0]) (by simp [results, Tryz.results85, go_sem, tkV, c0, c1, c2, c3, c4]) rfl (PTok.no (zc HW.out.2 (Nat.le_refl _) _ _ _ _ _))
end Go.Proofs.YtbkfinjajkjhaaaGreatDoor
