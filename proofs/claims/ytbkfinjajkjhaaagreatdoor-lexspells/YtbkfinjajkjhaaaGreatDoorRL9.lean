import Derived.Test.YtbkfinjajkjhaaaGreatDoorTK1
import Derived.Deep.DeepCutAuto
import Derived.Deep.CutBlock
set_option linter.unusedVariables false
set_option linter.unusedSimpArgs false
set_option maxRecDepth 100000
namespace Go.Proofs.YtbkfinjajkjhaaaGreatDoor
open Go.RowKit
def RLab (w : World) (p : Nat) (r : Option (Nat × Nat × Nat)) (e : Ending) (w' : World) : Prop :=
 ∃ k n f o : Int, e = .returned (tkV k n ⟨#[]⟩ f o) /\ (r = none -> k = 0) /\ (∀ x, r = some x -> k = (x.1 : Nat) /\ n = (x.2.1 : Nat) /\ o = ((p + x.2.2 : Nat) : Int)) /\ Below w.heap.size w w'
theorem two_new (w : World) (a b c d e : Value) (t : TypeId) (o : Obj) : ((w.alloc (.cells #[a, b, c, d, e] t)).alloc o).cell? ⟨w.heap.size, 0, none⟩ = some a /\ ((w.alloc (.cells #[a, b, c, d, e] t)).alloc o).cell? ⟨w.heap.size, 1, none⟩ = some b /\ ((w.alloc (.cells #[a, b, c, d, e] t)).alloc o).cell? ⟨w.heap.size, 2, none⟩ = some c /\ ((w.alloc (.cells #[a, b, c, d, e] t)).alloc o).cell? ⟨w.heap.size, 3, none⟩ = some d /\ ((w.alloc (.cells #[a, b, c, d, e] t)).alloc o).cell? ⟨w.heap.size, 4, none⟩ = some e := by
 have h := blk_new w #[a, b, c, d, e] t
 have h2 : ((w.alloc (.cells #[a, b, c, d, e] t)).alloc o).heap[w.heap.size]? = some (.cells #[a, b, c, d, e] t (0, 0)) := ((Ba (w.alloc (.cells #[a, b, c, d, e] t)) o).block _ (Array.getElem?_eq_some_iff.1 h).1).trans h
 exact ⟨blk_cell h2 0, blk_cell h2 1, blk_cell h2 2, blk_cell h2 3, blk_cell h2 4⟩
theorem load5 {P : Program} {w : World} {g : Nat} {a b c d e : Value} (h : w.cell? ⟨g, 0, none⟩ = some a /\ w.cell? ⟨g, 1, none⟩ = some b /\ w.cell? ⟨g, 2, none⟩ = some c /\ w.cell? ⟨g, 3, none⟩ = some d /\ w.cell? ⟨g, 4, none⟩ = some e) : (loadCellsFrom ⟨g, 0, none⟩ 0 5 #[]).run P w = .ok #[a, b, c, d, e] w := by
 obtain ⟨h0, h1, h2, h3, h4⟩ := h
 simp [loadCellsFrom, go_sem, h0, h1, h2, h3, h4]
set_option maxHeartbeats 16000000 in
theorem rlabel_any (s : ByteArray) (p : Nat) (w : World) (hs : s.size <= 5000) (hp : p < s.size) : Calls Tryz.prog 67 #[.string s, .int .i64 p] w (RLab w p (labM ((bs s).drop p))) := by
 have hl := bs_length s
 have HL := hid hl
 obtain ⟨X, hX⟩ : ∃ X, X = labM ((bs s).drop p) := ⟨_, rfl⟩
 rw [<- hX]
 obtain ⟨R, hR⟩ : ∃ R, R = dgA 9 ((bs s).drop (p + 1)) 0 0 := ⟨_, rfl⟩
 have HX : Hid (X = labF ((bs s).drop p) R) := by unfold Hid; rw [hX, hR]; unfold labM; rw [List.drop_drop]
 have HR := hid hR
 clear hX hR hl
 go_enter Tryz.func67, Tryz.ntmps67
 go_upto_block 0 with fail
 go_cut [5, 6] (fun u v wx => ∃ n i : Nat, u = .int .i64 n /\ v = .int .i64 i /\ p + 1 <= i /\ i <= s.size /\ n < 1000000000 /\ Hid (R = (n, i - (p + 1))) /\ wx = w.alloc (.cells #[.int .i64 0, .int .i64 0, .string ⟨#[]⟩, .int .i64 0, .int .i64 0] 31))
 case first =>
  go_wp2_with fail
  go_loopg [5, 6] (s.size - (p + 1)) (fun g u v wx => ∃ n i f : Nat, u = .int .i64 n /\ v = .int .i64 i /\ g = s.size - i /\ p + 1 <= i /\ i <= s.size /\ i + f = p + 10 /\ n < 10 ^ (i - (p + 1)) /\ Hid (R = dgA f ((bs s).drop i) n (i - (p + 1))) /\ wx = w.alloc (.cells #[.int .i64 0, .int .i64 0, .string ⟨#[]⟩, .int .i64 0, .int .i64 0] 31))
  case atStart => exact ⟨0, p + 1, 9, rfl, by go_num, rfl, Nat.le_refl _, hp, by omega, by rw [Nat.sub_self]; decide, by rw [Nat.sub_self]; exact HR.out, rfl⟩
  case round =>
   obtain ⟨n, i, f, rfl, rfl, rfl, hi1, hi2, hf, hn, hI, rfl⟩ := hrel
   clear HR HX
   have hn9 : n < 1000000000 := Nat.lt_of_lt_of_le hn (Nat.le_trans (Nat.pow_le_pow_right (by omega) (by omega : i - (p + 1) <= 9)) (by decide))
   by_cases hlt : i < s.size
   ·have hb := bs_get s i hlt
    have hg : ((bs s).drop i).getD 0 0 = (s[i]'hlt).toNat := by rw [dropN_cons (by rw [HL.out]; exact hlt), <- hb]; rfl
    have hne : (bs s).drop i ≠ [] := by intro e; have := congrArg List.length e; rw [List.length_drop, HL.out] at this; simp at this; omega
    have i0 : (0 : Int) <= (i : Int) := by omega
    have i1 : (i : Int) < (s.size : Int) := by omega
    clear hb
    by_cases hf1 : f = 0
    ·have i2 : ¬ ((i : Int) < (p : Int) + 10) := by omega
     have eR : Hid (R = (n, i - (p + 1))) := by unfold Hid; rw [hI.out, hf1]; rfl
     clear hI hf1 hg hne
     go_wp2_with fail
     go_meet
     case rel => exact ⟨n, i, rfl, rfl, hi1, hi2, hn9, eR.out, rfl⟩
    ·have i2 : (i : Int) < (p : Int) + 10 := by omega
     obtain ⟨f', rfl⟩ : ∃ f', f = f' + 1 := ⟨f - 1, by omega⟩
     by_cases hd1 : 48 <= (s[i]'hlt).toNat
     ·have d1' : (48 : Int) <= ((s[i]'hlt).toNat : Int) := by omega
      by_cases hd2 : (s[i]'hlt).toNat <= 57
      ·have d2' : ((s[i]'hlt).toNat : Int) <= 57 := by omega
       have e1 : Hid (R = dgA f' ((bs s).drop (i + 1)) (10 * n + ((s[i]'hlt).toNat - 48)) (i + 1 - (p + 1))) := by
        unfold Hid; rw [hI.out]; conv => lhs; unfold dgA
        rw [hg, if_pos ⟨hne, hd1, hd2⟩, List.drop_drop, show i + 1 - (p + 1) = i - (p + 1) + 1 by omega]
       have hn' : 10 * n + ((s[i]'hlt).toNat - 48) < 10 ^ (i + 1 - (p + 1)) := by
        rw [show i + 1 - (p + 1) = (i - (p + 1)) + 1 by omega, Nat.pow_succ]; omega
       clear hI hg hne
       go_wp2_with fail
       go_roundg (s.size - (i + 1))
       case measure => omega
       case rel => exact ⟨10 * n + ((s[i]'hlt).toNat - 48), i + 1, f', by rw [show 10 * (n : Int) + (((s[i]'hlt).toNat : Int) - 48) = ((10 * n + ((s[i]'hlt).toNat - 48) : Nat) : Int) by omega], by go_num, rfl, by omega, by omega, by omega, hn', e1.out, rfl⟩
      ·have d2' : ¬ (((s[i]'hlt).toNat : Int) <= 57) := by omega
       have eR : Hid (R = (n, i - (p + 1))) := by unfold Hid; rw [hI.out]; unfold dgA; rw [hg, if_neg (fun h => hd2 h.2.2)]
       clear hI hg hne hd2
       go_wp2_with fail
       go_meet
       case rel => exact ⟨n, i, rfl, rfl, hi1, hi2, hn9, eR.out, rfl⟩
     ·have d1' : ¬ ((48 : Int) <= ((s[i]'hlt).toNat : Int)) := by omega
      have eR : Hid (R = (n, i - (p + 1))) := by unfold Hid; rw [hI.out]; unfold dgA; rw [hg, if_neg (fun h => hd1 h.2.1)]
      clear hI hg hne hd1
      go_wp2_with fail
      go_meet
      case rel => exact ⟨n, i, rfl, rfl, hi1, hi2, hn9, eR.out, rfl⟩
   ·have i1 : ¬ ((i : Int) < (s.size : Int)) := by omega
    have eR : Hid (R = (n, i - (p + 1))) := by
     unfold Hid; rw [hI.out]
     cases f with
     | zero => rfl
     | succ f => unfold dgA; rw [if_neg (fun h => h.1 (List.drop_eq_nil_of_le (by rw [HL.out]; omega)))]
    clear hI
    go_wp2_with fail
    go_meet
    case rel => exact ⟨n, i, rfl, rfl, hi1, hi2, hn9, eR.out, rfl⟩
 case rest =>
  obtain ⟨n, i, rfl, rfl, hi1, hi2, hn, hI, rfl⟩ := hcut
  clear HR
  have hXe : X = labF ((bs s).drop p) (n, i - (p + 1)) := by rw [HX.out, hI.out]
  clear hI HX
  unfold labF at hXe
  by_cases hz : i = p + 1
  ·have iz : ((i : Int) == (p : Int) + 1) = true := by simp; omega
   have hX1 : Hid (X = none) := by unfold Hid; rw [hXe, if_pos (.inl (by omega))]
   clear hz hXe
   go_wp2_with fail
   rw [hX1.out]
   have cc := two_new w (.int .i64 0) (.int .i64 0) (.string ⟨#[]⟩) (.int .i64 0) (.int .i64 0) 31 (.cells #[.int .i64 0, .int .i64 n, .string ⟨#[]⟩, .int .i64 p, .int .i64 (i + 1)] 31)
   exact bodyPost_ret (v := tkV 0 0 ⟨#[]⟩ 0 0) (by simp only [results, Tryz.results67, go_sem, tkV]; simp; rw [load5 cc]; rfl) rfl ⟨_, _, _, _, rfl, fun _ => rfl, fun x h => (by cases h), Bt (Ba w _) (Ba _ _)⟩
  ·have iz : ((i : Int) == (p : Int) + 1) = false := by simp; omega
   by_cases hlt : i < s.size
   ·have i0 : (0 : Int) <= (i : Int) := by omega
    have i1 : (i : Int) < (s.size : Int) := by omega
    have i3 : ¬ ((s.size : Int) <= (i : Int)) := by omega
    have hg : ((bs s).drop p).getD (i - (p + 1) + 1) 0 = (s[i]'hlt).toNat := by
     rw [<- bs_get s i hlt, List.getD_eq_getElem?_getD, List.getElem?_drop, List.getD_eq_getElem?_getD, show p + (i - (p + 1) + 1) = i by omega]
    rw [if_neg (by rw [List.length_drop, HL.out]; show ¬ (i - (p + 1) = 0 \/ s.size - p <= i - (p + 1) + 1); omega)] at hXe
    simp only [hg] at hXe
    clear hg
    by_cases h61 : (s[i]'hlt).toNat = 61
    ·have t1 : (((s[i]'hlt).toNat : Int) == 61) = true := by simp; omega
     have hX1 : Hid (X = some (8, n, i - (p + 1) + 2)) := by unfold Hid; rw [hXe, if_pos h61]
     clear hXe h61
     go_wp2_with fail
     rw [hX1.out]
     have cc := two_new w (.int .i64 8) (.int .i64 n) (.string ⟨#[]⟩) (.int .i64 p) (.int .i64 (i + 1)) 31 (.cells #[.int .i64 8, .int .i64 n, .string ⟨#[]⟩, .int .i64 p, .int .i64 (i + 1)] 31)
     exact bodyPost_ret (v := tkV 8 n ⟨#[]⟩ p (i + 1)) (by simp only [results, Tryz.results67, go_sem, tkV]; simp; rw [load5 cc]; rfl) rfl ⟨_, _, _, _, rfl, fun h => (by cases h), fun x h => (by cases h; exact ⟨rfl, rfl, by show (i : Int) + 1 = ((p + (i - (p + 1) + 2) : Nat) : Int); omega⟩), Bt (Ba w _) (Ba _ _)⟩
    ·have t1 : (((s[i]'hlt).toNat : Int) == 61) = false := by simp; omega
     rw [if_neg h61] at hXe
     by_cases h35 : (s[i]'hlt).toNat = 35
     ·have t2 : (((s[i]'hlt).toNat : Int) == 35) = true := by simp; omega
      have hX1 : Hid (X = some (9, n, i - (p + 1) + 2)) := by unfold Hid; rw [hXe, if_pos h35]
      clear hXe h35 h61
      go_wp2_with fail
      rw [hX1.out]
      have cc := two_new w (.int .i64 9) (.int .i64 n) (.string ⟨#[]⟩) (.int .i64 p) (.int .i64 (i + 1)) 31 (.cells #[.int .i64 9, .int .i64 n, .string ⟨#[]⟩, .int .i64 p, .int .i64 (i + 1)] 31)
      exact bodyPost_ret (v := tkV 9 n ⟨#[]⟩ p (i + 1)) (by simp only [results, Tryz.results67, go_sem, tkV]; simp; rw [load5 cc]; rfl) rfl ⟨_, _, _, _, rfl, fun h => (by cases h), fun x h => (by cases h; exact ⟨rfl, rfl, by show (i : Int) + 1 = ((p + (i - (p + 1) + 2) : Nat) : Int); omega⟩), Bt (Ba w _) (Ba _ _)⟩
     ·have t2 : (((s[i]'hlt).toNat : Int) == 35) = false := by simp; omega
      have hX1 : Hid (X = none) := by unfold Hid; rw [hXe, if_neg h35]
      clear hXe h35 h61
      go_wp2_with fail
      rw [hX1.out]
      have cc := two_new w (.int .i64 0) (.int .i64 n) (.string ⟨#[]⟩) (.int .i64 p) (.int .i64 (i + 1)) 31 (.cells #[.int .i64 0, .int .i64 n, .string ⟨#[]⟩, .int .i64 p, .int .i64 (i + 1)] 31)
      exact bodyPost_ret (v := tkV 0 n ⟨#[]⟩ p (i + 1)) (by simp only [results, Tryz.results67, go_sem, tkV]; simp; rw [load5 cc]; rfl) rfl ⟨_, _, _, _, rfl, fun h => rfl, fun x h => (by cases h), Bt (Ba w _) (Ba _ _)⟩
   ·have i3 : (s.size : Int) <= (i : Int) := by omega
    have hX1 : Hid (X = none) := by unfold Hid; rw [hXe, if_pos (.inr (by rw [List.length_drop, HL.out]; show s.size - p <= i - (p + 1) + 1; omega))]
    clear hXe
    go_wp2_with fail
    rw [hX1.out]
    have cc := two_new w (.int .i64 0) (.int .i64 0) (.string ⟨#[]⟩) (.int .i64 0) (.int .i64 0) 31 (.cells #[.int .i64 0, .int .i64 n, .string ⟨#[]⟩, .int .i64 p, .int .i64 (i + 1)] 31)
    exact bodyPost_ret (v := tkV 0 0 ⟨#[]⟩ 0 0) (by simp only [results, Tryz.results67, go_sem, tkV]; simp; rw [load5 cc]; rfl) rfl ⟨_, _, _, _, rfl, fun _ => rfl, fun x h => (by cases h), Bt (Ba w _) (Ba _ _)⟩
end Go.Proofs.YtbkfinjajkjhaaaGreatDoor
