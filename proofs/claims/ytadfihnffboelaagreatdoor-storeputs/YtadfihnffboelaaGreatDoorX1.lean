import Derived.Test.YtadfihnffboelaaGreatDoorG3
import Derived.Test.YtadfihnffboelaaGreatDoorW7
import Derived.Test.YtadfihnffboelaaGreatDoorProg
set_option linter.unusedVariables false
set_option linter.unusedSimpArgs false
namespace Go.Proofs.YtadfihnffboelaaGreatDoor
open Go.RowKit
theorem fs (s : ByteArray) (i : Nat) : 1 <= (Utf8.decode s i).2 /\ (Utf8.decode s i).2 <= 4 := by
 rw [xv]
 repeat' split
 all_goals simp
def utfN (s : ByteArray) : Int := if Lib.validD s.data.toList then (Lib.runeCount s : Int) else -1
structure Uv (s : ByteArray) (p c fuel : Nat) : Prop where
 v : Lib.validD s.data.toList = Lib.validD (s.data.toList.drop p)
 c : c + Lib.runeCountFrom s fuel p = Lib.runeCount s
 f : s.size <= p + fuel
theorem Uv.bad {s : ByteArray} {p c fuel : Nat} (h : Uv s p c fuel) (hp : p < s.size) (hb : (yt s p).2 = 0) : utfN s = -1 := by
 have hd : Utf8.decode s p = (65533, 1) := by
  unfold yt at hb
  split at hb
  ·assumption
  ·have := (fs s p).1; omega
 unfold utfN
 rw [h.v, Lib.validD_step _ (by intro e; have := congrArg List.length e; simp at this; have h2 : s.data.size = s.size := rfl; omega), Lib.decodeL_drop, hd]
 simp
theorem Uv.next {s : ByteArray} {p c fuel : Nat} (h : Uv s p c (fuel + 1)) (hp : p < s.size) (hb : (yt s p).2 ≠ 0) : Uv s (p + (yt s p).2) (c + 1) fuel /\ 1 <= (yt s p).2 /\ (yt s p).2 <= 4 := by
 have hne : ¬ Utf8.decode s p = (65533, 1) := by
  intro e; unfold yt at hb; rw [if_pos e] at hb; exact hb rfl
 have e : yt s p = Utf8.decode s p := by unfold yt; rw [if_neg hne]
 rw [e]
 have hl := fs s p
 refine ⟨⟨?_, ?_, ?_⟩, hl⟩
 ·rw [h.v, Lib.validD_step _ (by intro e; have := congrArg List.length e; simp at this; have h2 : s.data.size = s.size := rfl; omega), Lib.decodeL_drop, if_neg, List.drop_drop]
  intro h2
  exact hne (Prod.ext h2.1 h2.2)
 ·have := h.c
  unfold Lib.runeCountFrom at this
  rw [if_pos hp] at this
  omega
 ·have := h.f; omega
theorem Uv.end_ {s : ByteArray} {p c fuel : Nat} (h : Uv s p c fuel) (hp : ¬ p < s.size) : utfN s = c := by
 unfold utfN
 rw [h.v, List.drop_eq_nil_of_le (by have h2 : s.data.size = s.size := rfl; simp; omega)]
 have := h.c
 rw [Lib.runeCountFrom_end s fuel p hp] at this
 rw [if_pos Lib.validD_nil]; omega
set_option maxHeartbeats 1000000 in
theorem zzp (s : ByteArray) (w : World) (hs : s.size <= 1000000) : Calls Tryz.prog 100 #[.string s] w fun e w' => e = .returned (.int .i64 (utfN s)) /\ ∃ k, w' = w.drewN k := by
 go_enter Tryz.func100, Tryz.ntmps100
 go_wp2
 go_loopw [3, 4] (fun n i wr => ∃ p c fuel : Nat, i = .int .i64 p /\ n = .int .i64 c /\ c <= p /\ p <= s.size + 4 /\ Hid (Uv s p c fuel /\ ∃ k, wr = w.drewN k)) (fun _ i _ => s.size + 4 - (intOf i).toNat)
 case atStart => exact ⟨0, 0, s.size, rfl, rfl, Nat.le_refl _, by omega, ⟨rfl, by simp [Lib.runeCount], by omega⟩, 0, rfl⟩
 case round =>
  obtain ⟨p, c, fuel, rfl, rfl, hcp, hps, hI⟩ := hrel
  by_cases hlt : p < s.size
  ·have HC := hid (znb s p wr hlt hs)
   obtain ⟨f, rfl⟩ : ∃ f, fuel = f + 1 := ⟨fuel - 1, by have := hI.out.1.f; omega⟩
   have HN : Hid ((yt s p).2 ≠ 0 -> Uv s (p + (yt s p).2) (c + 1) f /\ 1 <= (yt s p).2 /\ (yt s p).2 <= 4) := hI.out.1.next hlt
   have HBAD : Hid ((yt s p).2 = 0 -> utfN s = -1) := hI.out.1.bad hlt
   obtain ⟨k, hk⟩ : ∃ k, k = (yt s p).2 := ⟨_, rfl⟩
   unfold yl at HC
   rw [<- hk] at HC HN HBAD
   clear hk
   generalize (yt s p).1 = r at *
   by_cases hk0 : k = 0
   ·subst hk0
    have hU := hid (HBAD.out rfl)
    go_wp2_with (go_at_call 127; refine HC.out.mono ?_; rintro e w2 ⟨rfl, k2, hw2⟩; rw [hw2])
    go_ret
    obtain ⟨k1, hw⟩ := hI.out.2
    exact ⟨by rw [hU.out]; rfl, k1 + k2, by rw [hw, World.drewN_drewN]⟩
   ·obtain ⟨hU, hk1, hk4⟩ := HN.out hk0
    have HU := hid hU
    have ek : ((k : Int) == 0) = false := by simp; omega
    clear hU
    go_wp2_with (go_at_call 127; refine HC.out.mono ?_; rintro e w2 ⟨rfl, k2, hw2⟩; rw [hw2])
    obtain ⟨k1, hw⟩ := hI.out.2
    refine ⟨⟨p + k, c + 1, f, by congr 1, by congr 1, by omega, by omega, HU.out, k1 + k2, by rw [hw, World.drewN_drewN]⟩, by simp [intOf] <;> omega⟩
  ·have hU := hid (hI.out.1.end_ hlt)
   go_wp2
   go_ret
   exact ⟨by rw [hU.out]; rfl, hI.out.2⟩
def ltrB (n : Int) : Bool := decide (0 <= n) && decide (n <= 1114111) && (decide (n < 55296) || decide (57343 < n))
def zk (k n t : Int) : Bool :=
 if k = 1 then decide (-1152921504606846976 <= n) && decide (n < 1152921504606846976)
 else if k = 2 then decide (0 <= n) && decide (n <= 1099511627776)
 else if k = 3 then decide (0 <= n) && decide (n <= 5)
 else if k = 4 then decide (0 <= n) && decide (n < 1073741824) && ltrB n
 else if k = 5 \/ k = 6 \/ k = 7 then decide (0 <= n) && decide (n <= 1073741824)
 else if k = 8 then decide (1 <= t) && decide (t <= 255) && (decide (0 <= n) && decide (n <= 1099511627776))
 else false
def wrdB (k n t : Int) : Int :=
 if k = 1 then (n * 8) % 18446744073709551616
 else if k = 2 then n * 8 + 1
 else if k = 3 then n * 8 + 2
 else if k = 8 then n * 2048 + t * 8 + 7
 else n * 256 + (k + 2) * 8 + 2
def zj (k n t : Int) : Int := if zk k n t then wrdB k n t else 0
def sgnW (w : Int) : Int := if w < 9223372036854775808 then w else w - 18446744073709551616
def jj (w : Int) : Int × Int × Int :=
 if w % 8 = 0 then (1, sgnW w / 8, 0)
 else if w % 8 = 1 then (2, w / 8, 0)
 else if w % 8 = 2 then
  (if w / 8 % 32 <= 5 /\ w / 256 = 0 then (3, w / 8 % 32, 0)
   else if 6 <= w / 8 % 32 /\ w / 8 % 32 <= 9 then (w / 8 % 32 - 2, w / 256, 0) else (0, 0, 0))
 else if w % 8 = 7 then (8, w / 2048, w / 8 % 256)
 else (0, 0, 0)
def ofR (w : Int) : Int × Int × Int := if zk (jj w).1 (jj w).2.1 (jj w).2.2 then jj w else (0, 0, 0)
def U64 (w : Int) : Prop := 0 <= w /\ w < 18446744073709551616
theorem x7 {n : Int} (h : ltrB n = true) : 0 <= n /\ n <= 1114111 := by
 unfold ltrB at h
 simp only [Bool.and_eq_true, Bool.or_eq_true, decide_eq_true_eq] at h
 omega
theorem zbb {k n t : Int} (h : zk k n t = true) :
  (k = 1 /\ -1152921504606846976 <= n /\ n < 1152921504606846976) \/ (k = 2 /\ 0 <= n /\ n <= 1099511627776) \/ (k = 3 /\ 0 <= n /\ n <= 5) \/ (k = 4 /\ 0 <= n /\ n <= 1114111 /\ ltrB n = true) \/ ((k = 5 \/ k = 6 \/ k = 7) /\ 0 <= n /\ n <= 1073741824) \/ (k = 8 /\ 1 <= t /\ t <= 255 /\ 0 <= n /\ n <= 1099511627776) := by
 unfold zk at h
 split at h
 ·simp only [Bool.and_eq_true, decide_eq_true_eq] at h; omega
 split at h
 ·simp only [Bool.and_eq_true, decide_eq_true_eq] at h; omega
 split at h
 ·simp only [Bool.and_eq_true, decide_eq_true_eq] at h; omega
 split at h
 ·simp only [Bool.and_eq_true, decide_eq_true_eq] at h
  have := x7 h.2
  refine .inr (.inr (.inr (.inl ⟨by assumption, by omega, by omega, h.2⟩)))
 split at h
 ·simp only [Bool.and_eq_true, decide_eq_true_eq] at h; omega
 split at h
 ·simp only [Bool.and_eq_true, decide_eq_true_eq] at h; omega
 ·cases h
theorem zrv {k n t : Int} (h : zk k n t = true) : U64 (wrdB k n t) := by
 unfold U64 wrdB
 rcases zbb h with ⟨rfl, h1⟩ | ⟨rfl, h1⟩ | ⟨rfl, h1⟩ | ⟨rfl, h1⟩ | ⟨h0, h1⟩ | ⟨rfl, h1⟩
 ·simp only [if_true]; omega
 ·simp only [show (2 : Int) ≠ 1 from by decide, if_true, if_false]; omega
 ·simp only [show (3 : Int) ≠ 1 from by decide, show (3 : Int) ≠ 2 from by decide, if_true, if_false]; omega
 ·simp only [show (4 : Int) ≠ 1 from by decide, show (4 : Int) ≠ 2 from by decide, show (4 : Int) ≠ 3 from by decide, show (4 : Int) ≠ 8 from by decide, if_true, if_false]; omega
 ·rw [if_neg (by omega), if_neg (by omega), if_neg (by omega), if_neg (by omega)]; omega
 ·simp only [show (8 : Int) ≠ 1 from by decide, show (8 : Int) ≠ 2 from by decide, show (8 : Int) ≠ 3 from by decide, if_true, if_false]; omega
theorem zv (k n t : Int) : U64 (zj k n t) := by
 unfold zj
 split
 ·exact zrv (by assumption)
 ·unfold U64; omega
theorem zwd {k n t : Int} (h : zk k n t = true) : jj (wrdB k n t) = (k, n, if k = 8 then t else 0) := by
 have hr := zrv h
 unfold U64 wrdB at hr
 unfold jj wrdB sgnW
 rcases zbb h with ⟨rfl, h1, h2⟩ | ⟨rfl, h1, h2⟩ | ⟨rfl, h1, h2⟩ | ⟨rfl, h1, h2, h3⟩ | ⟨h0, h1, h2⟩ | ⟨rfl, h1, h2, h3, h4⟩
 ·simp only [if_true] at hr ⊢
  obtain ⟨m, hm⟩ : ∃ m, m = n * 8 % 18446744073709551616 := ⟨_, rfl⟩
  rw [<- hm] at hr ⊢
  rw [if_pos (by omega), if_neg (by decide : ¬ (1 : Int) = 8)]
  have e : (if m < 9223372036854775808 then m else m - 18446744073709551616) / 8 = n := by split <;> omega
  rw [e]
 ·simp only [show (2 : Int) ≠ 1 from by decide, if_true, if_false]
  rw [if_neg (by omega), if_pos (by omega), if_neg (by decide)]
  congr 2; omega
 ·simp only [show (3 : Int) ≠ 1 from by decide, show (3 : Int) ≠ 2 from by decide, if_true, if_false]
  rw [if_neg (by omega), if_neg (by omega), if_pos (by omega), if_pos (by omega), if_neg (by decide)]
  congr 2; omega
 ·simp only [show (4 : Int) ≠ 1 from by decide, show (4 : Int) ≠ 2 from by decide, show (4 : Int) ≠ 3 from by decide, show (4 : Int) ≠ 8 from by decide, if_true, if_false]
  rw [if_neg (by omega), if_neg (by omega), if_pos (by omega), if_neg (by omega), if_pos (by omega)]
  have e1 : (n * 256 + (4 + 2) * 8 + 2) / 8 % 32 - 2 = 4 := by omega
  have e2 : (n * 256 + (4 + 2) * 8 + 2) / 256 = n := by omega
  rw [e1, e2]
 ·rw [if_neg (by omega : ¬ k = 1), if_neg (by omega : ¬ k = 2), if_neg (by omega : ¬ k = 3), if_neg (by omega : ¬ k = 8), if_neg (by omega : ¬ k = 8)]
  rw [if_neg (by omega), if_neg (by omega), if_pos (by omega), if_neg (by omega), if_pos (by omega)]
  have e1 : (n * 256 + (k + 2) * 8 + 2) / 8 % 32 - 2 = k := by omega
  have e2 : (n * 256 + (k + 2) * 8 + 2) / 256 = n := by omega
  rw [e1, e2]
 ·simp only [show (8 : Int) ≠ 1 from by decide, show (8 : Int) ≠ 2 from by decide, show (8 : Int) ≠ 3 from by decide, if_true, if_false]
  rw [if_neg (by omega), if_neg (by omega), if_neg (by omega), if_pos (by omega)]
  have e1 : (n * 2048 + t * 8 + 7) / 8 % 256 = t := by omega
  have e2 : (n * 2048 + t * 8 + 7) / 2048 = n := by omega
  rw [e1, e2]
theorem zou {k n t : Int} : zk k n (if k = 8 then t else 0) = zk k n t := by
 unfold zk
 by_cases h : k = 8
 ·simp only [if_pos h]
 ·simp only [if_neg h]
theorem zee {k n t : Int} (h : zk k n t = true) : ofR (zj k n t) = (k, n, if k = 8 then t else 0) := by
 unfold zj ofR
 rw [if_pos h, zwd h]
 simp only [zou, h, if_true]
set_option maxRecDepth 100000
theorem zlp (n : Int) (w : World) : Calls Tryz.prog 102 #[.int .i64 n] w fun e w' => e = .returned (.bool (ltrB n)) /\ w' = w := by
 unfold ltrB
 by_cases h1 : 0 <= n <;> by_cases h2 : n <= 1114111 <;> by_cases h3 : n < 55296 <;> by_cases h4 : 57343 < n <;>
 ·go_enter Tryz.func102, Tryz.ntmps102
  go_wp2
  go_ret
  exact ⟨by simp [h1, h2, h3, h4], rfl⟩
def Z64 (n : Int) : Prop := -9223372036854775808 <= n /\ n <= 9223372036854775807
def SVal (k n t : Int) : Value := .agg #[.int .i64 k, .int .i64 n, .int .i64 t]
set_option maxHeartbeats 4000000 in
theorem zjj (k n t : Int) (hk : Z64 k) (hn : Z64 n) (ht : Z64 t) (w : World) :
  Calls Tryz.prog 101 #[SVal k n t] w fun e w' => e = .returned (.bool (zk k n t)) /\ Below w.heap.size w w' := by
 unfold SVal
 unfold Z64 at hk hn ht
 have bA := hid (Ba w (.cells #[.int .i64 k, .int .i64 n, .int .i64 t] 118))
 go_enter Tryz.func101, Tryz.ntmps101
 go_wp2_with (go_at_call 102; refine (zlp _ _).mono ?_; rintro e w9 ⟨rfl, hw9⟩; rw [hw9])
 all_goals go_ret
 all_goals refine ⟨?_, bA.out⟩
 all_goals clear bA
 all_goals (simp only [beq_iff_eq, beq_eq_false_iff_ne, ne_eq] at *)
 all_goals (unfold zk; simp_all; try omega)
set_option maxHeartbeats 4000000 in
theorem zef (k n t : Int) (hk : Z64 k) (hn : Z64 n) (ht : Z64 t) (w : World) :
  Calls Tryz.prog 81 #[SVal k n t] w fun e w' => e = .returned (.tuple #[.int .u64 (zj k n t), .bool (zk k n t)]) /\ Below w.heap.size w w' := by
 have HR := hid (fun w => zjj k n t hk hn ht w)
 unfold SVal at HR ⊢
 unfold Z64 at hk hn ht
 have bA := hid (Ba w (.cells #[.int .i64 k, .int .i64 n, .int .i64 t] 118))
 go_enter Tryz.func81, Tryz.ntmps81
 go_wp2_with fail
 refine (HR.out _).mono ?_
 rintro e W ⟨rfl, b2⟩
 have hx := (b2.block w.heap.size (by rw [zb]; omega)).trans (zd w #[.int .i64 k, .int .i64 n, .int .i64 t] 118)
 have c0 : W.cell? ⟨w.heap.size, 0, none⟩ = some (.int .i64 k) := za hx 0
 have c1 : W.cell? ⟨w.heap.size, 1, none⟩ = some (.int .i64 n) := za hx 1
 have c2 : W.cell? ⟨w.heap.size, 2, none⟩ = some (.int .i64 t) := za hx 2
 have HB := hid (Bt bA.out b2)
 clear hx b2 bA HR
 obtain ⟨rb, hrb⟩ : ∃ rb, rb = zk k n t := ⟨_, rfl⟩
 rw [<- hrb]
 have HRB := hid hrb
 clear hrb
 cases rb
 ·go_wp2_with fail
  go_ret2
  refine ⟨?_, HB.out⟩
  have := HRB.out
  unfold zj; simp [<- this]
 have hw : Hid (zj k n t = wrdB k n t) := by unfold Hid zj; rw [if_pos HRB.out.symm]
 rcases zbb HRB.out.symm with ⟨rfl, h1, h2⟩ | ⟨rfl, h1, h2⟩ | ⟨rfl, h1, h2⟩ | ⟨rfl, h1, h2, h3⟩ | ⟨rfl | rfl | rfl, h1, h2⟩ | ⟨rfl, h1, h2, h3, h4⟩
 all_goals (go_wp2_with fail; go_ret2; refine ⟨?_, HB.out⟩; rw [hw.out]; simp only [wrdB])
 all_goals (rw [<- HRB.out]; simp [IntKind.wrap_u64]; try omega)
theorem vd {w : World} {g : Nat} {a b c v1 v2 v3 : Value} {t : TypeId} (h : w.heap[g]? = some (.cells #[a, b, c] t (0, 0))) : (((w.setCell ⟨g, 0, none⟩ v1).setCell ⟨g, 1, none⟩ v2).setCell ⟨g, 2, none⟩ v3).heap[g]? = some (.cells #[v1, v2, v3] t (0, 0)) := by
 have h1 := zy (i := 0) h v1
 have h2 := zy (i := 1) h1 v2
 have h3 := zy (i := 2) h2 v3
 rw [h3]; rfl
theorem yc {n : Nat} {w0 w : World} {g : Nat} {v1 v2 v3 : Value} (h : Below n w0 w) (hg : n <= g) : Below n w0 (((w.setCell ⟨g, 0, none⟩ v1).setCell ⟨g, 1, none⟩ v2).setCell ⟨g, 2, none⟩ v3) :=
 ((h.setCell (p := ⟨g, 0, none⟩) hg _).setCell (p := ⟨g, 1, none⟩) hg _).setCell (p := ⟨g, 2, none⟩) hg _
set_option maxHeartbeats 8000000 in
theorem zzq (x : Int) (hx : U64 x) (w : World) :
  Calls Tryz.prog 61 #[.int .u64 x] w fun e w' => e = .returned (SVal (ofR x).1 (ofR x).2.1 (ofR x).2.2) /\ Below w.heap.size w w' := by
 have HR := hid zjj
 unfold SVal at HR ⊢
 unfold U64 at hx
 by_cases h0 : x % 8 = 0
 ·have e0 : wrap64 ((wrap64 x).tdiv 8) = sgnW x / 8 := by
   have h1 : wrap64 x = sgnW x := by unfold wrap64 sgnW; split <;> omega
   rw [h1]
   have h2 : (sgnW x).tdiv 8 = sgnW x / 8 := Int.tdiv_eq_ediv_of_dvd (by unfold sgnW; split <;> omega)
   rw [h2]
   unfold wrap64 sgnW; split <;> omega
  obtain ⟨y, hy⟩ : ∃ y, y = sgnW x / 8 := ⟨_, rfl⟩
  rw [<- hy] at e0
  have hyr : -1152921504606846976 <= y /\ y < 1152921504606846976 := by rw [hy]; unfold sgnW; split <;> omega
  have HY := hid hy
  clear hy
  go_enter Tryz.func61, Tryz.ntmps61
  go_wp2_with fail
  with_reducible refine (HR.out 1 y 0 (by unfold Z64; omega) (by unfold Z64; omega) (by unfold Z64; omega) _).mono ?_
  rintro e W ⟨rfl, b2⟩
  have HB := hid (Bt (Baa w (.cells #[.int .i64 0, .int .i64 0, .int .i64 0] 118) (.cells #[.int .i64 1, .int .i64 y, .int .i64 0] 118)) b2)
  have hx0 := (b2.block w.heap.size (by rw [zb, zb]; omega)).trans (((Ba (w.alloc (.cells #[.int .i64 0, .int .i64 0, .int .i64 0] 118)) (.cells #[.int .i64 1, .int .i64 y, .int .i64 0] 118)).block w.heap.size (by rw [zb]; omega)).trans (zd w #[.int .i64 0, .int .i64 0, .int .i64 0] 118))
  have hx1 := (b2.block (w.heap.size + 1) (by rw [zb, zb]; omega)).trans (heap_alloc2_new w (.cells #[.int .i64 0, .int .i64 0, .int .i64 0] 118) (.cells #[.int .i64 1, .int .i64 y, .int .i64 0] 118))
  have hof : Hid (jj x = (1, y, 0)) := by
   unfold Hid jj
   rw [if_pos h0, HY.out]
  have c0 : W.cell? ⟨w.heap.size, 0, none⟩ = some (.int .i64 0) := za hx0 0
  have c1 : W.cell? ⟨w.heap.size, 1, none⟩ = some (.int .i64 0) := za hx0 1
  have c2 : W.cell? ⟨w.heap.size, 2, none⟩ = some (.int .i64 0) := za hx0 2
  have d0 : W.cell? ⟨w.heap.size + 1, 0, none⟩ = some (.int .i64 1) := za hx1 0
  have d1 : W.cell? ⟨w.heap.size + 1, 1, none⟩ = some (.int .i64 y) := za hx1 1
  have d2 : W.cell? ⟨w.heap.size + 1, 2, none⟩ = some (.int .i64 0) := za hx1 2
  have f0 := zf hx0 0
  have f1 := zf hx0 1
  have f2 := zf hx0 2
  have HX := hid hx0
  clear hx0 hx1 b2
  obtain ⟨rb, hrb⟩ : ∃ rb, rb = zk 1 y 0 := ⟨_, rfl⟩
  rw [<- hrb]
  have hR : Hid (ofR x = if rb then (1, y, 0) else (0, 0, 0)) := by unfold Hid ofR; rw [hof.out]; simp only [hrb]
  clear hrb
  cases rb
  ·go_wp2_with fail
   have hst := vd (v1 := .int .i64 0) (v2 := .int .i64 0) (v3 := .int .i64 0) HX.out
   have t0 := za hst 0
   have t1 := za hst 1
   have t2 := za hst 2
   (try simp only [Exit.inBlock, Exit.then]); refine bodyPost_ret (by simp [results, Tryz.results61, go_sem, t0, t1, t2]; rfl) rfl ?_
   rw [hR.out]
   exact ⟨rfl, yc HB.out (Nat.le_refl _)⟩
  ·go_wp2_with fail
   have hst := vd (v1 := .int .i64 1) (v2 := .int .i64 y) (v3 := .int .i64 0) HX.out
   have t0 := za hst 0
   have t1 := za hst 1
   have t2 := za hst 2
   (try simp only [Exit.inBlock, Exit.then]); refine bodyPost_ret (by simp [results, Tryz.results61, go_sem, t0, t1, t2]; rfl) rfl ?_
   rw [hR.out]
   exact ⟨rfl, yc HB.out (Nat.le_refl _)⟩
 by_cases h1 : x % 8 = 1
 ·go_enter Tryz.func61, Tryz.ntmps61
  go_wp2_with fail
  with_reducible refine (HR.out 2 (x / 8) 0 (by unfold Z64; omega) (by unfold Z64; omega) (by unfold Z64; omega) _).mono ?_
  rintro e W ⟨rfl, b2⟩
  have HB := hid (Bt (Baa w (.cells #[.int .i64 0, .int .i64 0, .int .i64 0] 118) (.cells #[.int .i64 2, .int .i64 (x / 8), .int .i64 0] 118)) b2)
  have hx0 := (b2.block w.heap.size (by rw [zb, zb]; omega)).trans (((Ba (w.alloc (.cells #[.int .i64 0, .int .i64 0, .int .i64 0] 118)) (.cells #[.int .i64 2, .int .i64 (x / 8), .int .i64 0] 118)).block w.heap.size (by rw [zb]; omega)).trans (zd w #[.int .i64 0, .int .i64 0, .int .i64 0] 118))
  have hx1 := (b2.block (w.heap.size + 1) (by rw [zb, zb]; omega)).trans (heap_alloc2_new w (.cells #[.int .i64 0, .int .i64 0, .int .i64 0] 118) (.cells #[.int .i64 2, .int .i64 (x / 8), .int .i64 0] 118))
  have hof : Hid (jj x = (2, (x / 8), 0)) := by
   unfold Hid jj
   rw [if_neg h0, if_pos h1]
  have c0 : W.cell? ⟨w.heap.size, 0, none⟩ = some (.int .i64 0) := za hx0 0
  have c1 : W.cell? ⟨w.heap.size, 1, none⟩ = some (.int .i64 0) := za hx0 1
  have c2 : W.cell? ⟨w.heap.size, 2, none⟩ = some (.int .i64 0) := za hx0 2
  have d0 : W.cell? ⟨w.heap.size + 1, 0, none⟩ = some (.int .i64 2) := za hx1 0
  have d1 : W.cell? ⟨w.heap.size + 1, 1, none⟩ = some (.int .i64 (x / 8)) := za hx1 1
  have d2 : W.cell? ⟨w.heap.size + 1, 2, none⟩ = some (.int .i64 0) := za hx1 2
  have f0 := zf hx0 0
  have f1 := zf hx0 1
  have f2 := zf hx0 2
  have HX := hid hx0
  clear hx0 hx1 b2
  obtain ⟨rb, hrb⟩ : ∃ rb, rb = zk 2 (x / 8) 0 := ⟨_, rfl⟩
  rw [<- hrb]
  have hR : Hid (ofR x = if rb then (2, (x / 8), 0) else (0, 0, 0)) := by unfold Hid ofR; rw [hof.out]; simp only [hrb]
  clear hrb
  cases rb
  ·go_wp2_with fail
   have hst := vd (v1 := .int .i64 0) (v2 := .int .i64 0) (v3 := .int .i64 0) HX.out
   have t0 := za hst 0
   have t1 := za hst 1
   have t2 := za hst 2
   (try simp only [Exit.inBlock, Exit.then]); refine bodyPost_ret (by simp [results, Tryz.results61, go_sem, t0, t1, t2]; rfl) rfl ?_
   rw [hR.out]
   exact ⟨rfl, yc HB.out (Nat.le_refl _)⟩
  ·go_wp2_with fail
   have hst := vd (v1 := .int .i64 2) (v2 := .int .i64 (x / 8)) (v3 := .int .i64 0) HX.out
   have t0 := za hst 0
   have t1 := za hst 1
   have t2 := za hst 2
   (try simp only [Exit.inBlock, Exit.then]); refine bodyPost_ret (by simp [results, Tryz.results61, go_sem, t0, t1, t2]; rfl) rfl ?_
   rw [hR.out]
   exact ⟨rfl, yc HB.out (Nat.le_refl _)⟩
 by_cases h2 : x % 8 = 2
 ·by_cases h5 : x / 8 % 32 <= 5
  ·by_cases hz : x / 256 = 0
   ·go_enter Tryz.func61, Tryz.ntmps61
    go_wp2_with fail
    with_reducible refine (HR.out 3 (x / 8 % 32) 0 (by unfold Z64; omega) (by unfold Z64; omega) (by unfold Z64; omega) _).mono ?_
    rintro e W ⟨rfl, b2⟩
    have HB := hid (Bt (Baa w (.cells #[.int .i64 0, .int .i64 0, .int .i64 0] 118) (.cells #[.int .i64 3, .int .i64 (x / 8 % 32), .int .i64 0] 118)) b2)
    have hx0 := (b2.block w.heap.size (by rw [zb, zb]; omega)).trans (((Ba (w.alloc (.cells #[.int .i64 0, .int .i64 0, .int .i64 0] 118)) (.cells #[.int .i64 3, .int .i64 (x / 8 % 32), .int .i64 0] 118)).block w.heap.size (by rw [zb]; omega)).trans (zd w #[.int .i64 0, .int .i64 0, .int .i64 0] 118))
    have hx1 := (b2.block (w.heap.size + 1) (by rw [zb, zb]; omega)).trans (heap_alloc2_new w (.cells #[.int .i64 0, .int .i64 0, .int .i64 0] 118) (.cells #[.int .i64 3, .int .i64 (x / 8 % 32), .int .i64 0] 118))
    have hof : Hid (jj x = (3, (x / 8 % 32), 0)) := by
     unfold Hid jj
     rw [if_neg h0, if_neg h1, if_pos h2, if_pos ⟨h5, hz⟩]
    have c0 : W.cell? ⟨w.heap.size, 0, none⟩ = some (.int .i64 0) := za hx0 0
    have c1 : W.cell? ⟨w.heap.size, 1, none⟩ = some (.int .i64 0) := za hx0 1
    have c2 : W.cell? ⟨w.heap.size, 2, none⟩ = some (.int .i64 0) := za hx0 2
    have d0 : W.cell? ⟨w.heap.size + 1, 0, none⟩ = some (.int .i64 3) := za hx1 0
    have d1 : W.cell? ⟨w.heap.size + 1, 1, none⟩ = some (.int .i64 (x / 8 % 32)) := za hx1 1
    have d2 : W.cell? ⟨w.heap.size + 1, 2, none⟩ = some (.int .i64 0) := za hx1 2
    have f0 := zf hx0 0
    have f1 := zf hx0 1
    have f2 := zf hx0 2
    have HX := hid hx0
    clear hx0 hx1 b2
    obtain ⟨rb, hrb⟩ : ∃ rb, rb = zk 3 (x / 8 % 32) 0 := ⟨_, rfl⟩
    rw [<- hrb]
    have hR : Hid (ofR x = if rb then (3, (x / 8 % 32), 0) else (0, 0, 0)) := by unfold Hid ofR; rw [hof.out]; simp only [hrb]
    clear hrb
    cases rb
    ·go_wp2_with fail
     have hst := vd (v1 := .int .i64 0) (v2 := .int .i64 0) (v3 := .int .i64 0) HX.out
     have t0 := za hst 0
     have t1 := za hst 1
     have t2 := za hst 2
     (try simp only [Exit.inBlock, Exit.then]); refine bodyPost_ret (by simp [results, Tryz.results61, go_sem, t0, t1, t2]; rfl) rfl ?_
     rw [hR.out]
     exact ⟨rfl, yc HB.out (Nat.le_refl _)⟩
    ·go_wp2_with fail
     have hst := vd (v1 := .int .i64 3) (v2 := .int .i64 (x / 8 % 32)) (v3 := .int .i64 0) HX.out
     have t0 := za hst 0
     have t1 := za hst 1
     have t2 := za hst 2
     (try simp only [Exit.inBlock, Exit.then]); refine bodyPost_ret (by simp [results, Tryz.results61, go_sem, t0, t1, t2]; rfl) rfl ?_
     rw [hR.out]
     exact ⟨rfl, yc HB.out (Nat.le_refl _)⟩
   ·go_enter Tryz.func61, Tryz.ntmps61
    go_wp2_with fail
    with_reducible refine (HR.out 0 0 0 (by unfold Z64; omega) (by unfold Z64; omega) (by unfold Z64; omega) _).mono ?_
    rintro e W ⟨rfl, b2⟩
    have HB := hid (Bt (Baa w (.cells #[.int .i64 0, .int .i64 0, .int .i64 0] 118) (.cells #[.int .i64 0, .int .i64 0, .int .i64 0] 118)) b2)
    have hx0 := (b2.block w.heap.size (by rw [zb, zb]; omega)).trans (((Ba (w.alloc (.cells #[.int .i64 0, .int .i64 0, .int .i64 0] 118)) (.cells #[.int .i64 0, .int .i64 0, .int .i64 0] 118)).block w.heap.size (by rw [zb]; omega)).trans (zd w #[.int .i64 0, .int .i64 0, .int .i64 0] 118))
    have hx1 := (b2.block (w.heap.size + 1) (by rw [zb, zb]; omega)).trans (heap_alloc2_new w (.cells #[.int .i64 0, .int .i64 0, .int .i64 0] 118) (.cells #[.int .i64 0, .int .i64 0, .int .i64 0] 118))
    have hof : Hid (jj x = (0, 0, 0)) := by
     unfold Hid jj
     rw [if_neg h0, if_neg h1, if_pos h2, if_neg (fun e => hz e.2), if_neg (by omega)]
    have c0 : W.cell? ⟨w.heap.size, 0, none⟩ = some (.int .i64 0) := za hx0 0
    have c1 : W.cell? ⟨w.heap.size, 1, none⟩ = some (.int .i64 0) := za hx0 1
    have c2 : W.cell? ⟨w.heap.size, 2, none⟩ = some (.int .i64 0) := za hx0 2
    have d0 : W.cell? ⟨w.heap.size + 1, 0, none⟩ = some (.int .i64 0) := za hx1 0
    have d1 : W.cell? ⟨w.heap.size + 1, 1, none⟩ = some (.int .i64 0) := za hx1 1
    have d2 : W.cell? ⟨w.heap.size + 1, 2, none⟩ = some (.int .i64 0) := za hx1 2
    have f0 := zf hx0 0
    have f1 := zf hx0 1
    have f2 := zf hx0 2
    have HX := hid hx0
    clear hx0 hx1 b2
    obtain ⟨rb, hrb⟩ : ∃ rb, rb = zk 0 0 0 := ⟨_, rfl⟩
    rw [<- hrb]
    have hR : Hid (ofR x = if rb then (0, 0, 0) else (0, 0, 0)) := by unfold Hid ofR; rw [hof.out]; simp only [hrb]
    clear hrb
    cases rb
    ·go_wp2_with fail
     have hst := vd (v1 := .int .i64 0) (v2 := .int .i64 0) (v3 := .int .i64 0) HX.out
     have t0 := za hst 0
     have t1 := za hst 1
     have t2 := za hst 2
     (try simp only [Exit.inBlock, Exit.then]); refine bodyPost_ret (by simp [results, Tryz.results61, go_sem, t0, t1, t2]; rfl) rfl ?_
     rw [hR.out]
     exact ⟨rfl, yc HB.out (Nat.le_refl _)⟩
    ·go_wp2_with fail
     have hst := vd (v1 := .int .i64 0) (v2 := .int .i64 0) (v3 := .int .i64 0) HX.out
     have t0 := za hst 0
     have t1 := za hst 1
     have t2 := za hst 2
     (try simp only [Exit.inBlock, Exit.then]); refine bodyPost_ret (by simp [results, Tryz.results61, go_sem, t0, t1, t2]; rfl) rfl ?_
     rw [hR.out]
     exact ⟨rfl, yc HB.out (Nat.le_refl _)⟩
  by_cases h9 : x / 8 % 32 <= 9
  ·go_enter Tryz.func61, Tryz.ntmps61
   go_wp2_with fail
   with_reducible refine (HR.out (4 + x / 8 % 32 - 6) (x / 256) 0 (by unfold Z64; omega) (by unfold Z64; omega) (by unfold Z64; omega) _).mono ?_
   rintro e W ⟨rfl, b2⟩
   have HB := hid (Bt (Baa w (.cells #[.int .i64 0, .int .i64 0, .int .i64 0] 118) (.cells #[.int .i64 (4 + x / 8 % 32 - 6), .int .i64 (x / 256), .int .i64 0] 118)) b2)
   have hx0 := (b2.block w.heap.size (by rw [zb, zb]; omega)).trans (((Ba (w.alloc (.cells #[.int .i64 0, .int .i64 0, .int .i64 0] 118)) (.cells #[.int .i64 (4 + x / 8 % 32 - 6), .int .i64 (x / 256), .int .i64 0] 118)).block w.heap.size (by rw [zb]; omega)).trans (zd w #[.int .i64 0, .int .i64 0, .int .i64 0] 118))
   have hx1 := (b2.block (w.heap.size + 1) (by rw [zb, zb]; omega)).trans (heap_alloc2_new w (.cells #[.int .i64 0, .int .i64 0, .int .i64 0] 118) (.cells #[.int .i64 (4 + x / 8 % 32 - 6), .int .i64 (x / 256), .int .i64 0] 118))
   have hof : Hid (jj x = ((4 + x / 8 % 32 - 6), (x / 256), 0)) := by
    unfold Hid jj
    rw [if_neg h0, if_neg h1, if_pos h2, if_neg (by omega), if_pos (by omega), show 4 + x / 8 % 32 - 6 = x / 8 % 32 - 2 by omega]
   have c0 : W.cell? ⟨w.heap.size, 0, none⟩ = some (.int .i64 0) := za hx0 0
   have c1 : W.cell? ⟨w.heap.size, 1, none⟩ = some (.int .i64 0) := za hx0 1
   have c2 : W.cell? ⟨w.heap.size, 2, none⟩ = some (.int .i64 0) := za hx0 2
   have d0 : W.cell? ⟨w.heap.size + 1, 0, none⟩ = some (.int .i64 (4 + x / 8 % 32 - 6)) := za hx1 0
   have d1 : W.cell? ⟨w.heap.size + 1, 1, none⟩ = some (.int .i64 (x / 256)) := za hx1 1
   have d2 : W.cell? ⟨w.heap.size + 1, 2, none⟩ = some (.int .i64 0) := za hx1 2
   have f0 := zf hx0 0
   have f1 := zf hx0 1
   have f2 := zf hx0 2
   have HX := hid hx0
   clear hx0 hx1 b2
   obtain ⟨rb, hrb⟩ : ∃ rb, rb = zk (4 + x / 8 % 32 - 6) (x / 256) 0 := ⟨_, rfl⟩
   rw [<- hrb]
   have hR : Hid (ofR x = if rb then ((4 + x / 8 % 32 - 6), (x / 256), 0) else (0, 0, 0)) := by unfold Hid ofR; rw [hof.out]; simp only [hrb]
   clear hrb
   cases rb
   ·go_wp2_with fail
    have hst := vd (v1 := .int .i64 0) (v2 := .int .i64 0) (v3 := .int .i64 0) HX.out
    have t0 := za hst 0
    have t1 := za hst 1
    have t2 := za hst 2
    (try simp only [Exit.inBlock, Exit.then]); refine bodyPost_ret (by simp [results, Tryz.results61, go_sem, t0, t1, t2]; rfl) rfl ?_
    rw [hR.out]
    exact ⟨rfl, yc HB.out (Nat.le_refl _)⟩
   ·go_wp2_with fail
    have hst := vd (v1 := .int .i64 (4 + x / 8 % 32 - 6)) (v2 := .int .i64 (x / 256)) (v3 := .int .i64 0) HX.out
    have t0 := za hst 0
    have t1 := za hst 1
    have t2 := za hst 2
    (try simp only [Exit.inBlock, Exit.then]); refine bodyPost_ret (by simp [results, Tryz.results61, go_sem, t0, t1, t2]; rfl) rfl ?_
    rw [hR.out]
    exact ⟨rfl, yc HB.out (Nat.le_refl _)⟩
  ·go_enter Tryz.func61, Tryz.ntmps61
   go_wp2_with fail
   with_reducible refine (HR.out 0 0 0 (by unfold Z64; omega) (by unfold Z64; omega) (by unfold Z64; omega) _).mono ?_
   rintro e W ⟨rfl, b2⟩
   have HB := hid (Bt (Baa w (.cells #[.int .i64 0, .int .i64 0, .int .i64 0] 118) (.cells #[.int .i64 0, .int .i64 0, .int .i64 0] 118)) b2)
   have hx0 := (b2.block w.heap.size (by rw [zb, zb]; omega)).trans (((Ba (w.alloc (.cells #[.int .i64 0, .int .i64 0, .int .i64 0] 118)) (.cells #[.int .i64 0, .int .i64 0, .int .i64 0] 118)).block w.heap.size (by rw [zb]; omega)).trans (zd w #[.int .i64 0, .int .i64 0, .int .i64 0] 118))
   have hx1 := (b2.block (w.heap.size + 1) (by rw [zb, zb]; omega)).trans (heap_alloc2_new w (.cells #[.int .i64 0, .int .i64 0, .int .i64 0] 118) (.cells #[.int .i64 0, .int .i64 0, .int .i64 0] 118))
   have hof : Hid (jj x = (0, 0, 0)) := by
    unfold Hid jj
    rw [if_neg h0, if_neg h1, if_pos h2, if_neg (by omega), if_neg (by omega)]
   have c0 : W.cell? ⟨w.heap.size, 0, none⟩ = some (.int .i64 0) := za hx0 0
   have c1 : W.cell? ⟨w.heap.size, 1, none⟩ = some (.int .i64 0) := za hx0 1
   have c2 : W.cell? ⟨w.heap.size, 2, none⟩ = some (.int .i64 0) := za hx0 2
   have d0 : W.cell? ⟨w.heap.size + 1, 0, none⟩ = some (.int .i64 0) := za hx1 0
   have d1 : W.cell? ⟨w.heap.size + 1, 1, none⟩ = some (.int .i64 0) := za hx1 1
   have d2 : W.cell? ⟨w.heap.size + 1, 2, none⟩ = some (.int .i64 0) := za hx1 2
   have f0 := zf hx0 0
   have f1 := zf hx0 1
   have f2 := zf hx0 2
   have HX := hid hx0
   clear hx0 hx1 b2
   obtain ⟨rb, hrb⟩ : ∃ rb, rb = zk 0 0 0 := ⟨_, rfl⟩
   rw [<- hrb]
   have hR : Hid (ofR x = if rb then (0, 0, 0) else (0, 0, 0)) := by unfold Hid ofR; rw [hof.out]; simp only [hrb]
   clear hrb
   cases rb
   ·go_wp2_with fail
    have hst := vd (v1 := .int .i64 0) (v2 := .int .i64 0) (v3 := .int .i64 0) HX.out
    have t0 := za hst 0
    have t1 := za hst 1
    have t2 := za hst 2
    (try simp only [Exit.inBlock, Exit.then]); refine bodyPost_ret (by simp [results, Tryz.results61, go_sem, t0, t1, t2]; rfl) rfl ?_
    rw [hR.out]
    exact ⟨rfl, yc HB.out (Nat.le_refl _)⟩
   ·go_wp2_with fail
    have hst := vd (v1 := .int .i64 0) (v2 := .int .i64 0) (v3 := .int .i64 0) HX.out
    have t0 := za hst 0
    have t1 := za hst 1
    have t2 := za hst 2
    (try simp only [Exit.inBlock, Exit.then]); refine bodyPost_ret (by simp [results, Tryz.results61, go_sem, t0, t1, t2]; rfl) rfl ?_
    rw [hR.out]
    exact ⟨rfl, yc HB.out (Nat.le_refl _)⟩
 by_cases h7 : x % 8 = 7
 ·go_enter Tryz.func61, Tryz.ntmps61
  go_wp2_with fail
  with_reducible refine (HR.out 8 (x / 2048) (x / 8 % 256) (by unfold Z64; omega) (by unfold Z64; omega) (by unfold Z64; omega) _).mono ?_
  rintro e W ⟨rfl, b2⟩
  have HB := hid (Bt (Baa w (.cells #[.int .i64 0, .int .i64 0, .int .i64 0] 118) (.cells #[.int .i64 8, .int .i64 (x / 2048), .int .i64 (x / 8 % 256)] 118)) b2)
  have hx0 := (b2.block w.heap.size (by rw [zb, zb]; omega)).trans (((Ba (w.alloc (.cells #[.int .i64 0, .int .i64 0, .int .i64 0] 118)) (.cells #[.int .i64 8, .int .i64 (x / 2048), .int .i64 (x / 8 % 256)] 118)).block w.heap.size (by rw [zb]; omega)).trans (zd w #[.int .i64 0, .int .i64 0, .int .i64 0] 118))
  have hx1 := (b2.block (w.heap.size + 1) (by rw [zb, zb]; omega)).trans (heap_alloc2_new w (.cells #[.int .i64 0, .int .i64 0, .int .i64 0] 118) (.cells #[.int .i64 8, .int .i64 (x / 2048), .int .i64 (x / 8 % 256)] 118))
  have hof : Hid (jj x = (8, (x / 2048), (x / 8 % 256))) := by
   unfold Hid jj
   rw [if_neg h0, if_neg h1, if_neg h2, if_pos h7]
  have c0 : W.cell? ⟨w.heap.size, 0, none⟩ = some (.int .i64 0) := za hx0 0
  have c1 : W.cell? ⟨w.heap.size, 1, none⟩ = some (.int .i64 0) := za hx0 1
  have c2 : W.cell? ⟨w.heap.size, 2, none⟩ = some (.int .i64 0) := za hx0 2
  have d0 : W.cell? ⟨w.heap.size + 1, 0, none⟩ = some (.int .i64 8) := za hx1 0
  have d1 : W.cell? ⟨w.heap.size + 1, 1, none⟩ = some (.int .i64 (x / 2048)) := za hx1 1
  have d2 : W.cell? ⟨w.heap.size + 1, 2, none⟩ = some (.int .i64 (x / 8 % 256)) := za hx1 2
  have f0 := zf hx0 0
  have f1 := zf hx0 1
  have f2 := zf hx0 2
  have HX := hid hx0
  clear hx0 hx1 b2
  obtain ⟨rb, hrb⟩ : ∃ rb, rb = zk 8 (x / 2048) (x / 8 % 256) := ⟨_, rfl⟩
  rw [<- hrb]
  have hR : Hid (ofR x = if rb then (8, (x / 2048), (x / 8 % 256)) else (0, 0, 0)) := by unfold Hid ofR; rw [hof.out]; simp only [hrb]
  clear hrb
  cases rb
  ·go_wp2_with fail
   have hst := vd (v1 := .int .i64 0) (v2 := .int .i64 0) (v3 := .int .i64 0) HX.out
   have t0 := za hst 0
   have t1 := za hst 1
   have t2 := za hst 2
   (try simp only [Exit.inBlock, Exit.then]); refine bodyPost_ret (by simp [results, Tryz.results61, go_sem, t0, t1, t2]; rfl) rfl ?_
   rw [hR.out]
   exact ⟨rfl, yc HB.out (Nat.le_refl _)⟩
  ·go_wp2_with fail
   have hst := vd (v1 := .int .i64 8) (v2 := .int .i64 (x / 2048)) (v3 := .int .i64 (x / 8 % 256)) HX.out
   have t0 := za hst 0
   have t1 := za hst 1
   have t2 := za hst 2
   (try simp only [Exit.inBlock, Exit.then]); refine bodyPost_ret (by simp [results, Tryz.results61, go_sem, t0, t1, t2]; rfl) rfl ?_
   rw [hR.out]
   exact ⟨rfl, yc HB.out (Nat.le_refl _)⟩
 ·go_enter Tryz.func61, Tryz.ntmps61
  go_wp2_with fail
  with_reducible refine (HR.out 0 0 0 (by unfold Z64; omega) (by unfold Z64; omega) (by unfold Z64; omega) _).mono ?_
  rintro e W ⟨rfl, b2⟩
  have HB := hid (Bt (Baa w (.cells #[.int .i64 0, .int .i64 0, .int .i64 0] 118) (.cells #[.int .i64 0, .int .i64 0, .int .i64 0] 118)) b2)
  have hx0 := (b2.block w.heap.size (by rw [zb, zb]; omega)).trans (((Ba (w.alloc (.cells #[.int .i64 0, .int .i64 0, .int .i64 0] 118)) (.cells #[.int .i64 0, .int .i64 0, .int .i64 0] 118)).block w.heap.size (by rw [zb]; omega)).trans (zd w #[.int .i64 0, .int .i64 0, .int .i64 0] 118))
  have hx1 := (b2.block (w.heap.size + 1) (by rw [zb, zb]; omega)).trans (heap_alloc2_new w (.cells #[.int .i64 0, .int .i64 0, .int .i64 0] 118) (.cells #[.int .i64 0, .int .i64 0, .int .i64 0] 118))
  have hof : Hid (jj x = (0, 0, 0)) := by
   unfold Hid jj
   rw [if_neg h0, if_neg h1, if_neg h2, if_neg h7]
  have c0 : W.cell? ⟨w.heap.size, 0, none⟩ = some (.int .i64 0) := za hx0 0
  have c1 : W.cell? ⟨w.heap.size, 1, none⟩ = some (.int .i64 0) := za hx0 1
  have c2 : W.cell? ⟨w.heap.size, 2, none⟩ = some (.int .i64 0) := za hx0 2
  have d0 : W.cell? ⟨w.heap.size + 1, 0, none⟩ = some (.int .i64 0) := za hx1 0
  have d1 : W.cell? ⟨w.heap.size + 1, 1, none⟩ = some (.int .i64 0) := za hx1 1
  have d2 : W.cell? ⟨w.heap.size + 1, 2, none⟩ = some (.int .i64 0) := za hx1 2
  have f0 := zf hx0 0
  have f1 := zf hx0 1
  have f2 := zf hx0 2
  have HX := hid hx0
  clear hx0 hx1 b2
  obtain ⟨rb, hrb⟩ : ∃ rb, rb = zk 0 0 0 := ⟨_, rfl⟩
  rw [<- hrb]
  have hR : Hid (ofR x = if rb then (0, 0, 0) else (0, 0, 0)) := by unfold Hid ofR; rw [hof.out]; simp only [hrb]
  clear hrb
  cases rb
  ·go_wp2_with fail
   have hst := vd (v1 := .int .i64 0) (v2 := .int .i64 0) (v3 := .int .i64 0) HX.out
   have t0 := za hst 0
   have t1 := za hst 1
   have t2 := za hst 2
   (try simp only [Exit.inBlock, Exit.then]); refine bodyPost_ret (by simp [results, Tryz.results61, go_sem, t0, t1, t2]; rfl) rfl ?_
   rw [hR.out]
   exact ⟨rfl, yc HB.out (Nat.le_refl _)⟩
  ·go_wp2_with fail
   have hst := vd (v1 := .int .i64 0) (v2 := .int .i64 0) (v3 := .int .i64 0) HX.out
   have t0 := za hst 0
   have t1 := za hst 1
   have t2 := za hst 2
   (try simp only [Exit.inBlock, Exit.then]); refine bodyPost_ret (by simp [results, Tryz.results61, go_sem, t0, t1, t2]; rfl) rfl ?_
   rw [hR.out]
   exact ⟨rfl, yc HB.out (Nat.le_refl _)⟩
end Go.Proofs.YtadfihnffboelaaGreatDoor
