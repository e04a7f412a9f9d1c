import Derived.Test.YtbkfinjajkjhaaaGreatDoorG2
set_option linter.unusedVariables false
set_option linter.unusedSimpArgs false
namespace Go.Proofs.YtbkfinjajkjhaaaGreatDoor
open Go.RowKit
def RunePost (s : ByteArray) (i : Nat) (w : World) (e : Ending) (w' : World) : Prop := e = .returned (.tuple #[.int .i64 ((runeD s i).1 : Nat), .int .i64 ((runeD s i).2 : Nat)]) /\ ∃ k, w' = w.drewN k
theorem RunePost.mk {s : ByteArray} {i : Nat} {w w' : World} {a b : Nat} {x y : Int} (h : runeD s i = (a, b)) (hx : x = (a : Nat)) (hy : y = (b : Nat)) (hw : ∃ k, w' = w.drewN k) : RunePost s i w (.returned (.tuple #[.int .i64 x, .int .i64 y])) w' := by
 refine ⟨?_, hw⟩
 rw [h, hx, hy]
set_option maxRecDepth 1000000 in
set_option maxHeartbeats 2000000 in
theorem rune2 (s : ByteArray) (i : Nat) (w : World) (hi : i < s.size) (hs : s.size <= 1000000) (h1 : 192 <= byteAt s i) (h2 : byteAt s i < 224) : Calls Tryz.prog 34 #[.string s, .int .i64 i] w (RunePost s i w) := by
 have hb0 := byteAt_get hi
 have hblt := byteAt_lt s i
 have hR := hid (@runeD_2 s i h1 h2)
 obtain ⟨b, hb⟩ : ∃ b, b = byteAt s i := ⟨_, rfl⟩
 rw [<- hb] at hb0 h1 h2 hblt hR
 have hand := and31 ⟨b, hblt⟩
 obtain ⟨c0, hc0⟩ : ∃ c0, c0 = b % 32 := ⟨_, rfl⟩
 simp only [] at hand
 rw [<- hc0] at hand hR
 have hc32 : c0 < 32 := by rw [hc0]; exact Nat.mod_lt _ (by decide)
 clear hb hc0
 have d0 : decide ((b : Int) < 128) = false := by simp; omega
 have d1 : decide ((192 : Int) <= b) = true := by simp; omega
 have d2 : decide ((b : Int) < 224) = true := by simp; omega
 go_enter Tryz.func34, Tryz.ntmps34
 go_wp2
 go_loopw [6, 9] (fun c k wr => ∃ j x : Nat, j <= 1 /\ k = .int .i64 ((j : Int) + 1) /\ c = .int .i64 x /\ Hid (x = cvs s i c0 j /\ conts s i j /\ ∃ k, wr = w.drewN k)) (fun _ k _ => (4 - intOf k).toNat)
 case atStart => exact ⟨0, c0, by omega, rfl, rfl, rfl, fun q hq => by omega, 0, rfl⟩
 case round =>
  obtain ⟨j, x, hj, rfl, rfl, hI⟩ := hrel
  by_cases hlt : j < 1
  ·have hxb : x < 1048576 := by
    rw [hI.out.1]
    have := cvs_lt s i c0 (by omega) j
    have h64 : 64 ^ j <= 64 ^ 2 := Nat.pow_le_pow_right (by decide) (by omega)
    omega
   by_cases hin : i + (j + 1) < s.size
   ·have hbj := byteAt_get hin
    have hbjl := byteAt_lt s (i + (j + 1))
    obtain ⟨y, hy⟩ : ∃ y, y = byteAt s (i + (j + 1)) := ⟨_, rfl⟩
    rw [<- hy] at hbj hbjl
    have ha := and192 ⟨y, hbjl⟩
    have ha2 := and63 ⟨y, hbjl⟩
    simp only [] at ha ha2
    obtain ⟨z, hz⟩ : ∃ z, z = y / 64 * 64 := ⟨_, rfl⟩
    obtain ⟨v, hv⟩ : ∃ v, v = y % 64 := ⟨_, rfl⟩
    rw [<- hz] at ha
    rw [<- hv] at ha2
    have hv64 : v < 64 := by omega
    have hor := i64_or_join x v hxb hv64
    have HY := hid hy
    by_cases hcont : z = 128
    ·have hc2 : Hid (y / 64 = 2) := by unfold Hid; omega
     have hfin : Hid (x * 64 + v = cvs s i c0 (j + 1) /\ conts s i (j + 1)) := by
      refine ⟨?_, ?_⟩
      ·show _ = cvs s i c0 j * 64 + byteAt s (i + (j + 1)) % 64
       rw [hI.out.1, hv, <- hy]
      ·intro q hq
       by_cases hqj : q < j
       ·exact hI.out.2.1 q hqj
       ·obtain rfl : q = j := by omega
        exact ⟨hin, by rw [<- hy]; exact hc2.out⟩
     have hxv : x * 64 + v < 9223372036854775807 := by omega
     have ez : ((z : Int) != 128) = false := by rw [bne_eq_false_iff_eq]; omega
     clear hz hv hy
     go_wp2
     refine ⟨⟨j + 1, x * 64 + v, by omega, by congr 1 <;> omega, by congr 1 <;> omega, hfin.out.1, hfin.out.2, hI.out.2.2⟩, by simp [intOf] <;> omega⟩
    ·have hne : Hid (¬ byteAt s (i + (j + 1)) / 64 = 2) := by rw [<- hy]; unfold Hid; omega
     have ez : ((z : Int) != 128) = true := by rw [bne_iff_ne]; omega
     have hbad : Hid (runeD s i = (0, 0)) := by
      unfold Hid; rw [hR.out, if_neg]; rintro h
      have hq := hne.out
      obtain rfl : j = 0 := by omega
      simp at h hq; omega
     clear hz hv hy
     go_wp2
     go_ret2
     exact RunePost.mk hbad.out rfl rfl hI.out.2.2
   ·have hbad : Hid (runeD s i = (0, 0)) := by
     unfold Hid; rw [hR.out, if_neg]; rintro h
     obtain rfl : j = 0 := by omega
     simp at h hin; omega
    go_wp2
    go_ret2
    exact RunePost.mk hbad.out rfl rfl hI.out.2.2
  ·obtain rfl : j = 1 := by omega
   have hxb : x < 16777216 := by
    rw [hI.out.1]
    have := cvs_lt s i c0 (by omega) 1
    omega
   by_cases hle : x < 128
   ·have hbad : Hid (runeD s i = (0, 0)) := by
     unfold Hid; rw [hR.out, if_neg]; rintro h
     have := hI.out.1
     rw [<- this] at h
     omega
    go_wp2
    go_ret2
    exact RunePost.mk hbad.out rfl rfl hI.out.2.2
   ·have hL := letter_any (x : Int)
    cases hlb : letB (x : Int)
    ·rw [hlb] at hL
     have hbad : Hid (runeD s i = (0, 0)) := by
      unfold Hid; rw [hR.out, if_neg]; rintro h
      have := hI.out.1
      rw [<- this] at h
      exfalso
      have : x < 2048 := by have := cvs_lt s i c0 (by omega) 1; rw [<- hI.out.1] at this; omega
      unfold letB at hlb; simp at hlb; omega
     go_wp2_with (go_at_call 19; refine (hL _).mono ?_; rintro e wz ⟨rfl, hwz⟩; rw [hwz])
     go_ret2
     exact RunePost.mk hbad.out rfl rfl hI.out.2.2
    ·rw [hlb] at hL
     have hgood : Hid (runeD s i = (x, 2)) := by
      unfold Hid
      rw [hR.out, if_pos, <- hI.out.1]
      rw [<- hI.out.1]
      obtain ⟨g1, g2⟩ := hI.out.2.1 0 (by omega)
      exact ⟨g1, g2, by omega⟩
     have HL := hid hL
     clear hlb hL hR hand
     go_wp2_with (go_at_call 19; refine (HL.out _).mono ?_; rintro e wz ⟨rfl, hwz⟩; rw [hwz])
     go_ret2
     exact RunePost.mk hgood.out rfl rfl hI.out.2.2
set_option maxRecDepth 1000000 in
set_option maxHeartbeats 2000000 in
theorem rune3 (s : ByteArray) (i : Nat) (w : World) (hi : i < s.size) (hs : s.size <= 1000000) (h1 : 224 <= byteAt s i) (h2 : byteAt s i < 240) : Calls Tryz.prog 34 #[.string s, .int .i64 i] w (RunePost s i w) := by
 have hb0 := byteAt_get hi
 have hblt := byteAt_lt s i
 have hR := hid (@runeD_3 s i h1 h2)
 obtain ⟨b, hb⟩ : ∃ b, b = byteAt s i := ⟨_, rfl⟩
 rw [<- hb] at hb0 h1 h2 hblt hR
 have hand := and15 ⟨b, hblt⟩
 obtain ⟨c0, hc0⟩ : ∃ c0, c0 = b % 16 := ⟨_, rfl⟩
 simp only [] at hand
 rw [<- hc0] at hand hR
 have hc32 : c0 < 16 := by rw [hc0]; exact Nat.mod_lt _ (by decide)
 clear hb hc0
 have d0 : decide ((b : Int) < 128) = false := by simp; omega
 have d1 : decide ((192 : Int) <= b) = true := by simp; omega
 have d2 : decide ((b : Int) < 224) = false := by simp; omega
 have d3 : decide ((224 : Int) <= b) = true := by simp; omega
 have d4 : decide ((b : Int) < 240) = true := by simp; omega
 go_enter Tryz.func34, Tryz.ntmps34
 go_wp2
 go_loopw [6, 9] (fun c k wr => ∃ j x : Nat, j <= 2 /\ k = .int .i64 ((j : Int) + 1) /\ c = .int .i64 x /\ Hid (x = cvs s i c0 j /\ conts s i j /\ ∃ k, wr = w.drewN k)) (fun _ k _ => (4 - intOf k).toNat)
 case atStart => exact ⟨0, c0, by omega, rfl, rfl, rfl, fun q hq => by omega, 0, rfl⟩
 case round =>
  obtain ⟨j, x, hj, rfl, rfl, hI⟩ := hrel
  by_cases hlt : j < 2
  ·have hxb : x < 1048576 := by
    rw [hI.out.1]
    have := cvs_lt s i c0 (by omega) j
    have h64 : 64 ^ j <= 64 ^ 2 := Nat.pow_le_pow_right (by decide) (by omega)
    omega
   by_cases hin : i + (j + 1) < s.size
   ·have hbj := byteAt_get hin
    have hbjl := byteAt_lt s (i + (j + 1))
    obtain ⟨y, hy⟩ : ∃ y, y = byteAt s (i + (j + 1)) := ⟨_, rfl⟩
    rw [<- hy] at hbj hbjl
    have ha := and192 ⟨y, hbjl⟩
    have ha2 := and63 ⟨y, hbjl⟩
    simp only [] at ha ha2
    obtain ⟨z, hz⟩ : ∃ z, z = y / 64 * 64 := ⟨_, rfl⟩
    obtain ⟨v, hv⟩ : ∃ v, v = y % 64 := ⟨_, rfl⟩
    rw [<- hz] at ha
    rw [<- hv] at ha2
    have hv64 : v < 64 := by omega
    have hor := i64_or_join x v hxb hv64
    have HY := hid hy
    by_cases hcont : z = 128
    ·have hc2 : Hid (y / 64 = 2) := by unfold Hid; omega
     have hfin : Hid (x * 64 + v = cvs s i c0 (j + 1) /\ conts s i (j + 1)) := by
      refine ⟨?_, ?_⟩
      ·show _ = cvs s i c0 j * 64 + byteAt s (i + (j + 1)) % 64
       rw [hI.out.1, hv, <- hy]
      ·intro q hq
       by_cases hqj : q < j
       ·exact hI.out.2.1 q hqj
       ·obtain rfl : q = j := by omega
        exact ⟨hin, by rw [<- hy]; exact hc2.out⟩
     have hxv : x * 64 + v < 9223372036854775807 := by omega
     have ez : ((z : Int) != 128) = false := by rw [bne_eq_false_iff_eq]; omega
     clear hz hv hy
     go_wp2
     refine ⟨⟨j + 1, x * 64 + v, by omega, by congr 1 <;> omega, by congr 1 <;> omega, hfin.out.1, hfin.out.2, hI.out.2.2⟩, by simp [intOf] <;> omega⟩
    ·have hne : Hid (¬ byteAt s (i + (j + 1)) / 64 = 2) := by rw [<- hy]; unfold Hid; omega
     have ez : ((z : Int) != 128) = true := by rw [bne_iff_ne]; omega
     have hbad : Hid (runeD s i = (0, 0)) := by
      unfold Hid; rw [hR.out, if_neg]; rintro h
      have hq := hne.out
      have : j = 0 \/ j = 1 := by omega
      rcases this with rfl | rfl <;> simp at h hq <;> omega
     clear hz hv hy
     go_wp2
     go_ret2
     exact RunePost.mk hbad.out rfl rfl hI.out.2.2
   ·have hbad : Hid (runeD s i = (0, 0)) := by
     unfold Hid; rw [hR.out, if_neg]; rintro h
     have : j = 0 \/ j = 1 := by omega
     rcases this with rfl | rfl <;> simp at h hin <;> omega
    go_wp2
    go_ret2
    exact RunePost.mk hbad.out rfl rfl hI.out.2.2
  ·obtain rfl : j = 2 := by omega
   have hxb : x < 16777216 := by
    rw [hI.out.1]
    have := cvs_lt s i c0 (by omega) 2
    omega
   by_cases hle : x < 2048
   ·have hbad : Hid (runeD s i = (0, 0)) := by
     unfold Hid; rw [hR.out, if_neg]; rintro h
     have := hI.out.1
     rw [<- this] at h
     omega
    go_wp2
    go_ret2
    exact RunePost.mk hbad.out rfl rfl hI.out.2.2
   ·have hL := letter_any (x : Int)
    cases hlb : letB (x : Int)
    ·rw [hlb] at hL
     have hbad : Hid (runeD s i = (0, 0)) := by
      unfold Hid; rw [hR.out, if_neg]; rintro h
      have := hI.out.1
      rw [<- this] at h
      simp [hlb] at h
     go_wp2_with (go_at_call 19; refine (hL _).mono ?_; rintro e wz ⟨rfl, hwz⟩; rw [hwz])
     go_ret2
     exact RunePost.mk hbad.out rfl rfl hI.out.2.2
    ·rw [hlb] at hL
     have hgood : Hid (runeD s i = (x, 3)) := by
      unfold Hid
      rw [hR.out, if_pos, <- hI.out.1]
      rw [<- hI.out.1]
      obtain ⟨g1, k1⟩ := hI.out.2.1 0 (by omega)
      obtain ⟨g2, k2⟩ := hI.out.2.1 1 (by omega)
      exact ⟨⟨g1, k1⟩, ⟨g2, k2⟩, by omega, hlb⟩
     have HL := hid hL
     clear hlb hL hR hand
     go_wp2_with (go_at_call 19; refine (HL.out _).mono ?_; rintro e wz ⟨rfl, hwz⟩; rw [hwz])
     go_ret2
     exact RunePost.mk hgood.out rfl rfl hI.out.2.2
set_option maxRecDepth 1000000 in
set_option maxHeartbeats 2000000 in
theorem rune4 (s : ByteArray) (i : Nat) (w : World) (hi : i < s.size) (hs : s.size <= 1000000) (h1 : 240 <= byteAt s i) (h2 : byteAt s i < 248) : Calls Tryz.prog 34 #[.string s, .int .i64 i] w (RunePost s i w) := by
 have hb0 := byteAt_get hi
 have hblt := byteAt_lt s i
 have hR := hid (@runeD_4 s i h1 h2)
 obtain ⟨b, hb⟩ : ∃ b, b = byteAt s i := ⟨_, rfl⟩
 rw [<- hb] at hb0 h1 h2 hblt hR
 have hand := and7' ⟨b, hblt⟩
 obtain ⟨c0, hc0⟩ : ∃ c0, c0 = b % 8 := ⟨_, rfl⟩
 simp only [] at hand
 rw [<- hc0] at hand hR
 have hc32 : c0 < 8 := by rw [hc0]; exact Nat.mod_lt _ (by decide)
 clear hb hc0
 have d0 : decide ((b : Int) < 128) = false := by simp; omega
 have d1 : decide ((192 : Int) <= b) = true := by simp; omega
 have d2 : decide ((b : Int) < 224) = false := by simp; omega
 have d3 : decide ((224 : Int) <= b) = true := by simp; omega
 have d4 : decide ((b : Int) < 240) = false := by simp; omega
 have d5 : decide ((240 : Int) <= b) = true := by simp; omega
 have d6 : decide ((b : Int) < 248) = true := by simp; omega
 go_enter Tryz.func34, Tryz.ntmps34
 go_wp2
 go_loopw [6, 9] (fun c k wr => ∃ j x : Nat, j <= 3 /\ k = .int .i64 ((j : Int) + 1) /\ c = .int .i64 x /\ Hid (x = cvs s i c0 j /\ conts s i j /\ ∃ k, wr = w.drewN k)) (fun _ k _ => (4 - intOf k).toNat)
 case atStart => exact ⟨0, c0, by omega, rfl, rfl, rfl, fun q hq => by omega, 0, rfl⟩
 case round =>
  obtain ⟨j, x, hj, rfl, rfl, hI⟩ := hrel
  by_cases hlt : j < 3
  ·have hxb : x < 1048576 := by
    rw [hI.out.1]
    have := cvs_lt s i c0 (by omega) j
    have h64 : 64 ^ j <= 64 ^ 2 := Nat.pow_le_pow_right (by decide) (by omega)
    omega
   by_cases hin : i + (j + 1) < s.size
   ·have hbj := byteAt_get hin
    have hbjl := byteAt_lt s (i + (j + 1))
    obtain ⟨y, hy⟩ : ∃ y, y = byteAt s (i + (j + 1)) := ⟨_, rfl⟩
    rw [<- hy] at hbj hbjl
    have ha := and192 ⟨y, hbjl⟩
    have ha2 := and63 ⟨y, hbjl⟩
    simp only [] at ha ha2
    obtain ⟨z, hz⟩ : ∃ z, z = y / 64 * 64 := ⟨_, rfl⟩
    obtain ⟨v, hv⟩ : ∃ v, v = y % 64 := ⟨_, rfl⟩
    rw [<- hz] at ha
    rw [<- hv] at ha2
    have hv64 : v < 64 := by omega
    have hor := i64_or_join x v hxb hv64
    have HY := hid hy
    by_cases hcont : z = 128
    ·have hc2 : Hid (y / 64 = 2) := by unfold Hid; omega
     have hfin : Hid (x * 64 + v = cvs s i c0 (j + 1) /\ conts s i (j + 1)) := by
      refine ⟨?_, ?_⟩
      ·show _ = cvs s i c0 j * 64 + byteAt s (i + (j + 1)) % 64
       rw [hI.out.1, hv, <- hy]
      ·intro q hq
       by_cases hqj : q < j
       ·exact hI.out.2.1 q hqj
       ·obtain rfl : q = j := by omega
        exact ⟨hin, by rw [<- hy]; exact hc2.out⟩
     have hxv : x * 64 + v < 9223372036854775807 := by omega
     have ez : ((z : Int) != 128) = false := by rw [bne_eq_false_iff_eq]; omega
     clear hz hv hy
     go_wp2
     refine ⟨⟨j + 1, x * 64 + v, by omega, by congr 1 <;> omega, by congr 1 <;> omega, hfin.out.1, hfin.out.2, hI.out.2.2⟩, by simp [intOf] <;> omega⟩
    ·have hne : Hid (¬ byteAt s (i + (j + 1)) / 64 = 2) := by rw [<- hy]; unfold Hid; omega
     have ez : ((z : Int) != 128) = true := by rw [bne_iff_ne]; omega
     have hbad : Hid (runeD s i = (0, 0)) := by
      unfold Hid; rw [hR.out, if_neg]; rintro h
      have hq := hne.out
      have : j = 0 \/ j = 1 \/ j = 2 := by omega
      rcases this with rfl | rfl | rfl <;> simp at h hq <;> omega
     clear hz hv hy
     go_wp2
     go_ret2
     exact RunePost.mk hbad.out rfl rfl hI.out.2.2
   ·have hbad : Hid (runeD s i = (0, 0)) := by
     unfold Hid; rw [hR.out, if_neg]; rintro h
     have : j = 0 \/ j = 1 \/ j = 2 := by omega
     rcases this with rfl | rfl | rfl <;> simp at h hin <;> omega
    go_wp2
    go_ret2
    exact RunePost.mk hbad.out rfl rfl hI.out.2.2
  ·obtain rfl : j = 3 := by omega
   have hxb : x < 16777216 := by
    rw [hI.out.1]
    have := cvs_lt s i c0 (by omega) 3
    omega
   by_cases hle : x < 65536
   ·have hbad : Hid (runeD s i = (0, 0)) := by
     unfold Hid; rw [hR.out, if_neg]; rintro h
     have := hI.out.1
     rw [<- this] at h
     omega
    go_wp2
    go_ret2
    exact RunePost.mk hbad.out rfl rfl hI.out.2.2
   ·have hL := letter_any (x : Int)
    cases hlb : letB (x : Int)
    ·rw [hlb] at hL
     have hbad : Hid (runeD s i = (0, 0)) := by
      unfold Hid; rw [hR.out, if_neg]; rintro h
      have := hI.out.1
      rw [<- this] at h
      simp [hlb] at h
     go_wp2_with (go_at_call 19; refine (hL _).mono ?_; rintro e wz ⟨rfl, hwz⟩; rw [hwz])
     go_ret2
     exact RunePost.mk hbad.out rfl rfl hI.out.2.2
    ·rw [hlb] at hL
     have hgood : Hid (runeD s i = (x, 4)) := by
      unfold Hid
      rw [hR.out, if_pos, <- hI.out.1]
      rw [<- hI.out.1]
      obtain ⟨g1, k1⟩ := hI.out.2.1 0 (by omega)
      obtain ⟨g2, k2⟩ := hI.out.2.1 1 (by omega)
      obtain ⟨g3, k3⟩ := hI.out.2.1 2 (by omega)
      exact ⟨⟨g1, k1⟩, ⟨g2, k2⟩, ⟨g3, k3⟩, by omega, hlb⟩
     have HL := hid hL
     clear hlb hL hR hand
     go_wp2_with (go_at_call 19; refine (HL.out _).mono ?_; rintro e wz ⟨rfl, hwz⟩; rw [hwz])
     go_ret2
     exact RunePost.mk hgood.out rfl rfl hI.out.2.2
set_option maxRecDepth 1000000 in
theorem rune_any (s : ByteArray) (i : Nat) (w : World) (hi : i < s.size) (hs : s.size <= 1000000) : Calls Tryz.prog 34 #[.string s, .int .i64 i] w (RunePost s i w) := by
 by_cases h1 : 192 <= byteAt s i /\ byteAt s i < 224
 ·exact rune2 s i w hi hs h1.1 h1.2
 by_cases h2 : 224 <= byteAt s i /\ byteAt s i < 240
 ·exact rune3 s i w hi hs h2.1 h2.2
 by_cases h3 : 240 <= byteAt s i /\ byteAt s i < 248
 ·exact rune4 s i w hi hs h3.1 h3.2
 have hb0 := byteAt_get hi
 have hblt := byteAt_lt s i
 by_cases h4 : byteAt s i < 128
 ·have hR := hid (runeD_1 h4)
  generalize byteAt s i = b at *
  go_enter Tryz.func34, Tryz.ntmps34
  go_wp2
  go_ret2
  exact RunePost.mk hR.out rfl rfl ⟨0, rfl⟩
 ·have hR := hid (runeD_bad (s := s) (i := i) (by omega))
  generalize byteAt s i = b at *
  have d0 : decide ((b : Int) < 128) = false := by simp; omega
  by_cases h5 : b < 192
  ·have d1 : decide ((192 : Int) <= b) = false := by simp; omega
   have d2 : decide ((224 : Int) <= b) = false := by simp; omega
   have d3 : decide ((240 : Int) <= b) = false := by simp; omega
   go_enter Tryz.func34, Tryz.ntmps34
   go_wp2
   go_ret2
   exact RunePost.mk hR.out rfl rfl ⟨0, rfl⟩
  ·have d1 : decide ((b : Int) < 224) = false := by simp; omega
   have d2 : decide ((b : Int) < 240) = false := by simp; omega
   have d3 : decide ((b : Int) < 248) = false := by simp; omega
   go_enter Tryz.func34, Tryz.ntmps34
   go_wp2
   go_ret2
   exact RunePost.mk hR.out rfl rfl ⟨0, rfl⟩
end Go.Proofs.YtbkfinjajkjhaaaGreatDoor
