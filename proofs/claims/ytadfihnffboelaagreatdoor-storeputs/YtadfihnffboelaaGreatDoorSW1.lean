import Derived.Test.YtadfihnffboelaaGreatDoorSL8
import Derived.Test.YtadfihnffboelaaGreatDoorSL21
import Derived.Test.YtadfihnffboelaaGreatDoorSA1
import Derived.Test.YtadfihnffboelaaGreatDoorV6
import Derived.Test.YtadfihnffboelaaGreatDoorST11
set_option linter.unusedVariables false
set_option linter.unusedSimpArgs false
set_option maxRecDepth 100000
namespace Go.Proofs.YtadfihnffboelaaGreatDoor
open Go.RowKit
set_option maxHeartbeats 8000000 in
theorem zqs (ao : Option Addr) (n cap : Nat) (la : List Int) (bo : Option Addr) (m cb : Nat) (lb : List Int) (w : World) (R : URow w ao n cap la) (Q : URow w bo m cb lb) :
  Calls Tryz.prog 17 #[.slice ao n cap, .slice bo m cb] w fun e w' => e = .returned (.bool (decide (la = lb))) /\ Below w.heap.size w w' := by
 have HR := hid R
 have HQ := hid Q
 have hn := R.len
 have hf := R.fits
 have hm := R.most
 have hn2 := Q.len
 have hf2 := Q.fits
 have hm2 := Q.most
 unfold maxLen at hm hm2
 clear R Q
 by_cases h1 : n = m
 ·subst h1
  have e0 : ((n : Int) == (n : Int)) = true := by simp
  go_enter Tryz.func17, Tryz.ntmps17
  go_wp2_with fail
  go_loopw [5] (fun i wr => ∃ q : Nat, q <= n /\ i = .int .i64 q /\ Hid (∀ k, k < q -> la.getD k 0 = lb.getD k 0) /\ Hid (Below w.heap.size w wr)) (fun i _ => n - (intOf i).toNat)
  case atStart => exact ⟨0, Nat.zero_le _, rfl, fun k hk => by omega, Below.refl _ _⟩
  case round =>
   obtain ⟨q, hq, rfl, hI, hbw⟩ := hrel
   by_cases hlt : q < n
   ·obtain ⟨b, o, rfl, hlb, hcc⟩ := HR.out.some (by omega)
    obtain ⟨b2, o2, rfl, hlb2, hcc2⟩ := HQ.out.some (by omega)
    have c1 := (hbw.out.cell (p := ⟨b, o + q, none⟩) hlb).trans (hcc q hlt)
    have c2 := (hbw.out.cell (p := ⟨b2, o2 + q, none⟩) hlb2).trans (hcc2 q hlt)
    have hq0 : (q : Int) < (n : Int) := by omega
    have hq1 : (0 : Int) <= (q : Int) := by omega
    obtain ⟨x, hx⟩ : ∃ x, x = la.getD q 0 := ⟨_, rfl⟩
    obtain ⟨y, hy⟩ : ∃ y, y = lb.getD q 0 := ⟨_, rfl⟩
    rw [<- hx] at c1
    rw [<- hy] at c2
    have HX := hid hx
    have HY := hid hy
    clear hcc hcc2 hx hy
    by_cases hxy : x = y
    ·subst hxy
     have ex : (x == x) = true := by simp
     go_wp2_with fail
     go_quiet (fail)
     go_wp2_with fail
     refine ⟨⟨q + 1, by omega, by go_num, fun k hk => ?_, Bt hbw.out (Bd _ _)⟩, by simp [intOf] <;> omega⟩
     by_cases e : k = q
     ·subst e; rw [<- HX.out, <- HY.out]
     ·exact hI.out k (by omega)
    ·have ex : (x == y) = false := by simpa using hxy
     have hne : Hid (decide (la = lb) = false) := decide_eq_false (fun e => hxy (by rw [HX.out, HY.out, e]))
     clear hxy
     go_wp2_with fail
     go_quiet (fail)
     go_wp2_with fail
     go_ret
     rw [hne.out]
     exact ⟨rfl, Bt hbw.out (Bd _ _)⟩
   ·obtain rfl : q = n := by omega
    have hne : Hid (decide (la = lb) = true) := decide_eq_true (zay1 (by omega) (fun k hk => hI.out k (by omega)))
    go_wp2_with fail
    go_ret
    rw [hne.out]
    exact ⟨rfl, hbw.out⟩
 ·have e0 : ((n : Int) == (m : Int)) = false := by simp; omega
  have hne : Hid (decide (la = lb) = false) := decide_eq_false (fun e => h1 (by rw [<- hn, <- hn2, e]))
  go_enter Tryz.func17, Tryz.ntmps17
  go_wp2_with fail
  go_ret
  rw [hne.out]
  exact ⟨rfl, Below.refl _ _⟩
theorem zzi {w1 wx wy : World} {p q : Nat} {a0 : Value} (h : wx.cell? ⟨p, q, none⟩ = some a0 /\ Below w1.heap.size w1 wx) (hb : Below wx.heap.size wx wy) : wy.cell? ⟨p, q, none⟩ = some a0 /\ Below w1.heap.size w1 wy := ⟨(hb.cell (p := ⟨p, q, none⟩) (jq h.1)).trans h.1, Bt h.2 hb⟩
theorem zvl {w1 wx : World} {p q : Nat} {a0 : Value} (h : wx.cell? ⟨p, q, none⟩ = some a0 /\ Below w1.heap.size w1 wx) : Below w1.heap.size w1 wx := h.2
set_option maxHeartbeats 16000000 in
theorem zvm {B B' g : Nat} {v vL : Value} {N N' : Int} {os : List Ob} {F : Nat -> Prop} {ls : List (Ob × Sl)} (w : World) (h1 : PH B v N (zo os) F w) (h2 : RH B' g N' vL ls w) (h3 : ls.map Prod.fst = os) :
  Calls Tryz.prog 18 #[v, .pointer (some ⟨g, 0, none⟩)] w fun e w' => e = .returned (.bool true) /\ Below w.heap.size w w' := by
 obtain ⟨gh, rfl⟩ := h1.ptr
 have hul := zum h1
 have hwl := zh os
 obtain ⟨U, hU⟩ : ∃ u, u = zg os := ⟨_, rfl⟩
 rw [<- hU] at hwl hul
 have CW : Hid (Calls Tryz.prog 46 #[.pointer (some ⟨g, 0, none⟩)] w fun e w' => ∃ ao cap, e = .returned (.slice ao U cap) /\ URow w' ao U cap (zo os) /\ (∀ a, ao = some a -> w.heap.size <= a.block) /\ Below w.heap.size w w') := by
  have := zpn w h2
  rw [h3, <- hU] at this; exact this
 have HP := hid h1
 have CU : Hid (∀ wx, Below w.heap.size w wx -> Calls Tryz.prog 21 #[.pointer (some ⟨gh, 0, none⟩)] wx fun e w' => e = .returned (.int .i64 (U : Nat)) /\ Below wx.heap.size wx w') := fun wx b => by
  have := zkw wx (HP.out.keep (fun c hc => b.block c (HP.out.ge c hc).2)); rw [hwl] at this; exact this
 have CD : Hid (∀ (i : Int) wx, Z64 i -> Below w.heap.size w wx -> Calls Tryz.prog 47 #[.pointer (some ⟨gh, 0, none⟩), .int .i64 i] wx fun e w' => e = .returned (.int .u64 (if 0 <= i /\ i < (U : Nat) then (zo os).getD i.toNat 0 else 0)) /\ Below wx.heap.size wx w') := fun i wx hi b => by
  have := ztw i hi wx (HP.out.keep (fun c hc => b.block c (HP.out.ge c hc).2)); rw [hwl] at this; exact this
 clear h1 h2 hU
 go_enter Tryz.func18, Tryz.ntmps18
 go_wp2_with fail
 refine CW.out.mono ?_
 rintro e W1 ⟨aw, cw, rfl, hu1, hfr, b1⟩
 have HU1 := hid hu1
 have HB1 := hid b1
 have hf1 := hu1.fits
 have hm1 := hu1.most
 unfold maxLen at hm1
 have eU : ((U : Int) == (U : Int)) = true := by simp
 clear hu1 b1 hfr CW
 go_wp2_with (first
  | (go_at_call 21; (refine (CU.out _ HB1.out).mono ?_); rintro e W4 ⟨rfl, b2⟩; have HB4 := hid (Bt HB1.out b2); have HU4 := hid (HU1.out.on b2); clear b2))
 go_loopw [6] (fun i wr => ∃ q : Nat, q <= U /\ i = .int .i64 q /\ Hid (Below W4.heap.size W4 wr)) (fun i _ => U - (intOf i).toNat)
 case atStart => exact ⟨0, Nat.zero_le _, rfl, Below.refl _ _⟩
 case round =>
  obtain ⟨q, hq, rfl, hI⟩ := hrel
  by_cases hlt : q < U
  ·obtain ⟨b, o, rfl, hlb, hcc⟩ := (HU4.out.on hI.out).some (by omega)
   have hc1 := hcc q hlt
   obtain ⟨z, hz⟩ : ∃ z, z = (zo os).getD q 0 := ⟨_, rfl⟩
   rw [<- hz] at hc1
   have C1 : Hid (∀ wx, Below wr.heap.size wr wx -> Calls Tryz.prog 47 #[.pointer (some ⟨gh, 0, none⟩), .int .i64 (q : Nat)] wx fun e w' => e = .returned (.int .u64 z) /\ Below wx.heap.size wx w') := fun wx b => by
    have := CD.out (q : Nat) wx (by unfold Z64; omega) (Bt (Bt HB4.out hI.out) b)
    rw [if_pos ⟨by omega, by omega⟩, Int.toNat_natCast, <- hz] at this; exact this
   have ez : (z == z) = true := by simp
   have HS0 : Hid (wr.cell? ⟨b, o + q, none⟩ = some (.int .u64 z) /\ Below wr.heap.size wr wr) := ⟨hc1, Below.refl _ _⟩
   clear hcc hz
   go_wp2_with fail
   clear hc1
   go_region_held3 (fun wx => wx.cell? ⟨b, o + q, none⟩ = some (.int .u64 z) /\ Below wr.heap.size wr wx)
    (first | exact zzi HS0.out (Bd wr 1) | exact zzi (by assumption) (by assumption))
    (first | (go_at_call 47; with_reducible refine (C1.out _ ?_).mono ?_; (exact zvl (p := b) (q := o + q) (a0 := .int .u64 z) (by assumption)); rintro e wa ⟨rfl, ba⟩))
   have HBE : Hid (Below W4.heap.size W4 wa) := Bt hI.out (zvl (p := b) (q := o + q) (a0 := .int .u64 z) (by assumption))
   rename_i hHeld
   clear hHeld
   go_wp2
   exact ⟨⟨q + 1, by omega, by go_num, HBE.out⟩, by simp [intOf] <;> omega⟩
  ·obtain rfl : q = U := by omega
   have HB5 := hid (Bt HB4.out hI.out)
   clear hI
   go_wp2_with fail
   go_ret
   exact ⟨rfl, HB5.out⟩
end Go.Proofs.YtadfihnffboelaaGreatDoor
