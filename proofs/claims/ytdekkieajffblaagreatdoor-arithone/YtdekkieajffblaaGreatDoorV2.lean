import Derived.Test.YtdekkieajffblaaGreatDoorX1
import Derived.Laws.BitsAllLaws
import Derived.Test.YtdekkieajffblaaGreatDoorG5
import Derived.Deep.RegionLaw
import Derived.Deep.AppendLies
import Derived.Laws.AppendOwnNone
import Derived.Deep.RegionHeld3
import Derived.BigQuiet
import Derived.Deep.QuietTactic
set_option linter.unusedVariables false
set_option linter.unusedSimpArgs false
namespace Go.Proofs.YtdekkieajffblaaGreatDoor
open Go.RowKit
theorem u64_nat {x : Int} (h : U64 x) : ∃ a : Nat, x = (a : Int) /\ a < 18446744073709551616 := ⟨x.toNat, by unfold U64 at h; omega, by unfold U64 at h; omega⟩
theorem u64_or_nat (a b : Nat) (ha : a < 18446744073709551616) (hb : b < 18446744073709551616) : bits .or .u64 (a : Int) (b : Int) = ((a ||| b : Nat) : Int) := by
 have hx : a ||| b < 2 ^ 64 := Nat.or_lt_two_pow (by omega) (by omega)
 have h1 : (BitVec.ofInt 64 (a : Int)).toNat = a := by
  rw [BitVec.ofInt_natCast, BitVec.toNat_ofNat]; exact Nat.mod_eq_of_lt (by omega)
 have h2 : (BitVec.ofInt 64 (b : Int)).toNat = b := by
  rw [BitVec.ofInt_natCast, BitVec.toNat_ofNat]; exact Nat.mod_eq_of_lt (by omega)
 show IntKind.u64.wrap ((BitVec.ofInt 64 (a : Int) ||| BitVec.ofInt 64 (b : Int)).toNat : Int) = _
 rw [BitVec.toNat_or, h1, h2, IntKind.wrap_u64]
 omega
theorem u64_and_nat (a b : Nat) (ha : a < 18446744073709551616) (hb : b < 18446744073709551616) : bits .and .u64 (a : Int) (b : Int) = ((a &&& b : Nat) : Int) := by
 have hx : a &&& b <= a := Nat.and_le_left
 have h1 : (BitVec.ofInt 64 (a : Int)).toNat = a := by
  rw [BitVec.ofInt_natCast, BitVec.toNat_ofNat]; exact Nat.mod_eq_of_lt (by omega)
 have h2 : (BitVec.ofInt 64 (b : Int)).toNat = b := by
  rw [BitVec.ofInt_natCast, BitVec.toNat_ofNat]; exact Nat.mod_eq_of_lt (by omega)
 show IntKind.u64.wrap ((BitVec.ofInt 64 (a : Int) &&& BitVec.ofInt 64 (b : Int)).toNat : Int) = _
 rw [BitVec.toNat_and, h1, h2, IntKind.wrap_u64]
 omega
theorem nat_or_join (k a b : Nat) (hb : b < 2 ^ k) : a * 2 ^ k ||| b = a * 2 ^ k + b := by
 rw [Nat.mul_comm, Nat.two_pow_add_eq_or_of_lt hb]
theorem u64_or (k : Nat) {x b : Int} (hx : U64 x) (hd : ∃ a : Nat, x = (a : Int) * 2 ^ k) (hb0 : 0 <= b) (hb : b < 2 ^ k) (hb2 : b < 18446744073709551616) : bits .or .u64 x b = x + b := by
 obtain ⟨a, rfl⟩ := hd
 obtain ⟨m, rfl⟩ : ∃ m : Nat, b = (m : Int) := ⟨b.toNat, by omega⟩
 have e : ((a : Int) * 2 ^ k) = ((a * 2 ^ k : Nat) : Int) := by push_cast; rfl
 rw [e] at hx ⊢
 unfold U64 at hx
 rw [u64_or_nat _ _ (by omega) (by omega), nat_or_join k a m (by exact_mod_cast hb)]
 push_cast; rfl
theorem u64_and (k : Nat) {x : Int} (hx : U64 x) (hk : 2 ^ k <= 18446744073709551616) : bits .and .u64 x ((2 ^ k - 1 : Nat) : Int) = x % ((2 ^ k : Nat) : Int) := by
 obtain ⟨a, rfl, ha⟩ := u64_nat hx
 have h0 : 0 < 2 ^ k := Nat.two_pow_pos k
 rw [u64_and_nat a (2 ^ k - 1) ha (by omega), Nat.and_two_pow_sub_one_eq_mod]
 rfl
theorem and7 {x : Int} (hx : U64 x) : bits .and .u64 x 7 = x % 8 := u64_and 3 hx (by decide)
theorem and255w {x : Int} (hx : U64 x) : bits .and .u64 x 255 = x % 256 := u64_and 8 hx (by decide)
theorem or_low3 {x b : Int} (hx : U64 x) (hd : x % 8 = 0) (hb : 0 <= b /\ b < 8) : bits .or .u64 x b = x + b :=
 u64_or 3 hx ⟨(x / 8).toNat, by unfold U64 at hx; omega⟩ hb.1 (by omega) (by omega)
theorem or_low11 {x b : Int} (hx : U64 x) (hd : x % 2048 = 0) (hb : 0 <= b /\ b < 2048) : bits .or .u64 x b = x + b :=
 u64_or 11 hx ⟨(x / 2048).toNat, by unfold U64 at hx; omega⟩ hb.1 (by omega) (by omega)
theorem keepb {wx wy : World} {p : Nat} {u v : Value} (h : wx.cell? ⟨p, 0, none⟩ = some u /\ wx.cell? ⟨p, 1, none⟩ = some v) (hb : Below wx.heap.size wx wy) : wy.cell? ⟨p, 0, none⟩ = some u /\ wy.cell? ⟨p, 1, none⟩ = some v :=
 ⟨(hb.cell (p := ⟨p, 0, none⟩) (cell_lt h.1)).trans h.1, (hb.cell (p := ⟨p, 1, none⟩) (cell_lt h.1)).trans h.2⟩
theorem keepbs {wx : World} {p s : Nat} {u v u' v' : Value} (h : wx.cell? ⟨p, 0, none⟩ = some u /\ wx.cell? ⟨p, 1, none⟩ = some v) (hp : p ≠ s) :
  ((wx.setCell ⟨s, 0, none⟩ u').setCell ⟨s, 1, none⟩ v').cell? ⟨p, 0, none⟩ = some u /\ ((wx.setCell ⟨s, 0, none⟩ u').setCell ⟨s, 1, none⟩ v').cell? ⟨p, 1, none⟩ = some v :=
 ⟨(World.cell?_of_block (w := wx) (a := ⟨p, 0, none⟩) ((Below.heap_setCell _ _ _ _ hp).trans (Below.heap_setCell _ _ _ _ hp))).trans h.1, (World.cell?_of_block (w := wx) (a := ⟨p, 1, none⟩) ((Below.heap_setCell _ _ _ _ hp).trans (Below.heap_setCell _ _ _ _ hp))).trans h.2⟩
set_option maxHeartbeats 400000 in
theorem sign_any (neg : Bool) (w : World) : Calls Tryz.prog 37 #[.bool neg] w fun e w' => e = .returned (.int .i64 (if neg then -1 else 1)) /\ w' = w := by
 cases neg
 all_goals
  go_enter Tryz.func37, Tryz.ntmps37
  go_wp2
  go_ret
  exact ⟨rfl, rfl⟩
theorem sign_bel (neg : Bool) (w : World) : Calls Tryz.prog 37 #[.bool neg] w fun e w' => e = .returned (.int .i64 (if neg then -1 else 1)) /\ Below w.heap.size w w' :=
 (sign_any neg w).mono fun e w' ⟨h1, h2⟩ => ⟨h1, h2 ▸ Below.refl _ _⟩
set_option maxHeartbeats 2000000 in
theorem cmp_any (neg neg' : Bool) (ao ao' : Option Addr) (n cap n' cap' : Nat) (l l' : List Nat) (w : World) (R : Row .u32 B32 w ao n cap l) (R' : Row .u32 B32 w ao' n' cap' l') (g1 : goodB neg l = true) (g2 : goodB neg' l' = true) :
  Calls Tryz.prog 20 #[.agg #[.bool neg, .slice ao n cap], .agg #[.bool neg', .slice ao' n' cap']] w fun e w' => e = .returned (.int .i64 (cmpR neg neg' (val B32 l) (val B32 l'))) /\ Below w.heap.size w w' := by
 have HR := hid R
 have HR' := hid R'
 have G1 := hid g1
 have G2 := hid g2
 clear R R' g1 g2
 go_enter Tryz.func20, Tryz.ntmps20
 go_wp2_with fail
 have hS := two_start w neg neg' ao ao' n cap n' cap' 24 _ rfl
 have x1 := (Box.new 24 w neg ao n cap).alloc (.cells #[.bool neg', .slice ao' n' cap'] 24)
 have x2 := Box.new 24 (w.alloc (.cells #[.bool neg, .slice ao n cap] 24)) neg' ao' n' cap'
 rw [size_alloc] at x2
 have b0 := Baa w (.cells #[.bool neg, .slice ao n cap] 24) (.cells #[.bool neg', .slice ao' n' cap'] 24)
 generalize hW : ((w.alloc (.cells #[.bool neg, .slice ao n cap] 24)).alloc (.cells #[.bool neg', .slice ao' n' cap'] 24)) = W at *
 clear hW hS
 refine (good_any neg ao n cap l W (HR.out.below b0)).mono ?_
 rintro e w1 ⟨rfl, b1⟩
 rw [G1.out]
 have X1 := hid (x1.on b1)
 have X2 := hid (x2.on b1)
 have HB1 := hid (Bt b0 b1)
 obtain ⟨c20, c21⟩ := X2.out.c
 clear x1 x2 b0 b1
 go_wp2_with fail
 refine (good_any neg' ao' n' cap' l' w1 (HR'.out.below HB1.out)).mono ?_
 rintro e w2 ⟨rfl, b2⟩
 rw [G2.out]
 have Y1 := hid (X1.out.on b2)
 have Y2 := hid (X2.out.on b2)
 have HB2 := hid (Bt HB1.out b2)
 clear c20 c21 b2 X1 X2 HB1
 obtain ⟨c10, c11⟩ := Y1.out.c
 obtain ⟨c20, c21⟩ := Y2.out.c
 have RW := hid (HR.out.below HB2.out)
 have RW' := hid (HR'.out.below HB2.out)
 clear HR HR'
 obtain ⟨sg, hsg⟩ : ∃ sg : Int, sg = if neg then -1 else 1 := ⟨_, rfl⟩
 have CS : Hid (∀ wx, Calls Tryz.prog 37 #[.bool neg] wx fun e w' => e = .returned (.int .i64 sg) /\ Below wx.heap.size wx w') := fun wx => by rw [hsg]; exact sign_bel neg wx
 have hsb : -1 <= sg /\ sg <= 1 := by rw [hsg]; cases neg <;> simp
 have HSG := hid hsg
 clear hsg
 by_cases hne : neg = neg'
 ·subst hne
  have e0 : (neg != neg) = false := by simp
  have hS : w2.cell? ⟨w.heap.size, 0, none⟩ = some (.bool neg) /\ w2.cell? ⟨w.heap.size, 1, none⟩ = some (.slice ao n cap) /\ w2.cell? ⟨w.heap.size + 1, 0, none⟩ = some (.bool neg) /\ w2.cell? ⟨w.heap.size + 1, 1, none⟩ = some (.slice ao' n' cap') /\ Below w2.heap.size w2 w2 := ⟨c10, c11, c20, c21, Below.refl _ _⟩
  go_wp2
  go_region_held3 (fun wx => wx.cell? ⟨w.heap.size, 0, none⟩ = some (.bool neg) /\ wx.cell? ⟨w.heap.size, 1, none⟩ = some (.slice ao n cap) /\ wx.cell? ⟨w.heap.size + 1, 0, none⟩ = some (.bool neg) /\ wx.cell? ⟨w.heap.size + 1, 1, none⟩ = some (.slice ao' n' cap') /\ Below w2.heap.size w2 wx)
   (first | exact two_drew hS | exact two_on (by assumption) (by assumption))
   (first
    | (go_at_call 37; refine (CS.out _).mono ?_; rintro e wa ⟨rfl, ba⟩)
    | (go_at_call 38; refine (compareRows_bel ao ao' n cap n' cap' l l' _ ?_ ?_ (goodB_tr G1.out) (goodB_tr G2.out)).mono ?_; (exact RW.out.below (two_bel (p := w.heap.size) (q := w.heap.size + 1) (neg := neg) (neg' := neg) (ao := ao) (ao' := ao') (n := n) (cap := cap) (n' := n') (cap' := cap') (by assumption))); (exact RW'.out.below (two_bel (p := w.heap.size) (q := w.heap.size + 1) (neg := neg) (neg' := neg) (ao := ao) (ao' := ao') (n := n) (cap := cap) (n' := n') (cap' := cap') (by assumption))); rintro e wb ⟨rfl, bb⟩))
  have HBE : Hid (Below w.heap.size w wb) := Bt HB2.out (two_bel (p := w.heap.size) (q := w.heap.size + 1) (neg := neg) (neg' := neg) (ao := ao) (ao' := ao') (n := n) (cap := cap) (n' := n') (cap' := cap') (by assumption))
  rename_i hHeld
  clear hHeld
  have hbd := cmpN_bd (val B32 l) (val B32 l')
  have HE : Hid (IntKind.i64.wrap (sg * cmpN (val B32 l) (val B32 l')) = cmpR neg neg (val B32 l) (val B32 l')) := by
   unfold Hid
   rw [cmpR_eq, HSG.out, IntKind.wrap_i64]
   cases neg <;> simp <;> omega
  go_wp2
  go_ret
  exact ⟨ret_i64 HE.out, HBE.out⟩
 ·have e0 : (neg != neg') = true := by rw [bne_iff_ne]; exact hne
  have e1 : (!neg == neg') = true := by cases neg <;> cases neg' <;> simp_all
  have HC := hid (cmpR_ne (val B32 l) (val B32 l') hne)
  go_wp2_with (go_at_call 37; refine (CS.out _).mono ?_; rintro e wa ⟨rfl, ba⟩)
  go_ret
  exact ⟨ret_i64 (by rw [HC.out, HSG.out]), Bt HB2.out ba⟩
theorem sgn_neg (s : Bool) (v : Nat) : sgn (!s) v = - sgn s v := by cases s <;> simp [sgn]
set_option maxHeartbeats 2000000 in
theorem neg_any (neg : Bool) (ao : Option Addr) (n cap : Nat) (l : List Nat) (w : World) (R : Row .u32 B32 w ao n cap l) (g1 : goodB neg l = true) :
  Calls Tryz.prog 49 #[.agg #[.bool neg, .slice ao n cap]] w fun e w' => ∃ x, e = .returned x /\ IsInt w' x (- sgn neg (val B32 l)) /\ Below w.heap.size w w' := by
 have HR := hid R
 have G1 := hid g1
 have hn40 : n <= 40 := by rw [<- R.len]; exact goodB_len g1
 clear R g1
 go_enter Tryz.func49, Tryz.ntmps49
 go_wp2_with fail
 have x1 := (Box.new 24 w neg ao n cap).alloc (.cells #[.bool false, .slice none 0 0] 24)
 have x2 := Box.new 24 (w.alloc (.cells #[.bool neg, .slice ao n cap] 24)) false none 0 0
 rw [size_alloc] at x2
 have b0 := Baa w (.cells #[.bool neg, .slice ao n cap] 24) (.cells #[.bool false, .slice none 0 0] 24)
 generalize hW : ((w.alloc (.cells #[.bool neg, .slice ao n cap] 24)).alloc (.cells #[.bool false, .slice none 0 0] 24)) = W at *
 clear hW
 refine (good_any neg ao n cap l W (HR.out.below b0)).mono ?_
 rintro e w1 ⟨rfl, b1⟩
 rw [G1.out]
 have X1 := hid (x1.on b1)
 have X2 := hid (x2.on b1)
 have HB1 := hid (Bt b0 b1)
 obtain ⟨c10, c11⟩ := X1.out.c
 have RW := hid (HR.out.below HB1.out)
 clear x1 x2 b0 b1 HR
 have hS : w1.cell? ⟨w.heap.size, 0, none⟩ = some (.bool neg) /\ w1.cell? ⟨w.heap.size, 1, none⟩ = some (.slice ao n cap) := ⟨c10, c11⟩
 go_wp2
 go_region_held3 (fun wx => wx.cell? ⟨w.heap.size, 0, none⟩ = some (.bool neg) /\ wx.cell? ⟨w.heap.size, 1, none⟩ = some (.slice ao n cap))
  (first | exact ⟨c10, c11⟩ | exact keepb (by assumption) (by assumption) | exact keepbs (by assumption) (by omega))
  (first
   | (go_at_call 74; refine (clone_any ao n cap l _ ?_ (by omega)).mono ?_; (exact RW.out.below (Bd w1 1)); rintro e wa ⟨ao2, cap2, rfl, hO, ba⟩; have HO := hid hO; clear hO)
   | (go_at_call 52; refine (whole_any (!neg) ao2 n cap2 l _ ?_).mono ?_; (exact HO.out.row); rintro e wb ⟨x, lr, rfl, hIr, htr, hvr2, hlr, bb⟩; have hIs := is_mk hIr htr (by rw [hvr2]; exact good_small RW.out G1.out); rw [hvr2, sgn_neg] at hIs; obtain ⟨sx, ax, nx, cx, lx, rfl, Rx, gx, hzx⟩ := hIs.open_; have Z := (X2.out.on (Bd w1 1)).on ba; have Z2 := Z.on bb; obtain ⟨z0, z1⟩ := Z2.c; obtain ⟨f0, f1⟩ := Z2.f; have HZ := hid Z2; have HRx := hid Rx; have HGx := hid (And.intro gx hzx); clear hIr htr hvr2 hlr hIs Rx gx hzx Z Z2))
 have hbW : Below w.heap.size w wb := Bt (Bt (Bt HB1.out (Bd w1 1)) ba) bb
 have z := HZ.out.set2 sx ax nx cx
 obtain ⟨y0, y1⟩ := z.c
 have rx := HRx.out.setBox2 HZ.out sx (.slice ax nx cx)
 have bF := (hbW.setCell (p := ⟨w.heap.size + 1, 0, none⟩) (by simp) (.bool sx)).setCell (p := ⟨w.heap.size + 1, 1, none⟩) (by simp) (.slice ax nx cx)
 rename_i hHeld
 clear hHeld
 go_wp2
 exact bodyPost_ret (v := .agg #[.bool sx, .slice ax nx cx]) (by simp [results, Tryz.results49, go_sem, y0, y1]) rfl ⟨_, rfl, ⟨sx, lx, ⟨ax, nx, cx, rfl, rx⟩, HGx.out.1, HGx.out.2⟩, bF⟩
section
variable {P : Program} {w : World} {ops : Array Oper} {o : Oper} {a : Act} {K : Act -> World -> Prop} {Q : Exit -> Act -> World -> Prop} {E : Prop}
end
section
variable {P : Program} {ops : Array Oper} {Q : Exit -> Act -> World -> Prop} {md : Region.Mode} {S : World -> Prop}
theorem htake (i : Nat) (d : Option Nat) (v : Value) {oi : Oper} {fuel : Nat} {listed : Array Bool} {a : Act} {w : World} (hi : ops[i]? = some oi) (hd : oi.dst = d)
  (hs : Region.noSelect ops = true) (hf : Region.free md ops listed i = true) (hr : (Region.ready md ops listed).contains i = true)
  (hQ : ∀ c a w, Q (.panic c) (a.put d v) w -> Q (.panic c) a w) (hy : YieldsIf P ops S oi v a) (hS : S w)
  (h : wpAnyH P md ops Q S fuel (listed.setIfInBounds i true) (a.put d v) w) : wpAnyH P md ops Q S (fuel + 1) listed a w := by
 subst hd
 exact wpAnyH_take hi hs hf hr hQ hy hS h
theorem hone (i : Nat) (o : Oper) {fuel : Nat} {listed : Array Bool} {a : Act} {w : World} (ho : ops[i]? = some o) (hr : Region.ready md ops listed = [i])
  (h : ∀ K' : Act -> World -> Prop, Shut (∀ a w, S w -> (S w -> wpAnyH P md ops Q S fuel (listed.setIfInBounds i true) a w) -> K' a w) -> if Region.wanted o (yielded ops a.tmps) = true then Oper.wp P o a w K' Q else K' (a.put o.dst undef) w) :
  wpAnyH P md ops Q S (fuel + 1) listed a w := wpAnyH_ready hr (by simp) (AllReadyH.cons ho h AllReadyH.nil)
end
structure Ob where
 kind : Int
 f : List Int
deriving Inhabited
def usedL : List Ob -> Nat
 | [] => 0
 | x :: l => 1 + x.f.length + usedL l
theorem usedL_append (a b : List Ob) : usedL (a ++ b) = usedL a + usedL b := by
 induction a with
 | nil => simp [usedL]
 | cons x l ih => simp only [List.cons_append, usedL, ih]; omega
def uz (l : List Int) : List Value := l.map (Value.int .u64)
theorem uz_append (a b : List Int) : uz (a ++ b) = uz a ++ uz b := by simp [uz]
theorem uz_length (l : List Int) : (uz l).length = l.length := by simp [uz]
theorem uz_get {l : List Int} {i : Nat} (h : i < l.length) : (uz l)[i]? = some (.int .u64 (l.getD i 0)) := by
 simp [uz, List.getElem?_map, List.getElem?_eq_getElem h, List.getD_eq_getElem?_getD]
structure Mod (F : Nat -> Prop) (w w' : World) : Prop where
 os : w'.os = w.os
 tape : w'.tape = w.tape
 output : w'.output = w.output
 size : w.heap.size <= w'.heap.size
 block : ∀ b, b < w.heap.size -> ¬ F b -> w'.heap[b]? = w.heap[b]?
section
variable {F G : Nat -> Prop} {w w1 w2 : World}
theorem Mod.refl (F : Nat -> Prop) (w : World) : Mod F w w := ⟨rfl, rfl, rfl, Nat.le_refl _, fun _ _ _ => rfl⟩
theorem Mod.of_below (F : Nat -> Prop) (h : Below w.heap.size w w1) : Mod F w w1 := ⟨h.os, h.tape, h.output, h.size, fun b hb _ => h.block b hb⟩
theorem Mod.trans (h : Mod F w w1) (k : Mod G w1 w2) (hG : ∀ b, b < w.heap.size -> G b -> F b) : Mod F w w2 :=
 ⟨k.os.trans h.os, k.tape.trans h.tape, k.output.trans h.output, Nat.le_trans h.size k.size, fun b hb hF => (k.block b (Nat.lt_of_lt_of_le hb h.size) (fun e => hF (hG b hb e))).trans (h.block b hb hF)⟩
theorem Mod.below (h : Mod F w w1) {B : Nat} (hF : ∀ b, F b -> B <= b) (hB : B <= w.heap.size) : Below B w w1 := ⟨h.os, h.tape, h.output, h.size, fun b hb => h.block b (by omega) (fun e => by have := hF b e; omega)⟩
theorem Mod.setCell (h : Mod F w w1) {p : Addr} (hp : F p.block \/ w.heap.size <= p.block) (u : Value) : Mod F w (w1.setCell p u) :=
 ⟨h.os, h.tape, h.output, by have := h.size; simp [World.setCell]; omega, fun b hb hF => (Below.heap_setCell _ _ _ _ (fun e => by subst e; rcases hp with h' | h'; exact hF h'; omega)).trans (h.block b hb hF)⟩
end
theorem own_at {w w' : World} {base : Nat} {e : TypeId} {k : Nat} {v : Value} {n : Nat} {xs : List Value} (h : w.ownsRow base e k v n xs) (hb : ∀ b, v.ownBlock = some b -> w'.heap[b]? = w.heap[b]?) : w'.ownsRow base e k v n xs := by
 refine ⟨h.1, ?_⟩
 rcases h.2 with h0 | ⟨g, cap, cur, h1, h2, h3, h4⟩
 ·exact .inl h0
 ·exact .inr ⟨g, cap, cur, h1, h2, (hb g (by rw [h1]; rfl)).trans h3, h4⟩
set_option maxRecDepth 100000
def atO (os : List Ob) (i : Nat) : Nat := usedL (os.take i)
def fnd (os : List Ob) (n : Int) (i : Nat) : Option Nat := if i < os.length then (if (atO os i : Int) = n then some i else fnd os n (i + 1)) else none
termination_by os.length - i
def findM (os : List Ob) (p : Int) : Option Nat := if (ofR p).1 = 2 then fnd os (ofR p).2.1 0 else none
theorem fnd_lt {os : List Ob} {n : Int} {i j : Nat} (h : fnd os n i = some j) : j < os.length /\ (atO os j : Int) = n := by
 induction hk : os.length - i generalizing i with
 | zero => rw [fnd, if_neg (by omega)] at h; cases h
 | succ k ih =>
  rw [fnd, if_pos (by omega)] at h
  split at h
  ·injection h with h; subst h; exact ⟨by omega, by assumption⟩
  ·exact ih h (by omega)
def fieldM (os : List Ob) (p kind i : Int) : Int × Int :=
 match findM os p with
 | none => (0, 70)
 | some n => if kind ≠ 0 /\ (os.getD n default).kind ≠ kind then (0, 70) else if i < 0 \/ ((os.getD n default).f.length : Int) <= i then (0, 2) else ((n : Int), 0)
def getM (os : List Ob) (p kind i : Int) : Int × Int :=
 if (fieldM os p kind i).2 = 0 then ((os.getD (fieldM os p kind i).1.toNat default).f.getD i.toNat 0, 0) else (0, (fieldM os p kind i).2)
theorem findM_lt {os : List Ob} {p : Int} {n : Nat} (h : findM os p = some n) : n < os.length /\ (atO os n : Int) = (ofR p).2.1 := by
 unfold findM at h
 split at h
 ·exact fnd_lt h
 ·cases h
theorem fieldM_ok {os : List Ob} {p kind i : Int} (h : (fieldM os p kind i).2 = 0) : ∃ n : Nat, fieldM os p kind i = ((n : Int), 0) /\ n < os.length /\ findM os p = some n /\ 0 <= i /\ i < (os.getD n default).f.length := by
 unfold fieldM at h ⊢
 cases hf : findM os p with
 | none => rw [hf] at h; simp at h
 | some n =>
  rw [hf] at h
  simp only at h ⊢
  split at h
  ·simp at h
  ·rename_i h1
   split at h
   ·simp at h
   ·rename_i h2
    exact ⟨n, by rw [if_neg h1, if_neg h2], (findM_lt hf).1, rfl, by omega, by omega⟩
end Go.Proofs.YtdekkieajffblaaGreatDoor
