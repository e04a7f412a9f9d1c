import Derived.Test.YticimejfjjmikaaGreatDoorQ15
set_option linter.unusedVariables false
set_option linter.unusedSimpArgs false
set_option maxRecDepth 100000
namespace Go.Proofs.YticimejfjjmikaaGreatDoor
open Go.RowKit
theorem zqm (an ar : Option Addr) (nn cn nr cr : Nat) (ns : List Nd) (rs : List Int) (w : World) (G : GIs w an nn cn ar nr cr ns rs) :
  Calls Tryz.prog 16 #[GVal an nn cn ar nr cr] w fun e w' => e = .returned (.bool (fewB ns rs 30 && decide (0 < nn))) /\ Below w.heap.size w w' := by
 have hfi := G.nodes.fits
 have hmo := G.nodes.most
 unfold maxLen at hmo
 have b0 := Ba w (.cells #[.slice an nn cn, .slice ar nr cr] 34)
 have hbx := ze w #[.slice an nn cn, .slice ar nr cr] 34
 have CF := hid (zbj1 an ar nn cn nr cr ns rs 30 (by omega) _ (G.below b0))
 obtain ⟨W1, hW1⟩ : ∃ W, W = w.alloc (.cells #[.slice an nn cn, .slice ar nr cr] 34) := ⟨_, rfl⟩
 rw [<- hW1] at b0 hbx
 have HB0 := hid b0
 have HX : Hid (∀ W, Below W1.heap.size W1 W -> W.cell? ⟨w.heap.size, 0, none⟩ = some (.slice an nn cn)) := fun W hb => za ((hb.block w.heap.size (by rw [hW1, zb]; omega)).trans hbx) 0
 have c0 := za hbx 0
 have c1 := za hbx 1
 rw [hW1] at c0 c1
 have e30 : ((30 : Nat) : Int) = 30 := rfl
 rw [e30] at CF
 obtain ⟨fb, hfb⟩ : ∃ b, b = fewB ns rs 30 := ⟨_, rfl⟩
 rw [<- hfb] at CF
 rw [<- hfb]
 unfold GVal at CF
 unfold GVal
 clear G hbx b0 hfb
 have HW1 := hid hW1
 have ed : decide ((0 : Int) < (nn : Int)) = decide (0 < nn) := by
  by_cases h : 0 < nn
  ·rw [decide_eq_true h, decide_eq_true (by omega)]
  ·rw [decide_eq_false h, decide_eq_false (by omega)]
 clear hW1
 cases fb
 ·go_enter Tryz.func16, Tryz.ntmps16
  go_wp2_with (go_at_call 50; refine CF.out.mono ?_; rintro e W2 ⟨rfl, b2⟩; rw [<- HW1.out] at b2; have HB2 := hid (Bt HB0.out b2); clear b2)
  go_ret
  exact ⟨rfl, HB2.out⟩
 ·go_enter Tryz.func16, Tryz.ntmps16
  go_wp2_with (go_at_call 50; refine CF.out.mono ?_; rintro e W2 ⟨rfl, b2⟩; rw [<- HW1.out] at b2; have HB2 := hid (Bt HB0.out b2); have x2 := HX.out W2 b2; clear b2)
  go_ret
  refine ⟨?_, HB2.out⟩
  rw [Bool.true_and, <- ed]
  rfl
theorem zyq {ns : List Nd} (hs : qq ns) (hk : ∀ d ∈ ns, d.kids.length <= 100) (hn : ns.length <= 100) : (jc ns).1 = [] \/ (jc ns).1.length = ns.length := by
 by_cases e : (jc ns).2.1 = 0
 ·right
  have h := znz (N := 20000) (os := []) (nm := []) (rs := j7 ns.length) e hs hk hn (by omega) (by simp)
  rw [jc, h.words]
  unfold pR
  rw [List.length_map, h.len.2, zfi]
 ·left
  rw [jc, (zkn (N := 20000) (os := []) (nm := []) (ns := ns) (rs := j7 ns.length) e).1]
def atW (ws : List Int) (i : Int) : Int := ws.getD ((i.tmod ws.length + ws.length).tmod ws.length).toNat 0
theorem zoc {i n : Int} (hn : 0 < n) : 0 <= (i.tmod n + n).tmod n /\ (i.tmod n + n).tmod n < n := by
 have h1 := Int.tmod_lt_of_pos i hn
 have h2 : -n < i.tmod n := by
  have := Int.tmod_lt_of_pos (-i) hn
  rw [Int.neg_tmod] at this
  omega
 have h3 : 0 <= i.tmod n + n := by omega
 exact ⟨Int.tmod_nonneg _ h3, Int.tmod_lt_of_pos _ hn⟩
theorem zvf {ws : List Int} (h : 0 < ws.length) (i : Int) : atW ws i ∈ ws := by
 unfold atW
 have := zoc (i := i) (n := ws.length) (by omega)
 exact jd (by omega)
theorem zch1 (ao : Option Addr) (n cap : Nat) (ws : List Int) (i : Int) (hi : Z64 i) (w : World) (R : URow w ao n cap ws) (hn : 0 < n) (hsm : n <= 1000000) : Calls Tryz.prog 19 #[.slice ao n cap, .int .i64 i] w fun e w' => e = .returned (.int .u64 (atW ws i)) /\ w' = w := by
 have hf := R.fits
 have hm := R.most
 unfold maxLen at hm
 have hl := R.len
 obtain ⟨b, o, rfl, _, hcc⟩ := R.some hn
 have hr := zoc (i := i) (n := (n : Int)) (by omega)
 have h1 := Int.tmod_lt_of_pos i (show (0 : Int) < (n : Int) by omega)
 have h2 : -(n : Int) < i.tmod n := by
  have := Int.tmod_lt_of_pos (-i) (show (0 : Int) < (n : Int) by omega)
  rw [Int.neg_tmod] at this
  omega
 obtain ⟨k, hk⟩ : ∃ k : Nat, (i.tmod n + n).tmod n = (k : Int) := ⟨((i.tmod n + n).tmod n).toNat, by omega⟩
 rw [hk] at hr
 have hc := hcc k (by omega)
 have e : atW ws i = ws.getD k 0 := by unfold atW; rw [hl, hk]; rfl
 rw [e]
 obtain ⟨z, hz⟩ : ∃ z, z = ws.getD k 0 := ⟨_, rfl⟩
 rw [<- hz] at hc ⊢
 have hn0 : ((n : Int) == 0) = false := by simp; omega
 unfold Z64 at hi
 have hkn : k < n := by omega
 clear R hcc hz e hl hr
 go_enter Tryz.func19, Tryz.ntmps19
 go_wp2
 go_ret
 exact ⟨rfl, rfl⟩
theorem zzp {W wx wy : World} {p : Nat} {a0 a1 a2 : Value} (h : wx.cell? ⟨p, 0, none⟩ = some a0 /\ wx.cell? ⟨p, 1, none⟩ = some a1 /\ wx.cell? ⟨p, 2, none⟩ = some a2 /\ Below W.heap.size W wx) (hb : Below wx.heap.size wx wy) : wy.cell? ⟨p, 0, none⟩ = some a0 /\ wy.cell? ⟨p, 1, none⟩ = some a1 /\ wy.cell? ⟨p, 2, none⟩ = some a2 /\ Below W.heap.size W wy :=
 ⟨(hb.cell (p := ⟨p, 0, none⟩) (ql h.1)).trans h.1, (hb.cell (p := ⟨p, 1, none⟩) (ql h.2.1)).trans h.2.1, (hb.cell (p := ⟨p, 2, none⟩) (ql h.2.2.1)).trans h.2.2.1, Bt h.2.2.2 hb⟩
theorem zid {W wx : World} {p : Nat} {a0 a1 a2 : Value} (h : wx.cell? ⟨p, 0, none⟩ = some a0 /\ wx.cell? ⟨p, 1, none⟩ = some a1 /\ wx.cell? ⟨p, 2, none⟩ = some a2 /\ Below W.heap.size W wx) : Below W.heap.size W wx := h.2.2.2
def Bel (W0 W : World) : Prop := Below W0.heap.size W0 W
theorem zvg (os : List Ob) (x : Int) : eqvB os x x = true := (vd x x).2 (Eqv.refl x)
theorem zvh (os : List Ob) (x y : Int) : eqvB os x y = eqvB os y x := by
 cases e : eqvB os x y <;> cases e' : eqvB os y x
 ·rfl
 ·rw [(vd x y).2 ((vd y x).1 e').symm] at e; cases e
 ·rw [(vd y x).2 ((vd x y).1 e).symm] at e'; cases e'
 ·rfl
theorem zmk (os : List Ob) (x : Int) : alikeB os x x = true := (jf os x x).2 (yo.refl x)
theorem zml (os : List Ob) (x y : Int) : alikeB os x y = alikeB os y x := by
 cases e : alikeB os x y <;> cases e' : alikeB os y x
 ·rfl
 ·rw [(jf os x y).2 ((jf os y x).1 e').symm] at e; cases e
 ·rw [(jf os y x).2 ((jf os x y).1 e).symm] at e'; cases e'
 ·rfl
structure EqC (v : Value) (os : List Ob) (W0 : World) : Prop where
 q : ∀ x y, U64 x -> U64 y -> ∀ W, Bel W0 W -> Calls Tryz.prog 20 #[v, .int .u64 x, .int .u64 y] W fun e w' => e = .returned (.bool (eqvB os x y)) /\ Bel W0 w'
 a : ∀ x y, U64 x -> U64 y -> ∀ W, Bel W0 W -> Calls Tryz.prog 22 #[v, .int .u64 x, .int .u64 y] W fun e w' => e = .returned (.bool (alikeB os x y)) /\ Bel W0 w'
theorem EqC.of {B : Nat} {v : Value} {N : Int} {os : List Ob} {F : Nat -> Prop} {W0 : World} (h : HE B v N os F W0) (hT : xi W0) (hX : TxOk os) : EqC v os W0 :=
 ⟨fun x y hx hy W hb => (zia x y hx hy W (h.on hb) (hT.below hb)).mono (fun e w' ⟨h1, h2⟩ => ⟨h1, Bt hb h2⟩), fun x y hx hy W hb => (zcw x y hx hy W (h.on hb) (hT.below hb) hX).mono (fun e w' ⟨h1, h2⟩ => ⟨h1, Bt hb h2⟩)⟩
set_option maxHeartbeats 32000000 in
theorem zcf (an ar : Option Addr) (nn cn nr cr : Nat) (ns : List Nd) (rs : List Int) (i0 i1 i2 : Int) (w : World) (G : GIs w an nn cn ar nr cr ns rs) (h0 : Z64 i0) (h1 : Z64 i1) (h2 : Z64 i2) (hT : xi w) :
  Calls Tryz.prog 5 #[GVal an nn cn ar nr cr, .agg #[.int .i64 i0, .int .i64 i1, .int .i64 i2]] w fun e w' => e = .returned (.bool true) /\ Below w.heap.size w w' := by
 have HG := hid G
 have HT := hid hT
 have CA : Hid (∀ wx, Bel w wx -> Calls Tryz.prog 18 #[] wx fun e w' => e = .returned (.bool true) /\ Bel w w') := fun wx hb => (zql wx (hT.below hb)).mono (fun e w' ⟨h1, h2⟩ => ⟨h1, Bt hb h2⟩)
 have b0 := Bt (Ba w (.cells #[.slice an nn cn, .slice ar nr cr] 34)) (Ba _ (.cells #[.int .i64 i0, .int .i64 i1, .int .i64 i2] 49))
 have hx0 := (Ba (w.alloc (.cells #[.slice an nn cn, .slice ar nr cr] 34)) (.cells #[.int .i64 i0, .int .i64 i1, .int .i64 i2] 49)).block w.heap.size (by rw [zb]; omega)
 rw [ze] at hx0
 have hx1 := ze (w.alloc (.cells #[.slice an nn cn, .slice ar nr cr] 34)) #[.int .i64 i0, .int .i64 i1, .int .i64 i2] 49
 rw [zb] at hx1
 obtain ⟨W0, hW0⟩ : ∃ W, W = (w.alloc (.cells #[.slice an nn cn, .slice ar nr cr] 34)).alloc (.cells #[.int .i64 i0, .int .i64 i1, .int .i64 i2] 49) := ⟨_, rfl⟩
 rw [<- hW0] at b0 hx0 hx1
 have hs0 : W0.heap.size = w.heap.size + 1 + 1 := by rw [hW0, zb, zb]
 have HB0 := hid b0
 have HX : Hid (∀ W, Below W0.heap.size W0 W -> W.cell? ⟨w.heap.size, 0, none⟩ = some (.slice an nn cn) /\ W.cell? ⟨w.heap.size, 1, none⟩ = some (.slice ar nr cr) /\ W.cell? ⟨w.heap.size + 1, 0, none⟩ = some (.int .i64 i0) /\ W.cell? ⟨w.heap.size + 1, 1, none⟩ = some (.int .i64 i1) /\ W.cell? ⟨w.heap.size + 1, 2, none⟩ = some (.int .i64 i2)) := fun W hb => by
  have k0 := (hb.block w.heap.size (by omega)).trans hx0
  have k1 := (hb.block (w.heap.size + 1) (by omega)).trans hx1
  exact ⟨za k0 0, za k0 1, za k1 0, za k1 1, za k1 2⟩
 have CS := hid (zqm an ar nn cn nr cr ns rs W0 (G.below b0))
 have hln := G.nodes.len
 obtain ⟨c0, c1, _, _, _⟩ := HX.out W0 (Below.refl _ _)
 have HW0 := hid hW0
 obtain ⟨fb, hfb⟩ : ∃ b, b = (fewB ns rs 30 && decide (0 < nn)) := ⟨_, rfl⟩
 rw [<- hfb] at CS
 unfold GVal at CS
 unfold GVal
 rw [hW0] at c0 c1
 clear G hT b0 hx0 hx1 hs0
 cases fb
 ·clear hW0 hfb
  go_enter Tryz.func5, Tryz.ntmps5
  go_wp2_with (go_at_call 16; rw [<- HW0.out]; refine CS.out.mono ?_; rintro e W1 ⟨rfl, b1⟩; have HB1 := hid (Bt HB0.out b1); clear b1)
  go_ret
  exact ⟨rfl, HB1.out⟩
 have hfw : fewB ns rs 30 = true /\ 0 < nn := by
  have := hfb.symm
  rw [Bool.and_eq_true, decide_eq_true_eq] at this
  exact this
 obtain ⟨f1, f2, f3, f4⟩ := ztx hfw.1
 have CL : Hid (∀ W, Below W0.heap.size W0 W -> Calls Tryz.prog 17 #[.agg #[.slice an nn cn, .slice ar nr cr]] W (zve ns W)) := fun W hb => zob an ar nn cn nr cr ns rs W ((HG.out.below HB0.out).below hb) f3 f4 (by omega) ((HT.out.below HB0.out).below hb)
 have HTX := hid (zkq f3 f4 (by omega))
 have hlr : (jc ns).1.length <= 1000000 := by
  rcases zyq f3 f4 (by omega) with e | e
  ·rw [e]; simp
  ·omega
 unfold zve at CL
 obtain ⟨r, hr⟩ : ∃ r, r = jc ns := ⟨_, rfl⟩
 rw [<- hr] at CL HTX hlr
 obtain ⟨nw, hnw⟩ : ∃ n, n = r.1.length := ⟨_, rfl⟩
 rw [<- hnw] at CL hlr
 have HNW := hid hnw
 clear hr hnw hfb hfw f1 f2 f3 f4 hW0 HG
 by_cases hz : nw = 0
 ·subst hz
  go_enter Tryz.func5, Tryz.ntmps5
  go_wp2_with (first
   | (go_at_call 16; rw [<- HW0.out]; refine CS.out.mono ?_; rintro e W1 ⟨rfl, b1⟩; have C2 := hid (CL.out W1 b1); obtain ⟨d0, d1, _, _, _⟩ := HX.out W1 b1; have HB1 := hid b1; clear b1)
   | (go_at_call 17; refine C2.out.mono ?_; rintro e W2 ⟨v, g, ao, cap, F, vL, ls, B', rfl, u2, h2, r2, _, _, _, b2⟩; have C3 := hid (CA.out W2 (Bt HB0.out (Bt HB1.out b2))); clear u2 h2 r2 b2)
   | (go_at_call 18; refine C3.out.mono ?_; rintro e W3 ⟨rfl, b3⟩; have HB3 := hid b3; clear b3))
  go_ret
  exact ⟨rfl, HB3.out⟩
 have hz0 : ((nw : Int) == 0) = false := by simp; omega
 go_enter Tryz.func5, Tryz.ntmps5
 go_wp2_with (first
  | (go_at_call 16; rw [<- HW0.out]; refine CS.out.mono ?_; rintro e W1 ⟨rfl, b1⟩; have C2 := hid (CL.out W1 b1); obtain ⟨d0, d1, _, _, _⟩ := HX.out W1 b1; have HB1 := hid b1; clear b1)
  | (go_at_call 17; refine C2.out.mono ?_; rintro e W2 ⟨v, g, ao, cap, F, vL, ls, B', rfl, u2, h2, r2, _, _, _, b2⟩; have HU2 := hid u2; have HH2 := hid h2; have HB2 := hid (Bt HB1.out b2); clear u2 h2 r2 b2))
 obtain ⟨gh, rfl⟩ := HH2.out.ph.ptr
 have hU := HU2.out.bd
 have HTW : Hid (xi W2) := (HT.out.below HB0.out).below HB2.out
 have EC := hid (EqC.of HH2.out HTW.out HTX.out)
 have hw2 : Bel w W2 := Bt HB0.out HB2.out
 have HBW : Hid (∀ W, Bel W2 W -> Bel w W) := fun W hb => Bt hw2 hb
 obtain ⟨_, _, k0, k1, k2⟩ := HX.out W2 HB2.out
 have hf := HU2.out.fits
 have hm := HU2.out.most
 unfold maxLen at hm
 have CT : Hid (∀ i, Z64 i -> ∀ wx, Below W2.heap.size W2 wx -> Calls Tryz.prog 19 #[.slice ao nw cap, .int .i64 i] wx fun e w' => e = .returned (.int .u64 (atW r.1 i)) /\ Below wx.heap.size wx w') := fun i hi wx hb => (zch1 ao nw cap r.1 i hi wx (HU2.out.on hb) (by omega) hlr).mono (fun e w' ⟨h1, h2⟩ => ⟨h1, by rw [h2]; exact Below.refl _ _⟩)
 have ux : U64 (atW r.1 i0) := hU _ (zvf (by rw [<- HNW.out]; omega) i0)
 have uy : U64 (atW r.1 i1) := hU _ (zvf (by rw [<- HNW.out]; omega) i1)
 have uz' : U64 (atW r.1 i2) := hU _ (zvf (by rw [<- HNW.out]; omega) i2)
 have T0 := hid (CT.out i0 h0)
 have T1 := hid (CT.out i1 h1)
 have T2 := hid (CT.out i2 h2)
 obtain ⟨x, hx⟩ : ∃ x, x = atW r.1 i0 := ⟨_, rfl⟩
 obtain ⟨y, hy⟩ : ∃ x, x = atW r.1 i1 := ⟨_, rfl⟩
 obtain ⟨z, hzz⟩ : ∃ x, x = atW r.1 i2 := ⟨_, rfl⟩
 rw [<- hx] at T0 ux
 rw [<- hy] at T1 uy
 rw [<- hzz] at T2 uz'
 have HS0 : Hid (W2.cell? ⟨w.heap.size + 1, 0, none⟩ = some (.int .i64 i0) /\ W2.cell? ⟨w.heap.size + 1, 1, none⟩ = some (.int .i64 i1) /\ W2.cell? ⟨w.heap.size + 1, 2, none⟩ = some (.int .i64 i2) /\ Below W2.heap.size W2 W2) := ⟨k0, k1, k2, Below.refl _ _⟩
 clear CT hU hx hy hzz CL C2 CS d0 d1 c0 c1
 go_wp2_with fail
 go_region_held3 (fun wx => wx.cell? ⟨w.heap.size + 1, 0, none⟩ = some (.int .i64 i0) /\ wx.cell? ⟨w.heap.size + 1, 1, none⟩ = some (.int .i64 i1) /\ wx.cell? ⟨w.heap.size + 1, 2, none⟩ = some (.int .i64 i2) /\ Below W2.heap.size W2 wx)
  (first | exact zzp HS0.out (Bd W2 1) | exact zzp (by assumption) (by assumption))
  (first
   | (go_at_call 19; with_reducible refine (T0.out _ ?_).mono ?_; (exact zid (by assumption)); rintro e wa ⟨rfl, ba⟩)
   | (go_at_call 19; with_reducible refine (T1.out _ ?_).mono ?_; (exact zid (by assumption)); rintro e wb ⟨rfl, bb'⟩)
   | (go_at_call 19; with_reducible refine (T2.out _ ?_).mono ?_; (exact zid (by assumption)); rintro e wc ⟨rfl, bc⟩))
 have hbc : Bel W2 wc := zid (p := w.heap.size + 1) (a0 := .int .i64 i0) (a1 := .int .i64 i1) (a2 := .int .i64 i2) (by assumption)
 rename_i hHeld
 clear hHeld
 have Qxx := hid (EC.out.q x x ux ux)
 have Axx := hid (EC.out.a x x ux ux)
 have Qxy := hid (EC.out.q x y ux uy)
 have Qyx := hid (EC.out.q y x uy ux)
 have Axy := hid (EC.out.a x y ux uy)
 have Ayx := hid (EC.out.a y x uy ux)
 have Qyz := hid (EC.out.q y z uy uz')
 have Qxz := hid (EC.out.q x z ux uz')
 have Ayz := hid (EC.out.a y z uy uz')
 have Axz := hid (EC.out.a x z ux uz')
 rw [zvg] at Qxx
 rw [zmk] at Axx
 rw [zvh] at Qyx
 rw [zml] at Ayx
 have i1' : Hid (eqvB r.2.2.1 x y = true -> alikeB r.2.2.1 x y = true) := fun e => (jf _ _ _).2 ((vd _ _).1 e).alike
 have i2' : Hid (eqvB r.2.2.1 x y = true -> eqvB r.2.2.1 y z = true -> eqvB r.2.2.1 x z = true) := fun e e' => (vd _ _).2 (((vd _ _).1 e).trans ((vd _ _).1 e'))
 have i3' : Hid (alikeB r.2.2.1 x y = true -> alikeB r.2.2.1 y z = true -> alikeB r.2.2.1 x z = true) := fun e e' => (jf _ _ _).2 (((jf _ _ _).1 e).trans ((jf _ _ _).1 e'))
 have CW : Hid (∀ W, Bel W2 W -> Calls Tryz.prog 18 #[] W fun e w' => e = .returned (.bool true) /\ Bel w w') := fun W hb => CA.out W (HBW.out W hb)
 obtain ⟨p1, hp1⟩ : ∃ b, b = eqvB r.2.2.1 x y := ⟨_, rfl⟩
 obtain ⟨p2, hp2⟩ : ∃ b, b = alikeB r.2.2.1 x y := ⟨_, rfl⟩
 obtain ⟨p3, hp3⟩ : ∃ b, b = eqvB r.2.2.1 y z := ⟨_, rfl⟩
 obtain ⟨p4, hp4⟩ : ∃ b, b = eqvB r.2.2.1 x z := ⟨_, rfl⟩
 obtain ⟨p5, hp5⟩ : ∃ b, b = alikeB r.2.2.1 y z := ⟨_, rfl⟩
 obtain ⟨p6, hp6⟩ : ∃ b, b = alikeB r.2.2.1 x z := ⟨_, rfl⟩
 rw [<- hp1] at Qxy Qyx i1' i2'
 rw [<- hp2] at Axy Ayx i1' i3'
 rw [<- hp3] at Qyz i2'
 rw [<- hp4] at Qxz i2'
 rw [<- hp5] at Ayz i3'
 rw [<- hp6] at Axz i3'
 have j1 := i1'.out
 have j2 := i2'.out
 have j3 := i3'.out
 clear hp1 hp2 hp3 hp4 hp5 hp6 EC ux uy uz' T0 T1 T2 HS0 k0 k1 k2 HX HT HTX CA HU2 HH2 i1' i2' i3'
 have hcase : (p1 = false /\ p2 = false) \/ (p1 = false /\ p2 = true /\ p5 = false) \/ (p1 = false /\ p2 = true /\ p5 = true /\ p6 = true) \/ (p1 = true /\ p2 = true /\ p3 = false /\ p5 = false) \/ (p1 = true /\ p2 = true /\ p3 = false /\ p5 = true /\ p6 = true) \/ (p1 = true /\ p2 = true /\ p3 = true /\ p4 = true /\ p5 = false) \/ (p1 = true /\ p2 = true /\ p3 = true /\ p4 = true /\ p5 = true /\ p6 = true) := by
  revert j1 j2 j3
  cases p1 <;> cases p2 <;> cases p3 <;> cases p4 <;> cases p5 <;> cases p6 <;> simp
 clear j1 j2 j3
 rcases hcase with ⟨rfl, rfl⟩ | ⟨rfl, rfl, rfl⟩ | ⟨rfl, rfl, rfl, rfl⟩ | ⟨rfl, rfl, rfl, rfl⟩ | ⟨rfl, rfl, rfl, rfl, rfl⟩ | ⟨rfl, rfl, rfl, rfl, rfl⟩ | ⟨rfl, rfl, rfl, rfl, rfl, rfl⟩
 all_goals
  go_wp2_with (first
   | (go_at_call 20; (first | (with_reducible refine (Qxx.out _ (by assumption)).mono ?_) | (with_reducible refine (Qxy.out _ (by assumption)).mono ?_) | (with_reducible refine (Qyx.out _ (by assumption)).mono ?_) | (with_reducible refine (Qyz.out _ (by assumption)).mono ?_) | (with_reducible refine (Qxz.out _ (by assumption)).mono ?_)); rintro e W5 ⟨rfl, b5⟩)
   | (go_at_call 22; (first | (with_reducible refine (Axx.out _ (by assumption)).mono ?_) | (with_reducible refine (Axy.out _ (by assumption)).mono ?_) | (with_reducible refine (Ayx.out _ (by assumption)).mono ?_) | (with_reducible refine (Ayz.out _ (by assumption)).mono ?_) | (with_reducible refine (Axz.out _ (by assumption)).mono ?_)); rintro e W5 ⟨rfl, b5⟩)
   | (go_at_call 18; (with_reducible refine (CW.out _ (by assumption)).mono ?_); rintro e W6 ⟨rfl, b6⟩))
  go_ret
  exact ⟨rfl, b6⟩
end Go.Proofs.YticimejfjjmikaaGreatDoor
