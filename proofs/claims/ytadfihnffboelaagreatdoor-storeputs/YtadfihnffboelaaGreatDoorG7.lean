import Derived.Test.YtadfihnffboelaaGreatDoorST7
import Derived.Test.YtadfihnffboelaaGreatDoorSL3
import Derived.Shelf.Small.Utf8
import Derived.Shelf.Utf8.RuneCount
import Derived.Shelf.Unicode.ValidAny
import Derived.Test.YtadfihnffboelaaGreatDoorProg
import Derived.Test.YtadfihnffboelaaGreatDoorST4
import Derived.Test.YtadfihnffboelaaGreatDoorX1
set_option linter.unusedVariables false
set_option linter.unusedSimpArgs false
set_option maxRecDepth 100000
namespace Go.Proofs.YtadfihnffboelaaGreatDoor
open Go.RowKit
set_option maxHeartbeats 4000000 in
theorem zlw (d : Nd) (ka : Option Addr) (kc : Nat) (aW : Option Addr) (nW cW : Nat) (ws : List Int) (w : World) (hk : d.kind = 7 \/ d.kind = 8) (hK : IRow w ka d.kids.length kc d.kids) (hW : URow w aW nW cW ws) (hin : ∀ k ∈ d.kids, 0 <= k /\ k < nW) (hks : d.kids.length <= 1000000) :
  Calls Tryz.prog 44 #[ku d ka kc, .slice aW nW cW] w (vc d ws w) := by
 have HB := hid (Ba w (.cells #[.int .i64 d.kind, .int .i64 d.num, .string d.text, .slice ka d.kids.length kc] 68))
 have hx := zd w #[.int .i64 d.kind, .int .i64 d.num, .string d.text, .slice ka d.kids.length kc] 68
 have HX := hid hx
 have HFL : Hid (yi d ws = d.kids.map (fun k : Int => ws.getD k.toNat 0)) := by
  unfold Hid yi; rw [if_neg (by omega), if_neg (by omega), if_neg (by omega)]
 have HFK : Hid (zr d = if d.kind = 7 then 1 else 2) := by
  unfold Hid zr; rw [if_neg (by omega), if_neg (by omega), if_neg (by omega)]
 have HK := hid hK
 have HW := hid hW
 have HIN := hid hin
 have hkf := hK.fits
 have hkm := hK.most
 have hwf := hW.fits
 have hwm := hW.most
 have hwl := hW.len
 unfold maxLen at hkm hwm
 unfold ku
 obtain ⟨dk, dn, dt, dl⟩ := d
 simp only at HB hx HX HFL HFK HK HIN hks hk hkf ⊢
 obtain ⟨kn, hkn⟩ : ∃ n, n = dl.length := ⟨_, rfl⟩
 rw [<- hkn] at HB hx HX HK hks hkf ⊢
 have HN := hid hkn
 have c0 : (w.alloc (.cells #[.int .i64 dk, .int .i64 dn, .string dt, .slice ka kn kc] 68)).cell? ⟨w.heap.size, 0, none⟩ = some (.int .i64 dk) := za hx 0
 obtain ⟨W0, hW0⟩ : ∃ W, W = w.alloc (.cells #[.int .i64 dk, .int .i64 dn, .string dt, .slice ka kn kc] 68) := ⟨_, rfl⟩
 have eW : Hid (w.alloc (.cells #[.int .i64 dk, .int .i64 dn, .string dt, .slice ka kn kc] 68) = W0) := hW0.symm
 rw [eW.out] at HB HX
 have HS : Hid (w.heap.size < W0.heap.size) := by unfold Hid; rw [hW0, zb]; omega
 have HC : Hid (∀ W, Below W0.heap.size W0 W -> W.cell? ⟨w.heap.size, 3, none⟩ = some (.slice ka kn kc) /\ W.cell? ⟨w.heap.size, 0, none⟩ = some (.int .i64 dk)) := fun W b => ⟨za ((b.block w.heap.size HS.out).trans HX.out) 3, za ((b.block w.heap.size HS.out).trans HX.out) 0⟩
 have HKW : Hid (∀ W, Below W0.heap.size W0 W -> IRow W ka kn kc dl /\ URow W aW nW cW ws) := fun W b => ⟨HK.out.below (Bt HB.out b), HW.out.on (Bt HB.out b)⟩
 have e3 : (dk == 3) = false := by simp; omega
 have e5 : (dk == 5) = false := by simp; omega
 have e9 : (dk == 9) = false := by simp; omega
 have HKD := hid hk
 clear hx hkn hW0 hK hW hin hk
 go_enter Tryz.func44, Tryz.ntmps44
 go_wp2_with fail
 rw [eW.out]
 clear c0 e3 e5 e9
 go_loopw [6, 12] (fun v i wr => ∃ q : Nat, q <= kn /\ i = .int .i64 q /\ Hid (wr.ownsRow W0.heap.size 70 1 v q (uz ((dl.take q).map (fun k : Int => ws.getD k.toNat 0))) /\ Below W0.heap.size W0 wr)) (fun _ i _ => kn - (intOf i).toNat)
 case atStart => exact ⟨0, Nat.zero_le _, rfl, World.ownsRow_nil _ _ _ _, Below.refl _ _⟩
 case round =>
  obtain ⟨q, hq, rfl, hI⟩ := hrel
  have HOQ := hid hI.out.1
  have HBQ := hid hI.out.2
  obtain ⟨d3, d0⟩ := HC.out wr HBQ.out
  clear hI
  by_cases hlt : q < kn
  ·have hql : Hid (q < dl.length) := by unfold Hid; rw [<- HN.out]; exact hlt
   have hxb : 0 <= dl.getD q 0 /\ dl.getD q 0 < nW := by
    rw [List.getD_eq_getElem?_getD, List.getElem?_eq_getElem hql.out]; exact HIN.out _ (List.getElem_mem _)
   obtain ⟨b, o, rfl, hlb, hcc⟩ := (HKW.out wr HBQ.out).1.some (by omega)
   have hck := hcc q hlt
   have HT := hid (map_take (fun k : Int => ws.getD k.toNat 0) hql.out)
   obtain ⟨x, hx⟩ : ∃ x : Nat, dl.getD q 0 = (x : Int) := ⟨(dl.getD q 0).toNat, by omega⟩
   rw [hx] at hck HT hxb
   have hxn : x < nW := by omega
   have hU := (HKW.out wr HBQ.out).2
   obtain ⟨b2, o2, rfl, hlb2, hcc2⟩ := hU.rd.resolve_left (fun e => by rw [e] at hwl; simp at hwl; omega)
   have hcw := hcc2 x (by omega)
   have HT' : Hid ((dl.take (q + 1)).map (fun k : Int => ws.getD k.toNat 0) = (dl.take q).map (fun k : Int => ws.getD k.toNat 0) ++ [ws.getD x 0]) := by
    unfold Hid; rw [HT.out, Int.toNat_natCast]
   have hzu : Hid (U64 (ws.getD x 0)) := by
    unfold Hid; rw [List.getD_eq_getElem?_getD, List.getElem?_eq_getElem (by omega)]; exact hU.bd _ (List.getElem_mem _)
   obtain ⟨zx, hzx⟩ : ∃ z, z = ws.getD x 0 := ⟨_, rfl⟩
   rw [<- hzx] at hcw HT' hzu
   have HO1 := hid (jc HOQ.out (Ba wr (.cells #[.int .u64 zx] 70)))
   have HU1 := hid (jx (zd wr #[.int .u64 zx] 70) hzu.out)
   have HBA := hid (HBQ.out.trans ((Ba wr (.cells #[.int .u64 zx] 70)).mono HBQ.out.size))
   have HSA := hid HBA.out.size
   clear hcc hcc2 hzx hU HT hx hxb d0
   go_wp2_with (at_builtin; refine appU rfl _ _ 42 rfl W0.heap.size 70 Tryz.underlying42 ym _ q ((dl.take q).map (fun k : Int => ws.getD k.toNat 0)) rfl HO1.out (some ⟨wr.heap.size, 0, none⟩) 1 1 [zx] rfl HU1.out (by omega) HSA.out ?_; intro v2 w2 ho2 hg2)
   have HE : Hid (Below W0.heap.size W0 w2) := HBA.out.grown hg2 HSA.out (fun b hb => (HO1.out.lt b hb).1)
   refine ⟨⟨q + 1, by omega, by go_num, ?_, HE.out⟩, by simp [intOf] <;> omega⟩
   rw [HT'.out]; exact ho2
  ·obtain rfl : q = kn := by omega
   have fin : Hid (∀ v, wr.ownsRow W0.heap.size 70 1 v q (uz ((dl.take q).map (fun k : Int => ws.getD k.toNat 0))) -> wr.ownsRow w.heap.size 70 1 v (dl.map (fun k : Int => ws.getD k.toNat 0)).length (uz (dl.map (fun k : Int => ws.getD k.toNat 0))) /\ Below w.heap.size w wr) := fun v hO => by
    rw [List.take_of_length_le (by rw [<- HN.out]; exact Nat.le_refl _)] at hO
    rw [List.length_map, <- HN.out]
    exact ⟨xi hO HB.out.size, Bt HB.out HBQ.out⟩
   rcases HKD.out with rfl | rfl
   ·rw [if_pos rfl] at HFK
    go_wp2_with fail
    go_ret2
    unfold vc
    rw [HFK.out, HFL.out]
    obtain ⟨f1, f2⟩ := fin.out _ HOQ.out
    exact ⟨_, rfl, f1, f2⟩
   ·rw [if_neg (by decide)] at HFK
    go_wp2_with fail
    go_ret2
    unfold vc
    rw [HFK.out, HFL.out]
    obtain ⟨f1, f2⟩ := fin.out _ HOQ.out
    exact ⟨_, rfl, f1, f2⟩
theorem zpd (d : Nd) (ka : Option Addr) (kc : Nat) (aW : Option Addr) (nW cW : Nat) (ws : List Int) (w : World) (hk : 0 < zm d) (hp : d.kind = 3 -> zz d.text = true) (htx : d.text.size <= 5000) (hK : IRow w ka d.kids.length kc d.kids) (hW : URow w aW nW cW ws) (hin : ∀ k ∈ d.kids, 0 <= k /\ k < nW) (hks : d.kids.length <= 1000000) :
  Calls Tryz.prog 44 #[ku d ka kc, .slice aW nW cW] w (vc d ws w) := by
 unfold zm at hk
 split at hk
 ·omega
 by_cases h3 : d.kind = 3
 ·exact zpc d ka kc aW nW cW ws w h3 htx (hp h3)
 rw [if_neg h3] at hk
 by_cases h5 : d.kind = 5
 ·exact zhm d ka kc aW nW cW ws w h5 (by omega)
 rw [if_neg h5] at hk
 by_cases h7 : d.kind = 7 \/ d.kind = 8
 ·exact zlw d ka kc aW nW cW ws w h7 hK hW hin hks
 rw [if_neg h7] at hk
 by_cases h9 : d.kind = 9
 ·exact zjt d ka kc aW nW cW ws w h9 (by omega)
 rw [if_neg h9] at hk
 omega
set_option maxHeartbeats 4000000 in
theorem zwo (neg : Bool) (ao : Option Addr) (n cap : Nat) (l : List Nat) (w : World) (R : Row .u32 B32 w ao n cap l) (hn : n <= 1000) :
  Calls Tryz.prog 153 #[.agg #[.bool neg, .slice ao n cap]] w fun e w' => ∃ v, e = .returned v /\ w'.ownsRow w.heap.size 70 1 v (n + 1) (uz (bigL neg l)) /\ Below w.heap.size w w' := by
 have HR := hid R
 have hln := R.len
 have hf := R.fits
 have hm := R.most
 unfold maxLen at hm
 have b0 := Ba w (.cells #[.bool neg, .slice ao n cap] 134)
 have HB0 := hid b0
 have hx := zd w #[.bool neg, .slice ao n cap] 134
 have HX := hid hx
 have HC : Hid (∀ W, Below (w.alloc (.cells #[.bool neg, .slice ao n cap] 134)).heap.size (w.alloc (.cells #[.bool neg, .slice ao n cap] 134)) W -> W.cell? ⟨w.heap.size, 0, none⟩ = some (.bool neg) /\ W.cell? ⟨w.heap.size, 1, none⟩ = some (.slice ao n cap) /\ Below w.heap.size w W) := fun W b => by
  have e := (b.block w.heap.size (by rw [zb]; omega)).trans HX.out
  exact ⟨za e 0, za e 1, Bt HB0.out b⟩
 have CW : Hid (∀ x : Nat, x < 4294967296 -> ∀ W, Calls Tryz.prog 157 #[.int .i64 (x : Nat)] W fun e w' => e = .returned (.int .u64 (zj 1 (x : Nat) 0)) /\ w' = W) := fun x hx W => x8 x (by unfold Z64; omega) W
 have CW0 : Hid (∀ W, Calls Tryz.prog 157 #[.int .i64 0] W fun e w' => e = .returned (.int .u64 (zj 1 0 0)) /\ w' = W) := fun W => x8 0 (by unfold Z64; omega) W
 have CW1 : Hid (∀ W, Calls Tryz.prog 157 #[.int .i64 1] W fun e w' => e = .returned (.int .u64 (zj 1 1 0)) /\ w' = W) := fun W => x8 1 (by unfold Z64; omega) W
 obtain ⟨z0, hz0⟩ : ∃ z, z = zj 1 0 0 := ⟨_, rfl⟩
 obtain ⟨z1, hz1⟩ : ∃ z, z = zj 1 1 0 := ⟨_, rfl⟩
 rw [<- hz0] at CW0
 rw [<- hz1] at CW1
 obtain ⟨zs, hzs⟩ : ∃ z, z = if neg then z1 else z0 := ⟨_, rfl⟩
 have HBG : Hid (bigL neg [] = [zs]) := by
  unfold Hid bigL
  rw [hzs]
  cases neg
  ·simp [hz0]
  ·simp [hz1]
 obtain ⟨W0, hW0⟩ : ∃ W, W = w.alloc (.cells #[.bool neg, .slice ao n cap] 134) := ⟨_, rfl⟩
 have HW0 := hid hW0
 have HX0 := hid (HX.out)
 rw [<- hW0] at HC
 have c0 := (HC.out W0 (Below.refl _ _)).1
 have c1 := (HC.out (W0.alloc (.cells #[.int .u64 zs] 70)) (Ba W0 _)).2.1
 have HBSTART : Hid (Below W0.heap.size W0 (W0.alloc (.cells #[.int .u64 zs] 70))) := Ba W0 _
 have HSTART : Hid ((W0.alloc (.cells #[.int .u64 zs] 70)).ownsRow W0.heap.size 70 1 (.slice (some ⟨W0.heap.size, 0, none⟩) 1 1) (0 + 1) (uz (bigL neg (l.take 0)))) := by
  unfold Hid
  rw [List.take_zero, HBG.out]
  exact zsf (Below.refl _ _)
 have fin : Hid (∀ (v : Value) (wr : World) (q : Nat), wr.ownsRow W0.heap.size 70 1 v (q + 1) (uz (bigL neg (l.take q))) -> Below W0.heap.size W0 wr -> q = n -> wr.ownsRow w.heap.size 70 1 v (n + 1) (uz (bigL neg l)) /\ Below w.heap.size w wr) := fun v wr q h1 h2 e => by
  subst e
  rw [List.take_of_length_le (by omega)] at h1
  exact ⟨xi h1 (by rw [HW0.out, zb]; omega), (HC.out wr h2).2.2⟩
 have HRW : Hid (∀ W, Below W0.heap.size W0 W -> Row .u32 B32 W ao n cap l) := fun W b => HR.out.below (HC.out W b).2.2
 have HNE : Hid (neg = false -> zs = z0) := fun e => by rw [hzs, e]; rfl
 have HNT : Hid (neg = true -> zs = z1) := fun e => by rw [hzs, e]; rfl
 have eW : Hid (w.alloc (.cells #[.bool neg, .slice ao n cap] 134) = W0) := HW0.out.symm
 clear R b0 hx hz0 hz1 hzs hW0 HW0 HX HX0 HB0
 have go : Calls Tryz.prog 153 #[.agg #[.bool neg, .slice ao n cap]] w fun e w' => ∃ v, e = .returned v /\ w'.ownsRow w.heap.size 70 1 v (n + 1) (uz (bigL neg l)) /\ Below w.heap.size w w' := by
  cases neg
  ·obtain rfl := HNE.out rfl
   go_enter Tryz.func153, Tryz.ntmps153
   go_wp2_with fail
   rw [eW.out]
   go_wp2_with (go_at_call 157; (with_reducible refine (CW0.out W0).mono ?_); rintro e W1 ⟨rfl, hw1⟩; rw [hw1]; clear hw1)
   clear c0 c1
   go_loopw [4, 6, 16] (fun v _ i wr => ∃ q : Nat, q <= n /\ i = .int .i64 q /\ Hid (wr.ownsRow W0.heap.size 70 1 v (q + 1) (uz (bigL false (l.take q))) /\ Below W0.heap.size W0 wr)) (fun _ _ i _ => n - (intOf i).toNat)
   case atStart => exact ⟨0, Nat.zero_le _, rfl, HSTART.out, HBSTART.out⟩
   case round =>
    obtain ⟨q, hq, rfl, hI⟩ := hrel
    obtain ⟨_, d1, _⟩ := HC.out wr hI.out.2
    have HOQ := hid hI.out.1
    have HBQ := hid hI.out.2
    clear hI
    by_cases hlt : q < n
    ·obtain ⟨b, o, rfl, hlb, hcc⟩ := (HRW.out wr HBQ.out).rd.some (by omega)
     have hck := hcc q (by omega)
     have hxb : l.getD q 0 < B32 := by rw [List.getD_eq_getElem?_getD, List.getElem?_eq_getElem (by omega)]; exact HR.out.dg _ (List.getElem_mem _)
     have C1 := hid (CW.out (l.getD q 0) hxb wr)
     have HT := hid (zca false (l := l) (q := q) (by omega))
     obtain ⟨x, hx⟩ : ∃ x, x = l.getD q 0 := ⟨_, rfl⟩
     rw [<- hx] at hck C1 HT hxb
     have hxb' : x < 4294967296 := hxb
     obtain ⟨zx, hzx⟩ : ∃ z, z = zj 1 ((x : Nat) : Int) 0 := ⟨_, rfl⟩
     have hzu : Hid (U64 zx) := by unfold Hid; rw [hzx]; exact zv _ _ _
     rw [<- hzx] at C1 HT
     have HO1 := hid (jc HOQ.out (Ba wr (.cells #[.int .u64 zx] 70)))
     have HU1 := hid (jx (zd wr #[.int .u64 zx] 70) hzu.out)
     have HBA := hid (HBQ.out.trans ((Ba wr (.cells #[.int .u64 zx] 70)).mono HBQ.out.size))
     have HSA := hid HBA.out.size
     clear hcc hx hzx hxb
     go_wp2_with (first
      | (go_at_call 157; (with_reducible refine C1.out.mono ?_); rintro e W1 ⟨rfl, hw1⟩; rw [hw1]; clear hw1)
      | (at_builtin; refine appU rfl _ _ 42 rfl W0.heap.size 70 Tryz.underlying42 ym _ (q + 1) (bigL false (l.take q)) rfl HO1.out (some ⟨wr.heap.size, 0, none⟩) 1 1 [zx] rfl HU1.out (by omega) HSA.out ?_; intro v2 w2 ho2 hg2))
     have HE : Hid (Below W0.heap.size W0 w2) := HBA.out.grown hg2 HSA.out (fun b hb => (HO1.out.lt b hb).1)
     refine ⟨⟨q + 1, by omega, by go_num, ?_, HE.out⟩, by simp [intOf] <;> omega⟩
     rw [HT.out]; exact ho2
    ·obtain rfl : q = n := by omega
     go_wp2_with fail
     go_ret
     obtain ⟨f1, f2⟩ := fin.out _ _ _ HOQ.out HBQ.out rfl
     exact ⟨_, rfl, f1, f2⟩
  ·obtain rfl := HNT.out rfl
   go_enter Tryz.func153, Tryz.ntmps153
   go_wp2_with fail
   rw [eW.out]
   go_wp2_with (first
    | (go_at_call 157; (with_reducible refine (CW0.out W0).mono ?_); rintro e W1 ⟨rfl, hw1⟩; rw [hw1]; clear hw1)
    | (go_at_call 157; (with_reducible refine (CW1.out W0).mono ?_); rintro e W1 ⟨rfl, hw1⟩; rw [hw1]; clear hw1))
   clear c0 c1
   go_loopw [4, 6, 16] (fun v _ i wr => ∃ q : Nat, q <= n /\ i = .int .i64 q /\ Hid (wr.ownsRow W0.heap.size 70 1 v (q + 1) (uz (bigL true (l.take q))) /\ Below W0.heap.size W0 wr)) (fun _ _ i _ => n - (intOf i).toNat)
   case atStart => exact ⟨0, Nat.zero_le _, rfl, HSTART.out, HBSTART.out⟩
   case round =>
    obtain ⟨q, hq, rfl, hI⟩ := hrel
    obtain ⟨_, d1, _⟩ := HC.out wr hI.out.2
    have HOQ := hid hI.out.1
    have HBQ := hid hI.out.2
    clear hI
    by_cases hlt : q < n
    ·obtain ⟨b, o, rfl, hlb, hcc⟩ := (HRW.out wr HBQ.out).rd.some (by omega)
     have hck := hcc q (by omega)
     have hxb : l.getD q 0 < B32 := by rw [List.getD_eq_getElem?_getD, List.getElem?_eq_getElem (by omega)]; exact HR.out.dg _ (List.getElem_mem _)
     have C1 := hid (CW.out (l.getD q 0) hxb wr)
     have HT := hid (zca true (l := l) (q := q) (by omega))
     obtain ⟨x, hx⟩ : ∃ x, x = l.getD q 0 := ⟨_, rfl⟩
     rw [<- hx] at hck C1 HT hxb
     have hxb' : x < 4294967296 := hxb
     obtain ⟨zx, hzx⟩ : ∃ z, z = zj 1 ((x : Nat) : Int) 0 := ⟨_, rfl⟩
     have hzu : Hid (U64 zx) := by unfold Hid; rw [hzx]; exact zv _ _ _
     rw [<- hzx] at C1 HT
     have HO1 := hid (jc HOQ.out (Ba wr (.cells #[.int .u64 zx] 70)))
     have HU1 := hid (jx (zd wr #[.int .u64 zx] 70) hzu.out)
     have HBA := hid (HBQ.out.trans ((Ba wr (.cells #[.int .u64 zx] 70)).mono HBQ.out.size))
     have HSA := hid HBA.out.size
     clear hcc hx hzx hxb
     go_wp2_with (first
      | (go_at_call 157; (with_reducible refine C1.out.mono ?_); rintro e W1 ⟨rfl, hw1⟩; rw [hw1]; clear hw1)
      | (at_builtin; refine appU rfl _ _ 42 rfl W0.heap.size 70 Tryz.underlying42 ym _ (q + 1) (bigL true (l.take q)) rfl HO1.out (some ⟨wr.heap.size, 0, none⟩) 1 1 [zx] rfl HU1.out (by omega) HSA.out ?_; intro v2 w2 ho2 hg2))
     have HE : Hid (Below W0.heap.size W0 w2) := HBA.out.grown hg2 HSA.out (fun b hb => (HO1.out.lt b hb).1)
     refine ⟨⟨q + 1, by omega, by go_num, ?_, HE.out⟩, by simp [intOf] <;> omega⟩
     rw [HT.out]; exact ho2
    ·obtain rfl : q = n := by omega
     go_wp2_with fail
     go_ret
     obtain ⟨f1, f2⟩ := fin.out _ _ _ HOQ.out HBQ.out rfl
     exact ⟨_, rfl, f1, f2⟩
 exact go
set_option maxHeartbeats 4000000 in
theorem zpe (t : ByteArray) (ht : t.size <= 1000000) (w : World) :
  Calls Tryz.prog 123 #[.string t] w fun e w' => ∃ v, e = .returned v /\ w'.ownsRow w.heap.size 70 1 v t.size (uz (kh t t.size)) /\ Below w.heap.size w w' := by
 have CW : Hid (∀ x : Nat, x < 256 -> ∀ W, Calls Tryz.prog 157 #[.int .i64 (x : Nat)] W fun e w' => e = .returned (.int .u64 (zj 1 (x : Nat) 0)) /\ w' = W) := fun x hx W => x8 x (by unfold Z64; omega) W
 go_enter Tryz.func123, Tryz.ntmps123
 go_wp2_with fail
 go_loopw [3, 4, 7] (fun v _ i wr => ∃ q : Nat, q <= t.size /\ i = .int .i64 q /\ Hid (wr.ownsRow w.heap.size 70 1 v q (uz (kh t q)) /\ Below w.heap.size w wr)) (fun _ _ i _ => t.size - (intOf i).toNat)
 case atStart => exact ⟨0, Nat.zero_le _, rfl, World.ownsRow_nil _ _ _ _, Below.refl _ _⟩
 case round =>
  obtain ⟨q, hq, rfl, hI⟩ := hrel
  have HOQ := hid hI.out.1
  have HBQ := hid hI.out.2
  clear hI
  by_cases hlt : q < t.size
  ·have hck := qb hlt
   have hxb := qz t q
   have C1 := hid (CW.out (ze t q) hxb wr)
   have HT := hid (zes t q)
   obtain ⟨x, hx⟩ : ∃ x, x = ze t q := ⟨_, rfl⟩
   rw [<- hx] at hck C1 HT hxb
   obtain ⟨zx, hzx⟩ : ∃ z, z = zj 1 ((x : Nat) : Int) 0 := ⟨_, rfl⟩
   have hzu : Hid (U64 zx) := by unfold Hid; rw [hzx]; exact zv _ _ _
   rw [<- hzx] at C1 HT
   have HO1 := hid (jc HOQ.out (Ba wr (.cells #[.int .u64 zx] 70)))
   have HU1 := hid (jx (zd wr #[.int .u64 zx] 70) hzu.out)
   have HBA := hid (HBQ.out.trans ((Ba wr (.cells #[.int .u64 zx] 70)).mono HBQ.out.size))
   have HSA := hid HBA.out.size
   clear hx hzx
   go_wp2_with (first
    | (go_at_call 157; (with_reducible refine C1.out.mono ?_); rintro e W1 ⟨rfl, hw1⟩; rw [hw1]; clear hw1)
    | (at_builtin; refine appU rfl _ _ 42 rfl w.heap.size 70 Tryz.underlying42 ym _ q (kh t q) rfl HO1.out (some ⟨wr.heap.size, 0, none⟩) 1 1 [zx] rfl HU1.out (by omega) HSA.out ?_; intro v2 w2 ho2 hg2))
   have HE : Hid (Below w.heap.size w w2) := HBA.out.grown hg2 HSA.out (fun b hb => (HO1.out.lt b hb).1)
   refine ⟨⟨q + 1, by omega, by go_num, ?_, HE.out⟩, by simp [intOf] <;> omega⟩
   rw [HT.out]; exact ho2
  ·obtain rfl : q = t.size := by omega
   go_wp2_with fail
   go_ret
   exact ⟨_, rfl, HOQ.out, HBQ.out⟩
end Go.Proofs.YtadfihnffboelaaGreatDoor
namespace Go.Proofs
open Go.Shelf
def Tryz.lays119_ren : Go.Shelf.Ren := ⟨fun | 119 => 178 | n => n, fun | 21 => 21 | 4 => 4 | n => n, fun | n => n⟩
theorem Tryz.lays119 : Go.Proofs.Lays.n119 Tryz.prog Tryz.lays119_ren := {
 mixed := by kernel_rfl
 f119 := Tryz.func178.trans (congrArg some (by kernel_rfl))
 t4 := Tryz.underlying4
 a4 := Tryz.isAgg4
 z4 := Tryz.sizeOf4
 v4 := Tryz.zeroValue4
 t21 := Tryz.underlying21
 a21 := Tryz.isAgg21
 z21 := Tryz.sizeOf21
 v21 := Tryz.zeroValue21 }
def Tryz.lays195_ren : Go.Shelf.Ren := ⟨fun | 195 => 117 | n => n, fun | 9 => 9 | 3 => 3 | 0 => 0 | 4 => 4 | n => n, fun | n => n⟩
theorem Tryz.lays195 : Go.Proofs.Lays.n195 Tryz.prog Tryz.lays195_ren := {
 mixed := by kernel_rfl
 f195 := Tryz.func117.trans (congrArg some (by kernel_rfl))
 t0 := Tryz.underlying0
 a0 := Tryz.isAgg0
 z0 := Tryz.sizeOf0
 v0 := Tryz.zeroValue0
 t3 := Tryz.underlying3
 a3 := Tryz.isAgg3
 z3 := Tryz.sizeOf3
 v3 := Tryz.zeroValue3
 t4 := Tryz.underlying4
 a4 := Tryz.isAgg4
 z4 := Tryz.sizeOf4
 v4 := Tryz.zeroValue4
 t9 := Tryz.underlying9
 a9 := Tryz.isAgg9
 z9 := Tryz.sizeOf9
 v9 := Tryz.zeroValue9 }
def Tryz.lays196_ren : Go.Shelf.Ren := ⟨fun | 196 => 166 | 259 => 189 | n => n, fun | 9 => 9 | 4 => 4 | 3 => 3 | 5 => 5 | 12 => 12 | 119 => 230 | 0 => 0 | 46 => 178 | 139 => 233 | 138 => 232 | 53 => 69 | n => n, fun | 3 => 0 | 4 => 1 | n => n⟩
theorem Tryz.lays196 : Go.Proofs.Lays.n196 Tryz.prog Tryz.lays196_ren := {
 mixed := by kernel_rfl
 f196 := Tryz.func166.trans (congrArg some (by kernel_rfl))
 f259 := Tryz.func189.trans (congrArg some (by kernel_rfl))
 t0 := Tryz.underlying0
 a0 := Tryz.isAgg0
 z0 := Tryz.sizeOf0
 v0 := Tryz.zeroValue0
 t3 := Tryz.underlying3
 a3 := Tryz.isAgg3
 z3 := Tryz.sizeOf3
 v3 := Tryz.zeroValue3
 t4 := Tryz.underlying4
 a4 := Tryz.isAgg4
 z4 := Tryz.sizeOf4
 v4 := Tryz.zeroValue4
 t5 := Tryz.underlying5
 a5 := Tryz.isAgg5
 z5 := Tryz.sizeOf5
 v5 := Tryz.zeroValue5
 t9 := Tryz.underlying9
 a9 := Tryz.isAgg9
 z9 := Tryz.sizeOf9
 v9 := Tryz.zeroValue9
 t12 := Tryz.underlying12
 a12 := Tryz.isAgg12
 z12 := Tryz.sizeOf12
 v12 := Tryz.zeroValue12
 t46 := Tryz.underlying178
 a46 := Tryz.isAgg178
 z46 := Tryz.sizeOf178
 v46 := Tryz.zeroValue178
 t53 := Tryz.underlying69
 a53 := Tryz.isAgg69
 z53 := Tryz.sizeOf69
 v53 := Tryz.zeroValue69
 t119 := Tryz.underlying230
 a119 := Tryz.isAgg230
 z119 := Tryz.sizeOf230
 t138 := Tryz.underlying232
 a138 := Tryz.isAgg232
 z138 := Tryz.sizeOf232
 v138 := Tryz.zeroValue232
 t139 := Tryz.underlying233
 a139 := Tryz.isAgg233
 z139 := Tryz.sizeOf233
 v139 := Tryz.zeroValue233
 g3 := by kernel_rfl
 g4 := by kernel_rfl }
end Go.Proofs
namespace Go.Proofs.YtadfihnffboelaaGreatDoor
open Go.RowKit
def Tabs (w : World) : Prop := Lib.Utf8Tabs (Tryz.lays196_ren.g 3) (Tryz.lays196_ren.g 4) w
theorem Tabs.below {w w' : World} (h : Tabs w) (hb : Below w.heap.size w w') : Tabs w' := Utf8Tabs_below h hb
def yw (k : Int) : Bool := decide (k = 1) || decide (k = 2) || decide (k = 3) || decide (k = 4) || decide (k = 6) || decide (k = 10) || decide (k = 11)
def numB (k n : Int) : Bool := if k = 2 then decide (n = 0) || decide (n = 1) else if k = 4 then letB n else if k = 13 then decide (0 <= n) && decide (n <= 2) else decide (n = 0)
def qg (k : Int) (c : Nat) : Bool := if k = 7 \/ k = 13 then decide (c = 2) else if k = 8 then decide (c <= 1024) else if k = 15 \/ k = 16 then true else decide (c = 0)
def j8 (k : Int) (t : ByteArray) : Bool :=
 if k = 3 then zz t else if k = 5 then Lib.validD t.data.toList && decide (Lib.runeCount t <= 1024) else if k = 6 then decide (t.size ≠ 0) && Lib.validD t.data.toList
 else if k = 9 then decide (t.size <= 1024) else if k = 12 \/ k = 15 then Lib.validD t.data.toList else decide (t.size = 0)
set_option maxHeartbeats 1000000 in
theorem zwp (k : Int) (w : World) : Calls Tryz.prog 168 #[.int .i64 k] w fun e w' => e = .returned (.bool (yw k)) /\ w' = w := by
 unfold yw
 go_enter Tryz.func168, Tryz.ntmps168
 go_wp2
 all_goals (go_ret; refine ⟨?_, rfl⟩; simp_all)
set_option maxHeartbeats 1000000 in
theorem zju (k : Int) (w : World) : Calls Tryz.prog 66 #[.int .i64 k] w fun e w' => e = .returned (.bool (yw k)) /\ w' = w := by
 unfold yw
 go_enter Tryz.func66, Tryz.ntmps66
 go_wp2
 all_goals (go_ret; refine ⟨?_, rfl⟩; simp_all)
theorem zjv (n : Int) (w : World) : Calls Tryz.prog 169 #[.int .i64 n] w fun e w' => e = .returned (.bool (letB n)) /\ w' = w := by
 by_cases h1 : 0 <= n
 ·by_cases h2 : n <= 1114111
  ·have hv : ∀ wx, Calls Tryz.prog 178 #[.int .i32 n] wx fun e w' => e = .returned (.bool (letB n)) /\ w' = wx := fun wx => by
    refine (Any.utf8_ValidRune Tryz.lays119 n wx).mono ?_
    rintro e w' ⟨rfl, hw⟩
    refine ⟨?_, hw⟩
    congr 2
    unfold letB Lib.validRune
    rw [Bool.eq_iff_iff]
    simp only [Bool.and_eq_true, Bool.or_eq_true, decide_eq_true_eq]
    omega
   have HV := hid hv
   clear hv
   generalize letB n = L at *
   go_enter Tryz.func169, Tryz.ntmps169
   go_wp2_with (go_at_call 178; refine (HV.out _).mono ?_; rintro e wz ⟨rfl, hwz⟩; rw [hwz])
   go_ret
   exact ⟨rfl, rfl⟩
  ·have hl : letB n = false := by unfold letB; simp [h2]
   rw [hl]
   go_enter Tryz.func169, Tryz.ntmps169
   go_wp2
   go_ret
   exact ⟨by simp [h2], rfl⟩
 ·have hl : letB n = false := by unfold letB; simp [h1]
  rw [hl]
  go_enter Tryz.func169, Tryz.ntmps169
  go_wp2
  go_ret
  exact ⟨by simp [h1], rfl⟩
theorem znn (n : Int) : numB 2 n = (decide (n = 0) || decide (n = 1)) := rfl
theorem zno (n : Int) : numB 4 n = letB n := rfl
theorem zlx (n : Int) : numB 13 n = (decide (0 <= n) && decide (n <= 2)) := rfl
theorem zyx {k : Int} (n : Int) (h1 : k ≠ 2) (h2 : k ≠ 4) (h3 : k ≠ 13) : numB k n = decide (n = 0) := by unfold numB; simp [h1, h2, h3]
theorem jg {a b : Bool} (h : a = b) : Ending.returned (.bool a) = .returned (.bool b) := by rw [h]
theorem zhn (a b : Int) : (a == b) = decide (a = b) := by rw [Bool.eq_iff_iff]; simp
set_option maxHeartbeats 1000000 in
theorem zly (k n : Int) (w : World) : Calls Tryz.prog 148 #[.int .i64 k, .int .i64 n] w fun e w' => e = .returned (.bool (numB k n)) /\ w' = w := by
 by_cases h2 : k = 2
 ·subst h2
  rw [znn]
  by_cases hn : n = 0
  ·subst hn
   go_enter Tryz.func148, Tryz.ntmps148
   go_wp2
   go_ret
   exact ⟨rfl, rfl⟩
  ·have e1 : (n == 0) = false := by simp [hn]
   go_enter Tryz.func148, Tryz.ntmps148
   go_wp2
   go_ret
   exact ⟨jg (by rw [zhn]; simp [hn]), rfl⟩
 ·by_cases h4 : k = 4
  ·subst h4
   rw [zno]
   have HL := hid (zjv n)
   generalize letB n = L at *
   go_enter Tryz.func148, Tryz.ntmps148
   go_wp2_with (go_at_call 169; refine (HL.out _).mono ?_; rintro e wz ⟨rfl, hwz⟩; rw [hwz])
   go_ret
   exact ⟨rfl, rfl⟩
  ·by_cases h13 : k = 13
   ·subst h13
    rw [zlx]
    by_cases hn : 0 <= n
    ·go_enter Tryz.func148, Tryz.ntmps148
     go_wp2
     go_ret
     exact ⟨jg (by simp [hn]), rfl⟩
    ·have e1 : decide (0 <= n) = false := by simp [hn]
     go_enter Tryz.func148, Tryz.ntmps148
     go_wp2
     go_ret
     exact ⟨jg (by simp [e1]), rfl⟩
   ·rw [zyx n h2 h4 h13]
    have e1 : (k == 2) = false := by simp [h2]
    have e2 : (k == 4) = false := by simp [h4]
    have e3 : (k == 13) = false := by simp [h13]
    go_enter Tryz.func148, Tryz.ntmps148
    go_wp2
    go_ret
    exact ⟨jg (zhn n 0), rfl⟩
theorem zan {k : Int} (c : Nat) (h : k = 7 \/ k = 13) : qg k c = decide (c = 2) := by unfold qg; rw [if_pos h]
theorem zho (c : Nat) : qg 8 c = decide (c <= 1024) := rfl
theorem zao {k : Int} (c : Nat) (h : k = 15 \/ k = 16) : qg k c = true := by
 rcases h with rfl | rfl <;> rfl
theorem zhp {k : Int} (c : Nat) (h1 : k ≠ 7) (h2 : k ≠ 13) (h3 : k ≠ 8) (h4 : k ≠ 15) (h5 : k ≠ 16) : qg k c = decide (c = 0) := by unfold qg; simp [h1, h2, h3, h4, h5]
theorem zcs (a b : Nat) : ((a : Int) == (b : Int)) = decide (a = b) := by rw [Bool.eq_iff_iff, beq_iff_eq, decide_eq_true_eq]; omega
set_option maxHeartbeats 1000000 in
theorem zhq (k : Int) (c : Nat) (hc : c <= maxLen) (w : World) : Calls Tryz.prog 150 #[.int .i64 k, .int .i64 c] w fun e w' => e = .returned (.bool (qg k c)) /\ w' = w := by
 unfold maxLen at hc
 by_cases h1 : k = 7
 ·rw [zan c (.inl h1)]
  subst h1
  go_enter Tryz.func150, Tryz.ntmps150
  go_wp2
  go_ret
  exact ⟨jg (zcs c 2), rfl⟩
 ·by_cases h2 : k = 13
  ·rw [zan c (.inr h2)]
   subst h2
   go_enter Tryz.func150, Tryz.ntmps150
   go_wp2
   go_ret
   exact ⟨jg (zcs c 2), rfl⟩
  ·have e1 : (k == 7) = false := by simp [h1]
   have e2 : (k == 13) = false := by simp [h2]
   by_cases h3 : k = 8
   ·subst h3
    rw [zho]
    go_enter Tryz.func150, Tryz.ntmps150
    go_wp2
    go_ret
    exact ⟨jg (by rw [Bool.eq_iff_iff]; simp <;> omega), rfl⟩
   ·have e3 : (k == 8) = false := by simp [h3]
    by_cases h4 : k = 15
    ·rw [zao c (.inl h4)]
     subst h4
     go_enter Tryz.func150, Tryz.ntmps150
     go_wp2
     go_ret
     exact ⟨rfl, rfl⟩
    ·by_cases h5 : k = 16
     ·rw [zao c (.inr h5)]
      subst h5
      go_enter Tryz.func150, Tryz.ntmps150
      go_wp2
      go_ret
      exact ⟨rfl, rfl⟩
     ·have e4 : (k == 15) = false := by simp [h4]
      have e5 : (k == 16) = false := by simp [h5]
      rw [zhp c h1 h2 h3 h4 h5]
      go_enter Tryz.func150, Tryz.ntmps150
      go_wp2
      go_ret
      exact ⟨jg (zcs c 0), rfl⟩
theorem zjw (t : ByteArray) (w : World) (ht : t.size <= maxLen) (hT : Tabs w) : Calls Tryz.prog 166 #[.string t] w fun e w' => e = .returned (.bool (Lib.validD t.data.toList)) /\ Below w.heap.size w w' :=
 Any.utf8_ValidString Tryz.lays196 t w (by unfold maxLen at ht; exact ht) hT
theorem Bi (w : World) (s : ByteArray) (pos : Nat) : Below w.heap.size w (w.iter s pos) := Ba w _
theorem zjx (t : ByteArray) (w : World) (ht : t.size <= 1000000) : Calls Tryz.prog 117 #[.string t] w fun e w' => e = .returned (.int .i64 (Lib.runeCount t)) /\ Below w.heap.size w w' :=
 (Any.utf8_RuneCountInString Tryz.lays195 t w (by omega)).mono fun e w' ⟨h1, pos, h2⟩ => ⟨h1, h2 ▸ Bi w t pos⟩
theorem zhr (t : ByteArray) : j8 3 t = zz t := rfl
theorem zhs (t : ByteArray) : j8 5 t = (Lib.validD t.data.toList && decide (Lib.runeCount t <= 1024)) := rfl
theorem zlz (t : ByteArray) : j8 6 t = (decide (t.size ≠ 0) && Lib.validD t.data.toList) := rfl
theorem zma (t : ByteArray) : j8 9 t = decide (t.size <= 1024) := rfl
theorem zbg {k : Int} (t : ByteArray) (h : k = 12 \/ k = 15) : j8 k t = Lib.validD t.data.toList := by rcases h with rfl | rfl <;> rfl
theorem zsk {k : Int} (t : ByteArray) (h1 : k ≠ 3) (h2 : k ≠ 5) (h3 : k ≠ 6) (h4 : k ≠ 9) (h5 : k ≠ 12) (h6 : k ≠ 15) : j8 k t = decide (t.size = 0) := by unfold j8; simp [h1, h2, h3, h4, h5, h6]
theorem zsl (t : ByteArray) : decide (t = ByteArray.empty) = decide (t.size = 0) := by
 rw [Bool.eq_iff_iff, decide_eq_true_eq, decide_eq_true_eq]
 constructor
 ·rintro rfl; rfl
 ·intro h
  refine zrp ?_
  have h1 : bs t = [] := List.length_eq_zero_iff.1 (by rw [zl]; exact h)
  have h2 : bs ByteArray.empty = [] := List.length_eq_zero_iff.1 (by rw [zl]; rfl)
  rw [h1, h2]
set_option maxHeartbeats 1000000 in
theorem zjy (k : Int) (t : ByteArray) (w : World) (ht : t.size <= 1000000) (hT : Tabs w) : Calls Tryz.prog 149 #[.int .i64 k, .string t] w fun e w' => e = .returned (.bool (j8 k t)) /\ Below w.heap.size w w' := by
 have htm : t.size <= maxLen := by unfold maxLen; omega
 by_cases h1 : k = 3
 ·subst h1
  rw [zhr]
  have HP := hid (zhg t)
  generalize zz t = L at *
  go_enter Tryz.func149, Tryz.ntmps149
  go_wp2_with (go_at_call 170; refine (HP.out _ htm).mono ?_; rintro e wz ⟨rfl, hwz⟩)
  go_ret
  exact ⟨rfl, hwz⟩
 ·have e1 : (k == 3) = false := by simp [h1]
  have HV := hid (zjw t w htm hT)
  by_cases h2 : k = 5
  ·subst h2
   rw [zhs]
   generalize Lib.validD t.data.toList = V at *
   have HC := hid (fun w => zjx t w ht)
   have hcl := Lib.runeCount_le t
   generalize Lib.runeCount t = C at *
   cases V
   ·go_enter Tryz.func149, Tryz.ntmps149
    go_wp2_with (go_at_call 166; refine HV.out.mono ?_; rintro e wz ⟨rfl, hwz⟩)
    go_ret
    exact ⟨rfl, hwz⟩
   ·go_enter Tryz.func149, Tryz.ntmps149
    go_wp2_with (first | (go_at_call 166; refine HV.out.mono ?_; rintro e wz ⟨rfl, hwz⟩) | (go_at_call 117; refine (HC.out _).mono ?_; rintro e wy ⟨rfl, hwy⟩))
    go_ret
    exact ⟨jg (by rw [Bool.eq_iff_iff]; simp <;> omega), Bt hwz hwy⟩
  ·have e2 : (k == 5) = false := by simp [h2]
   by_cases h3 : k = 6
   ·subst h3
    rw [zlz]
    generalize Lib.validD t.data.toList = V at *
    by_cases h0 : t.size = 0
    ·have hem : t.toList.isEmpty = true := by rw [ql]; simp [h0]
     go_enter Tryz.func149, Tryz.ntmps149
     go_wp2_with fail
     go_ret
     exact ⟨jg (by simp [h0]), Below.refl _ _⟩
    ·have hem : t.toList.isEmpty = false := by rw [ql]; simp [h0]
     go_enter Tryz.func149, Tryz.ntmps149
     go_wp2_with (go_at_call 166; refine HV.out.mono ?_; rintro e wz ⟨rfl, hwz⟩)
     go_ret
     exact ⟨jg (by simp [h0]), hwz⟩
   ·have e3 : (k == 6) = false := by simp [h3]
    by_cases h4 : k = 9
    ·subst h4
     rw [zma]
     go_enter Tryz.func149, Tryz.ntmps149
     go_wp2
     go_ret
     exact ⟨jg (by rw [Bool.eq_iff_iff]; simp <;> omega), Below.refl _ _⟩
    ·have e4 : (k == 9) = false := by simp [h4]
     by_cases h5 : k = 12
     ·rw [zbg t (.inl h5)]
      subst h5
      generalize Lib.validD t.data.toList = V at *
      go_enter Tryz.func149, Tryz.ntmps149
      go_wp2_with (go_at_call 166; refine HV.out.mono ?_; rintro e wz ⟨rfl, hwz⟩)
      go_ret
      exact ⟨rfl, hwz⟩
     ·by_cases h6 : k = 15
      ·rw [zbg t (.inr h6)]
       subst h6
       generalize Lib.validD t.data.toList = V at *
       go_enter Tryz.func149, Tryz.ntmps149
       go_wp2_with (go_at_call 166; refine HV.out.mono ?_; rintro e wz ⟨rfl, hwz⟩)
       go_ret
       exact ⟨rfl, hwz⟩
      ·have e5 : (k == 12) = false := by simp [h5]
       have e6 : (k == 15) = false := by simp [h6]
       rw [zsk t h1 h2 h3 h4 h5 h6]
       have hem := ql t
       go_enter Tryz.func149, Tryz.ntmps149
       go_wp2
       go_ret
       exact ⟨jg (zsl t), Below.refl _ _⟩
end Go.Proofs.YtadfihnffboelaaGreatDoor
