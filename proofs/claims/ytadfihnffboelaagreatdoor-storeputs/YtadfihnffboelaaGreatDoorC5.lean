import Derived.Test.YtadfihnffboelaaGreatDoorG21
import Derived.Test.YtadfihnffboelaaGreatDoorV1
import Derived.Test.YtadfihnffboelaaGreatDoorG3
import Derived.Test.YtadfihnffboelaaGreatDoorG12
import Derived.Test.YtadfihnffboelaaGreatDoorV6
import Derived.Test.YtadfihnffboelaaGreatDoorM2
import Derived.Test.YtadfihnffboelaaGreatDoorK1
set_option linter.unusedVariables false
set_option linter.unusedSimpArgs false
set_option maxRecDepth 100000
namespace Go.Proofs.YtadfihnffboelaaGreatDoor
open Go.RowKit
section
variable {w1 wx wy : World} {X Y : List Nd × List Int} {k : Nat} {al be : Bool} {t16 t18 t5 t6 : Value}
def zci (w1 : World) (p q : Nat) (a0 a1 b0 b1 : Value) (wx : World) : Prop := (wx.cell? ⟨p, 0, none⟩ = some a0 /\ wx.cell? ⟨p, 1, none⟩ = some a1 /\ wx.cell? ⟨q, 0, none⟩ = some b0 /\ wx.cell? ⟨q, 1, none⟩ = some b1) /\ Below w1.heap.size w1 wx
theorem zci.on {p q : Nat} {a0 a1 b0 b1 : Value} (h : zci w1 p q a0 a1 b0 b1 wx) (hb : Below wx.heap.size wx wy) : zci w1 p q a0 a1 b0 b1 wy :=
 ⟨⟨(hb.cell (p := ⟨p, 0, none⟩) (jq h.1.1)).trans h.1.1, (hb.cell (p := ⟨p, 1, none⟩) (jq h.1.1)).trans h.1.2.1, (hb.cell (p := ⟨q, 0, none⟩) (jq h.1.2.2.1)).trans h.1.2.2.1, (hb.cell (p := ⟨q, 1, none⟩) (jq h.1.2.2.1)).trans h.1.2.2.2⟩, Bt h.2 hb⟩
end
set_option maxHeartbeats 1000000 in
theorem zaq1 (an ar : Option Addr) (nn cn nr cr : Nat) (ns : List Nd) (rs : List Int) (most : Nat) (hmost : most <= 1000) (w : World) (G : GIs w an nn cn ar nr cr ns rs) :
  Calls Tryz.prog 13 #[GVal an nn cn ar nr cr, .int .i64 most] w fun e w' => e = .returned (.bool (fewB ns rs most)) /\ Below w.heap.size w w' := by
 have HG := hid G
 have hn1 := G.nodes.fits
 have hn2 := G.nodes.most
 have hr1 := G.roots.fits
 have hr2 := G.roots.most
 unfold maxLen at hn2 hr2
 unfold GVal
 clear G
 go_enter Tryz.func13, Tryz.ntmps13
 by_cases h1 : nn <= most
 ·by_cases h2 : nr <= most
  ·go_wp2
   have b1 := Ba w (.cells #[.slice an nn cn, .slice ar nr cr] 41)
   have x1 := GBox.new 41 w an ar nn cn nr cr
   obtain ⟨g, hg⟩ : ∃ g, g = w.heap.size := ⟨_, rfl⟩
   rw [<- hg] at x1
   rw [<- hg]
   have G1 := hid (HG.out.below b1)
   generalize w.alloc (.cells #[.slice an nn cn, .slice ar nr cr] 41) = W1 at *
   have HB := hid b1
   obtain ⟨c0, c1⟩ := x1.c
   clear b1 x1 hg
   go_loopw [5] (fun i wr => ∃ m : Nat, m <= nn /\ i = .int .i64 m /\ Hid (zeb ns m = true) /\ Hid (wr = W1)) (fun i _ => nn - (intOf i).toNat)
   case atStart => exact ⟨0, Nat.zero_le _, rfl, by unfold Hid zeb; simp, hid rfl⟩
   case round =>
    obtain ⟨m, hm, rfl, hF, hw⟩ := hrel
    have hw := hw.out
    subst hw
    by_cases hlt : m < nn
    ·obtain ⟨b, o, rfl, hl, hc⟩ := G1.out.nodes.some (by omega)
     obtain ⟨k1, k2, k3, ak, nk, ck, k4, k5⟩ := hc m hlt
     have hnl : m < ns.length := by rw [G1.out.nodes.len]; exact hlt
     obtain ⟨d, hd⟩ : ∃ d, d = ns.getD m default := ⟨_, rfl⟩
     have hok := G1.out.nodes.get hlt
     rw [<- hd] at k3 k5 hok
     have hts := hok.2.2
     have hkl := k5.len
     have hkf := k5.fits
     have hkm := k5.most
     unfold maxLen at hts hkm
     have hstep : Hid (zeb ns (m + 1) = (decide (d.text.size <= 2000) && decide (nk <= 100))) := by
      unfold Hid; rw [zor hnl, hF.out, <- hd, hkl]; simp
     clear k1 k2 hc k5 hok hd
     generalize d.text = t at *
     by_cases ht : t.size <= 2000
     ·by_cases hk : nk <= 100
      ·go_wp2
       exact ⟨⟨m + 1, by omega, by omega, by unfold Hid; rw [hstep.out]; simp [ht, hk]⟩, by simp [intOf] <;> omega⟩
      ·go_wp2
       go_ret
       refine ⟨?_, HB.out⟩
       have h3 := zec (j := ns.length) (k := m) hnl (Nat.le_refl _) (by rw [hstep.out]; simp [hk])
       unfold fewB; rw [h3]; simp
     ·go_wp2
      go_ret
      refine ⟨?_, HB.out⟩
      have h3 := zec (j := ns.length) (k := m) hnl (Nat.le_refl _) (by rw [hstep.out]; simp [ht])
      unfold fewB; rw [h3]; simp
    ·obtain rfl : m = nn := by omega
     go_wp2
     go_ret
     refine ⟨?_, HB.out⟩
     unfold fewB
     rw [G1.out.nodes.len, G1.out.roots.len, hF.out]; simp [h1, h2]
  ·go_wp2
   go_ret
   refine ⟨?_, Ba _ _⟩
   unfold fewB
   rw [HG.out.roots.len]; simp [h2]
 ·go_wp2
  go_ret
  refine ⟨?_, Ba _ _⟩
  unfold fewB
  rw [HG.out.nodes.len]; simp [h1]
theorem zkm {ns : List Nd} {rs : List Int} {most : Nat} (h : fewB ns rs most = true) : ns.length <= most /\ rs.length <= most /\ ke ns /\ ∀ d ∈ ns, d.kids.length <= 100 := by
 unfold fewB zeb at h
 rw [List.take_length] at h
 simp only [Bool.and_eq_true, decide_eq_true_eq, List.all_eq_true] at h
 exact ⟨h.1.1, h.1.2, fun d hd => (h.2 d hd).1, fun d hd => (h.2 d hd).2⟩
theorem zze {w : World} {an ar : Option Addr} {nn cn nr cr : Nat} {ns : List Nd} {rs : List Int} (h : GIs w an nn cn ar nr cr ns rs) (hf : fewB ns rs 100 = true) : GOk w an nn cn ar nr cr ns rs := by
 obtain ⟨f1, f2, f3, f4⟩ := zkm hf
 rw [h.nodes.len] at f1
 rw [h.roots.len] at f2
 exact ⟨h, f3, f4, by omega, by omega⟩
def jy (w : World) : List Obj -> World
 | [] => w
 | o :: os => jy (w.alloc o) os
theorem ky : ∀ (os : List Obj) (w : World), Below w.heap.size w (jy w os)
 | [], w => Below.refl _ _
 | o :: os, w => Bt (Ba w o) (ky os (w.alloc o))
theorem qf : ∀ {os : List Obj} {w : World} {i : Nat} {o : Obj}, os[i]? = some o -> (jy w os).heap[w.heap.size + i]? = some o
 | [], _, _, _, h => by simp at h
 | o' :: os, w, 0, o, h => by
  have e : o' = o := by simpa using h
  subst e
  exact ((ky os (w.alloc o')).block _ (by rw [zb]; omega)).trans (heap_alloc_new _ _)
 | o' :: os, w, i + 1, o, h => by
  have := qf (w := w.alloc o') (os := os) (i := i) (o := o) (by simpa using h)
  rw [zb] at this
  rw [show w.heap.size + (i + 1) = w.heap.size + 1 + i by omega]; exact this
section
variable {P : Program} {w : World} {ops : Array Oper} {o : Oper} {a : Act} {K : Act -> World -> Prop} {Q : Exit -> Act -> World -> Prop} {E : Prop}
theorem zhz (dst : Option Nat) (hdst : o.dst = dst) (hgd : o.guard = none) (s x : Operand) (t : TypeId) (ho : o.op = .call { callee := .builtin .append, args := #[s, x], argTypes := #[t, t] })
  (base : Nat) (e : TypeId) (ht : P.underlying t = some (.slice e)) (hi : (P.info? e).map (fun i => (i.zero, i.size, i.bytes)) = some (some (.int .i64 0), 1, 8))
  (v : Value) (n : Nat) (l : List Int) (hs : a.eval s = v) (hown : w.ownsRow base e 1 v n (cz l))
  (ao : Option Addr) (m c : Nat) (r : List Int) (hx : a.eval x = .slice ao m c) (hr : IRow w ao m c r) (hsm : n + m <= 1000000) (hbase : base <= w.heap.size)
  (h : ∀ v' w', w'.ownsRow base e 1 v' (n + m) (cz (l ++ r)) -> w.grownBy w' v.ownBlock -> K (a.put dst v') w') :
  if Region.wanted o (yielded ops a.tmps) = true then Oper.wp P o a w K Q else E := by
 subst hdst
 have hw : Region.wanted o (yielded ops a.tmps) = true := by simp [Region.wanted, hgd]
 rw [if_pos hw]
 obtain ⟨i0, hi0, hz0, hz1, hz2⟩ := info_parts hi
 cases ao with
 | none =>
  have hc := hr.nil_ rfl
  subst hc
  have hm : m = 0 := by have := hr.fits; omega
  subst hm
  have hl2 : r = [] := List.length_eq_zero_iff.1 hr.len
  subst hl2
  have hrun := run_append_owned_none (P := P) (w := w) base t o.type e i0 1 ht hi0 v n (cz l) hown
  unfold Oper.wp
  simp [execOp, ho, resolve, invoke, builtin, hs, hx, hrun, Result.andThen]
  exact h v w (by simpa using hown) ⟨rfl, rfl, rfl, Nat.le_refl _, fun _ _ _ => rfl⟩
 | some ad =>
  refine wp_append_own w s x t ho base e i0 (.int .i64 0) 1 8 ht hi0 hz0 hz1 hz2 rfl (by decide) v n (cz l) hs hown ad m c (cz r) hx (by rw [qp, hr.len]; omega) ?_ ?_ (by unfold maxLen; omega) (by omega) hbase ?_
  ·intro j u hj
   have hjl : j < r.length := by
    have := (List.getElem?_eq_some_iff.1 hj).1
    rwa [qp] at this
   rw [zsp hjl] at hj
   cases hj
   obtain ⟨b, o', hao, _, hc⟩ := hr.some (by have := hr.len; omega)
   cases hao
   have := hc j (by have := hr.len; omega)
   unfold Addr.add
   by_cases hj0 : j = 0
   ·subst hj0; simpa using this
   ·rw [if_neg hj0]; exact this
  ·intro u hu
   unfold cz at hu
   obtain ⟨z, _, rfl⟩ := List.mem_map.1 hu
   rfl
  ·intro v' w' h1 h2 _
   rw [<- zet] at h1
   exact h v' w' h1 h2
end
structure zxc (w : World) (oa : Option Addr) (on oc : Nat) (os : List Nd) (ta : Option Addr) (tc : Nat) (pt : List Int) (sa : Option Addr) (sn sc : Nat) (ns : List Nd) (ord : List Int) (an : Option Addr) (nn cn : Nat) : Prop where
 out : NRow w oa on oc os
 olen : on = ord.length
 osame : ∀ j, j < ord.length -> yx (os.getD j default) (ns.getD (ord.getD j 0).toNat default)
 pt_ : IRow w ta nn tc pt
 atoms : IRow w sa sn sc (yh ns ord 0)
 nodes : NRow w an nn cn ns
 small : nn <= 2500 /\ on <= 2500
set_option maxHeartbeats 4000000 in
theorem zcj (oa : Option Addr) (on oc : Nat) (xa : Option Addr) (xn xc : Nat) (os : List Nd) (ta : Option Addr) (tc : Nat) (pt : List Int) (sa : Option Addr) (sn sc : Nat) (ns : List Nd) (ord : List Int) (an : Option Addr) (nn cn : Nat) (ar : Option Addr) (nr cr : Nat) (n : Nat) (hn : n < nn) (w : World) (M : zxc w oa on oc os ta tc pt sa sn sc ns ord an nn cn) :
  Calls Tryz.prog 65 #[.agg #[.slice oa on oc, .slice xa xn xc], .slice ta nn tc, .slice sa sn sc, .agg #[.slice an nn cn, .slice ar nr cr], .int .i64 (n : Int)] w fun e w' => e = .returned (.int .i64 (qs ns pt ord n)) /\ Below w.heap.size w w' := by
 have HM := hid M
 have hm1 := M.small
 have ht1 := M.pt_.fits
 have ht2 := M.pt_.most
 have hs1 := M.atoms.fits
 have hs2 := M.atoms.most
 have hn1 := M.nodes.fits
 have hn2 := M.nodes.most
 have ho1 := M.out.fits
 have ho2 := M.out.most
 have HSL := hid M.atoms.len
 have HOL := hid M.olen
 unfold maxLen at ht2 hs2 hn2 ho2
 obtain ⟨hm1, hm2⟩ := hm1
 obtain ⟨bt, ot, rfl, hlt, hct⟩ := M.pt_.some (by omega)
 obtain ⟨bn, on', rfl, hln, hcn⟩ := M.nodes.some (by omega)
 have c1 := hct n hn
 obtain ⟨j1, j2, j3, ak, nk, ck, j4, j5⟩ := hcn n hn
 obtain ⟨p, hp⟩ : ∃ p, p = pt.getD n 0 := ⟨_, rfl⟩
 obtain ⟨d, hd⟩ : ∃ d, d = ns.getD n default := ⟨_, rfl⟩
 rw [<- hp] at c1
 rw [<- hd] at j1 j2 j3 j5
 obtain ⟨dk, dn, dt, dl⟩ := d
 simp only [] at j1 j2 j3 j5
 have HP := hid hp
 have HD := hid hd
 have bA := Baa w (.cells #[.slice oa on oc, .slice xa xn xc] 41) (.cells #[.slice (some ⟨bn, on', none⟩) nn cn, .slice ar nr cr] 41)
 have c1' := (bA.cell (p := ⟨bt, ot + n, none⟩) hlt).trans c1
 have j1' := (bA.cell (p := ⟨bn, on' + n * 4, none⟩) hln).trans j1
 have j2' := (bA.cell (p := ⟨bn, on' + n * 4 + 1, none⟩) hln).trans j2
 have j3' := (bA.cell (p := ⟨bn, on' + n * 4 + 2, none⟩) hln).trans j3
 have j4' := (bA.cell (p := ⟨bn, on' + n * 4 + 3, none⟩) hln).trans j4
 have HBA := hid bA
 clear M hct hcn c1 j1 j2 j3 j4 j5 hp hd bA
 by_cases hp0 : 0 <= p
 ·have e0 : decide (0 <= p) = true := by simp [hp0]
  go_enter Tryz.func65, Tryz.ntmps65
  go_wp2
  go_ret
  exact ⟨by rw [zcx (.inl (by rw [<- HP.out]; exact hp0)), <- HP.out]; rfl, HBA.out⟩
 ·have e0 : decide (0 <= p) = false := by simp [hp0]
  go_enter Tryz.func65, Tryz.ntmps65
  go_wp2_with fail
  refine (zju dk _).mono ?_
  rintro e w7 ⟨rfl, hw7⟩
  subst hw7
  cases ha : yw dk
  ·go_wp2
   go_ret
   exact ⟨by rw [zcx (.inr (by rw [<- HD.out]; exact ha)), <- HP.out]; rfl, HBA.out⟩
  ·have HNS : Hid (¬ (0 <= pt.getD n 0 \/ yw (ns.getD n default).kind = false)) := by unfold Hid; rw [<- HP.out, <- HD.out]; simp [hp0, ha]
   go_wp2_with fail
   have bB : Below w.heap.size w (jy w [(.cells #[.slice oa on oc, .slice xa xn xc] 41), (.cells #[.slice (some ⟨bn, on', none⟩) nn cn, .slice ar nr cr] 41), (.cells #[.int .i64 dk, .int .i64 dn, .string dt, .slice ak nk ck] 68)]) := ky _ _
   have x0 : (jy w [(.cells #[.slice oa on oc, .slice xa xn xc] 41), (.cells #[.slice (some ⟨bn, on', none⟩) nn cn, .slice ar nr cr] 41), (.cells #[.int .i64 dk, .int .i64 dn, .string dt, .slice ak nk ck] 68)]).heap[w.heap.size]? = some (.cells #[.slice oa on oc, .slice xa xn xc] 41 (0, 0)) := qf (i := 0) rfl
   have x2 : (jy w [(.cells #[.slice oa on oc, .slice xa xn xc] 41), (.cells #[.slice (some ⟨bn, on', none⟩) nn cn, .slice ar nr cr] 41), (.cells #[.int .i64 dk, .int .i64 dn, .string dt, .slice ak nk ck] 68)]).heap[w.heap.size + 1 + 1]? = some (.cells #[.int .i64 dk, .int .i64 dn, .string dt, .slice ak nk ck] 68 (0, 0)) := qf (i := 2) rfl
   have hWW : jy w [(.cells #[.slice oa on oc, .slice xa xn xc] 41), (.cells #[.slice (some ⟨bn, on', none⟩) nn cn, .slice ar nr cr] 41), (.cells #[.int .i64 dk, .int .i64 dn, .string dt, .slice ak nk ck] 68)] = ((w.alloc (.cells #[.slice oa on oc, .slice xa xn xc] 41)).alloc (.cells #[.slice (some ⟨bn, on', none⟩) nn cn, .slice ar nr cr] 41)).alloc (.cells #[.int .i64 dk, .int .i64 dn, .string dt, .slice ak nk ck] 68) := rfl
   rw [<- hWW]
   clear hWW
   generalize jy w [(.cells #[.slice oa on oc, .slice xa xn xc] 41), (.cells #[.slice (some ⟨bn, on', none⟩) nn cn, .slice ar nr cr] 41), (.cells #[.int .i64 dk, .int .i64 dn, .string dt, .slice ak nk ck] 68)] = W2 at *
   obtain ⟨gx, hgx⟩ : ∃ g, g = w.heap.size + 1 + 1 := ⟨_, rfl⟩
   obtain ⟨g1, hg1⟩ : ∃ g, g = w.heap.size + 1 := ⟨_, rfl⟩
   obtain ⟨g0, hg0⟩ : ∃ g, g = w.heap.size := ⟨_, rfl⟩
   rw [<- hgx] at x2
   rw [<- hg0] at x0
   rw [<- hgx, <- hg1, <- hg0]
   have HB := hid bB
   have X0 := hid x0
   have X2 := hid x2
   clear hgx hg1 hg0 bB x0 x2 c1' j1' j2' j3' j4' HBA
   go_loopw [12] (fun i wr => ∃ m : Nat, m <= sn /\ i = .int .i64 m /\ Hid (((yh ns ord 0).take m).find? (zcf ns ord ⟨dk, dn, dt, dl⟩) = none /\ Below W2.heap.size W2 wr)) (fun i _ => sn - (intOf i).toNat)
   case atStart => exact ⟨0, Nat.zero_le _, rfl, rfl, Below.refl _ _⟩
   case round =>
    obtain ⟨m, hmn, rfl, hI⟩ := hrel
    obtain ⟨hf, hb⟩ := hI.out
    have HF := hid hf
    have HBR := hid hb
    clear hf hI
    by_cases hlm : m < sn
    ·obtain ⟨bs, os', rfl, hls, hcs⟩ := HM.out.atoms.some (by omega)
     have hml : m < (yh ns ord 0).length := by have := HSL.out; omega
     obtain ⟨z, hz⟩ : ∃ z, z = (yh ns ord 0).getD m 0 := ⟨_, rfl⟩
     have hzr := zcw ns ord 0 z (by rw [hz, List.getD_eq_getElem?_getD, List.getElem?_eq_getElem hml]; exact List.getElem_mem hml)
     obtain ⟨kn, rfl⟩ := Int.eq_ofNat_of_zero_le (by omega : 0 <= z)
     have hkn : kn < on := by have := HOL.out; omega
     have HZ := hid hz
     obtain ⟨bo, oo, rfl, hlo, hco⟩ := HM.out.out.some (by omega)
     have bW : Below w.heap.size w wr := Bt HB.out hb
     have cz0 : wr.cell? ⟨bs, os' + m, none⟩ = some (.int .i64 (kn : Int)) := by rw [hz]; exact (bW.cell (p := ⟨bs, os' + m, none⟩) hls).trans (hcs m hlm)
     have hnd := (hco kn hkn).below hlo bW
     have hos := HM.out.osame kn (by have := HOL.out; omega)
     obtain ⟨e, he⟩ : ∃ e, e = os.getD kn default := ⟨_, rfl⟩
     rw [<- he] at hnd hos
     obtain ⟨i1, i2, i3, ae, ne, ce, i4, _⟩ := hnd
     obtain ⟨ek, en, et, el⟩ := e
     simp only [] at i1 i2 i3
     have hP : Hid (zcf ns ord ⟨dk, dn, dt, dl⟩ ((yh ns ord 0).getD m 0) = decide (ek = dk /\ en = dn /\ et = dt)) := by
      unfold Hid zcf
      rw [<- hz, Int.toNat_natCast]
      exact zdf hos.symm (yx.rfl' _)
     obtain ⟨y0, y1⟩ := (GBox.on (t := 41) (p := g0) X0.out hb).c
     have X2r := (hb.block gx (Array.getElem?_eq_some_iff.1 X2.out).1).trans X2.out
     have y2 : wr.cell? ⟨gx, 0, none⟩ = some (.int .i64 dk) := za X2r 0
     have y3 : wr.cell? ⟨gx, 1, none⟩ = some (.int .i64 dn) := za X2r 1
     have y4 : wr.cell? ⟨gx, 2, none⟩ = some (.string dt) := za X2r 2
     clear hz hcs hco he hos hb bW X2r hzr
     by_cases hne : ek = dk
     ·subst hne
      by_cases hne : en = dn
      ·subst hne
       by_cases hne : et = dt
       ·subst hne
        have e1 : (ek == ek) = true := by simp
        have e2 : (en == en) = true := by simp
        have e3 : (et.toList == et.toList) = true := by simp
        go_wp2_with fail
        go_quiet (fail)
        have HBQ := hid (Bt HBR.out (Bd wr nq))
        go_wp2
        go_ret
        refine ⟨?_, Bt HB.out HBQ.out⟩
        have h1 := (zcg hml HF.out).1 (by rw [hP.out]; simp)
        rw [<- HZ.out] at h1
        rw [zpt HNS.out (by rw [<- HD.out]; exact h1)]; rfl
       ·have e1 : (ek == ek) = true := by simp
        have e2 : (en == en) = true := by simp
        have e3 : (et.toList == dt.toList) = false := by rw [zgc]; simp [hne]
        go_wp2_with fail
        go_quiet (fail)
        have HBQ := hid (Bt HBR.out (Bd wr nq))
        go_wp2
        refine ⟨⟨m + 1, by omega, by go_num, (zcg hml HF.out).2 (by rw [hP.out]; simp [hne]), HBQ.out⟩, by simp [intOf] <;> omega⟩
      ·have e1 : (ek == ek) = true := by simp
       have e2 : (en == dn) = false := by simp [hne]
       go_wp2_with fail
       go_quiet (fail)
       have HBQ := hid (Bt HBR.out (Bd wr nq))
       go_wp2
       refine ⟨⟨m + 1, by omega, by go_num, (zcg hml HF.out).2 (by rw [hP.out]; simp [hne]), HBQ.out⟩, by simp [intOf] <;> omega⟩
     ·have e1 : (ek == dk) = false := by simp [hne]
      go_wp2_with fail
      go_quiet (fail)
      have HBQ := hid (Bt HBR.out (Bd wr nq))
      go_wp2
      refine ⟨⟨m + 1, by omega, by go_num, (zcg hml HF.out).2 (by rw [hP.out]; simp [hne]), HBQ.out⟩, by simp [intOf] <;> omega⟩
    ·obtain rfl : sn = m := by omega
     go_wp2
     go_ret
     refine ⟨?_, Bt HB.out HBR.out⟩
     have h1 := HF.out
     rw [List.take_of_length_le (by have := HSL.out; omega)] at h1
     rw [zpu HNS.out (by rw [<- HD.out]; exact h1)]; rfl
theorem zcy {w w' : World} {base : Nat} {e : TypeId} {k : Nat} {v : Value} {n : Nat} {xs : List Value} (h : w.ownsRow base e k v n xs) (hb : Below w.heap.size w w') : w'.ownsRow base e k v n xs := by
 refine ⟨h.1, ?_⟩
 rcases h.2 with h0 | ⟨g, cap, cur, h1, h2, h3, h4⟩
 ·exact .inl h0
 ·exact .inr ⟨g, cap, cur, h1, h2, (hb.block g (Array.getElem?_eq_some_iff.1 h3).1).trans h3, h4⟩
def Mjn (s : Nat × Bool) : Nat := (2 - s.1) + (if s.2 then 0 else 1)
structure JInv (w W1 : World) (go : Nat) (tG : TypeId) (vN : Value) (ls : List (Nd × (Option Addr × Nat × Nat))) (wr : World) : Prop where
 out : wr.heap[go]? = some (.cells #[vN, .slice none 0 0] tG (0, 0))
 keep : ∀ b, b < W1.heap.size -> b ≠ go -> wr.heap[b]? = W1.heap[b]?
 own : NOwn W1.heap.size wr vN ls
 bel : Below w.heap.size w wr
 size : W1.heap.size <= wr.heap.size
theorem zdf1 {P : Program} {w : World} {ops : Array Oper} {rest : List Oper} {o : Oper} {a : Act} {Q : Exit -> Act -> World -> Prop} (hgd : o.guard = none) (s x : Operand) (t : TypeId) (ho : o.op = .call { callee := .builtin .append, args := #[s, x], argTypes := #[t, t] })
  (base : Nat) (e : TypeId) (ht : P.underlying t = some (.slice e)) (hi : (P.info? e).map (fun i => (i.zero, i.size, i.bytes)) = some (some (.int .i64 0), 1, 8))
  (v : Value) (n : Nat) (l : List Int) (hs : a.eval s = v) (hown : w.ownsRow base e 1 v n (cz l))
  (ao : Option Addr) (m c : Nat) (r : List Int) (hx : a.eval x = .slice ao m c) (hr : IRow w ao m c r) (hsm : n + m <= 1000000) (hbase : base <= w.heap.size)
  (h : ∀ v' w', w'.ownsRow base e 1 v' (n + m) (cz (l ++ r)) -> w.grownBy w' v.ownBlock -> wpList P ops Q rest (a.put o.dst v') w') : wpList P ops Q (o :: rest) a w :=
 wpList_plain hgd fun K hK => by
  have := zhz (P := P) (w := w) (ops := ops) (o := o) (a := a) (K := K) (Q := Q) (E := False) o.dst rfl hgd s x t ho base e ht hi v n l hs hown ao m c r hx hr hsm hbase (fun v' w' h1 h2 => hK _ _ (h v' w' h1 h2))
  have hw : Region.wanted o (yielded ops a.tmps) = true := by simp [Region.wanted, hgd]
  rw [if_pos hw] at this
  exact this
structure zem1 (w W1 wr w5 : World) (go gx : Nat) (av : Option Addr) (cv : Nat) (ls : List (Nd × (Option Addr × Nat × Nat))) (dk dn : Int) (dt : ByteArray) (ak ak' : Option Addr) (nk ck ck' : Nat) (dl : List Int) (V : World) : Prop where
 f3 : w5.frozen? ⟨gx, 3, none⟩ = false
 cc3 : w5.cell? ⟨gx, 3, none⟩ = some (.slice ak nk ck)
 n0 : (w5.setCell ⟨gx, 3, none⟩ (.slice ak' nk ck')).cell? ⟨gx, 0, none⟩ = some (.int .i64 dk)
 n1 : (w5.setCell ⟨gx, 3, none⟩ (.slice ak' nk ck')).cell? ⟨gx, 1, none⟩ = some (.int .i64 dn)
 n2 : (w5.setCell ⟨gx, 3, none⟩ (.slice ak' nk ck')).cell? ⟨gx, 2, none⟩ = some (.string dt)
 n3 : (w5.setCell ⟨gx, 3, none⟩ (.slice ak' nk ck')).cell? ⟨gx, 3, none⟩ = some (.slice ak' nk ck')
 g0 : (w5.setCell ⟨gx, 3, none⟩ (.slice ak' nk ck')).cell? ⟨go, 0, none⟩ = some (.slice av ls.length cv)
 na : V.heap[w5.heap.size]? = some (.cells #[.int .i64 dk, .int .i64 dn, .string dt, .slice ak' nk ck'] 68 (0, 0))
 no : NOwn W1.heap.size V (.slice av ls.length cv) ls
 ia : IRow V ak' nk ck' dl
 ka : ∀ ad, ak' = some ad -> wr.heap.size <= ad.block /\ ad.block < V.heap.size
 ga : V.heap[go]? = some (.cells #[.slice av ls.length cv, .slice none 0 0] 41 (0, 0))
 ba : Below wr.heap.size wr V
theorem zpw {w W1 wr W3 w5 : World} {go gx : Nat} {av : Option Addr} {cv : Nat} {ls : List (Nd × (Option Addr × Nat × Nat))} {dk dn : Int} {dt : ByteArray} {ak ak' : Option Addr} {nk ck ck' : Nat} {dl : List Int}
  (HJ : JInv w W1 go 41 (.slice av ls.length cv) ls wr) (hgx : wr.heap.size = gx) (HXE : Below wr.heap.size wr W3) (hs3 : gx + 1 < W3.heap.size) (HXB : W3.heap[gx]? = some (.cells #[.int .i64 dk, .int .i64 dn, .string dt, .slice ak nk ck] 68 (0, 0)))
  (hgrow : W3.grownBy w5 (some (gx + 1))) (hown : w5.ownsRow (gx + 1) 3 1 (.slice ak' nk ck') nk (cz dl)) (hbd : ∀ z ∈ dl, I64 z) :
  zem1 w W1 wr w5 go gx av cv ls dk dn dt ak ak' nk ck ck' dl ((w5.setCell ⟨gx, 3, none⟩ (.slice ak' nk ck')).alloc (.cells #[.int .i64 dk, .int .i64 dn, .string dt, .slice ak' nk ck'] 68)) := by
 have hx5 := (hgrow.block gx (by omega) (fun e => by have := Option.some.inj e; omega)).trans HXB
 have hb5 : Below wr.heap.size wr w5 := HXE.trans ((Below.refl _ _).grown hgrow (Nat.le_trans (by omega) HXE.size) (fun k hk => by have := Option.some.inj hk; omega))
 have hblk4 : (w5.setCell ⟨gx, 3, none⟩ (.slice ak' nk ck')).heap[gx]? = some (.cells #[.int .i64 dk, .int .i64 dn, .string dt, .slice ak' nk ck'] 68 (0, 0)) := by
  have := zy (i := 3) hx5 (.slice ak' nk ck'); rw [this]; rfl
 have B4 : Below wr.heap.size wr (w5.setCell ⟨gx, 3, none⟩ (.slice ak' nk ck')) := hb5.setCell (p := ⟨gx, 3, none⟩) (by show wr.heap.size <= gx; omega) _
 have hown4 : (w5.setCell ⟨gx, 3, none⟩ (.slice ak' nk ck')).ownsRow (gx + 1) 3 1 (.slice ak' nk ck') nk (cz dl) := ki hown (fun b hb' => Below.heap_setCell _ _ _ _ (by have := (hown.lt b hb').1; show b ≠ gx; omega))
 obtain ⟨_, _, hve, hIR4⟩ := qr hown4 hbd
 cases hve
 have hgtw : go < wr.heap.size := (Array.getElem?_eq_some_iff.1 HJ.out).1
 have hgo4 := (B4.block go hgtw).trans HJ.out
 have hs4 : (w5.setCell ⟨gx, 3, none⟩ (.slice ak' nk ck')).heap.size = w5.heap.size := by simp [World.setCell]
 have bA := Ba (w5.setCell ⟨gx, 3, none⟩ (.slice ak' nk ck')) (.cells #[.int .i64 dk, .int .i64 dn, .string dt, .slice ak' nk ck'] 68)
 have hnA := zd (w5.setCell ⟨gx, 3, none⟩ (.slice ak' nk ck')) #[.int .i64 dk, .int .i64 dn, .string dt, .slice ak' nk ck'] 68
 rw [hs4] at hnA
 refine ⟨zf hx5 3, za hx5 3, za hblk4 0, za hblk4 1, za hblk4 2, za hblk4 3, za hgo4 0, hnA, (HJ.own.below B4).below bA, hIR4.below bA, fun ad had => ?_, (bA.block go (Nat.lt_of_lt_of_le hgtw B4.size)).trans hgo4, Bt B4 bA⟩
 have := hown4.lt ad.block (by rw [had]; rfl)
 exact ⟨by omega, Nat.lt_of_lt_of_le this.2 bA.size⟩
set_option maxHeartbeats 8000000 in
theorem ztl (an ar : Option Addr) (nn cn nr cr : Nat) (ns : List Nd) (rs : List Int) (w : World) (G : GIs w an nn cn ar nr cr ns rs) (hk : ∀ d ∈ ns, d.kids.length <= 2500) (hn : nn <= 2500) (hnr : nr <= 2500) :
  Calls Tryz.prog 15 #[GVal an nn cn ar nr cr] w fun e w' => ∃ a1 n1 c1 a2 n2 c2, e = .returned (GVal a1 n1 c1 a2 n2 c2) /\ GIs w' a1 n1 c1 a2 n2 c2 ns rs /\ Below w.heap.size w w' := by
 have HG := hid G
 have HK := hid hk
 have hn1 := G.nodes.fits
 have hn2 := G.nodes.most
 have hr1 := G.roots.fits
 have hr2 := G.roots.most
 have hlen := G.nodes.len
 have hrl := G.roots.len
 unfold maxLen at hn2 hr2
 unfold GVal
 clear G hk
 go_enter Tryz.func15, Tryz.ntmps15
 go_wp2_with fail
 have bA : Below w.heap.size w (jy w [(.cells #[.slice an nn cn, .slice ar nr cr] 41), (.cells #[.slice none 0 0, .slice none 0 0] 41), (.cells #[.slice none 0 0, .slice none 0 0] 41)]) := ky _ _
 have x0 : (jy w [(.cells #[.slice an nn cn, .slice ar nr cr] 41), (.cells #[.slice none 0 0, .slice none 0 0] 41), (.cells #[.slice none 0 0, .slice none 0 0] 41)]).heap[w.heap.size]? = some (.cells #[.slice an nn cn, .slice ar nr cr] 41 (0, 0)) := qf (i := 0) rfl
 have x2 : (jy w [(.cells #[.slice an nn cn, .slice ar nr cr] 41), (.cells #[.slice none 0 0, .slice none 0 0] 41), (.cells #[.slice none 0 0, .slice none 0 0] 41)]).heap[w.heap.size + 1]? = some (.cells #[.slice none 0 0, .slice none 0 0] 41 (0, 0)) := qf (i := 1) rfl
 have x3 : (jy w [(.cells #[.slice an nn cn, .slice ar nr cr] 41), (.cells #[.slice none 0 0, .slice none 0 0] 41), (.cells #[.slice none 0 0, .slice none 0 0] 41)]).heap[w.heap.size + 1 + 1]? = some (.cells #[.slice none 0 0, .slice none 0 0] 41 (0, 0)) := qf (i := 2) rfl
 have hsz : (jy w [(.cells #[.slice an nn cn, .slice ar nr cr] 41), (.cells #[.slice none 0 0, .slice none 0 0] 41), (.cells #[.slice none 0 0, .slice none 0 0] 41)]).heap.size = w.heap.size + 1 + 1 + 1 := by simp [jy]
 have hWW : jy w [(.cells #[.slice an nn cn, .slice ar nr cr] 41), (.cells #[.slice none 0 0, .slice none 0 0] 41), (.cells #[.slice none 0 0, .slice none 0 0] 41)] = ((w.alloc (.cells #[.slice an nn cn, .slice ar nr cr] 41)).alloc (.cells #[.slice none 0 0, .slice none 0 0] 41)).alloc (.cells #[.slice none 0 0, .slice none 0 0] 41) := rfl
 rw [<- hWW]
 clear hWW
 generalize jy w [(.cells #[.slice an nn cn, .slice ar nr cr] 41), (.cells #[.slice none 0 0, .slice none 0 0] 41), (.cells #[.slice none 0 0, .slice none 0 0] 41)] = W1 at *
 obtain ⟨go, hgo⟩ : ∃ g, g = w.heap.size + 1 + 1 := ⟨_, rfl⟩
 obtain ⟨gr, hgr⟩ : ∃ g, g = w.heap.size + 1 := ⟨_, rfl⟩
 obtain ⟨ga, hga⟩ : ∃ g, g = w.heap.size := ⟨_, rfl⟩
 rw [<- hgo] at x3
 rw [<- hgr] at x2
 rw [<- hga] at x0
 rw [<- hgo, <- hgr, <- hga]
 have hne : Hid (ga ≠ go /\ gr ≠ go /\ ga < W1.heap.size /\ gr < W1.heap.size /\ go < W1.heap.size /\ w.heap.size <= gr /\ w.heap.size <= go) := by refine ⟨?_, ?_, ?_, ?_, ?_, ?_, ?_⟩ <;> omega
 have HB1 := hid bA
 have X0 := hid x0
 have X2 := hid x2
 have X3 := hid x3
 have hgtl : go < W1.heap.size := hne.out.2.2.2.2.1
 clear bA x0 x2 x3 hsz hgo hgr hga
 go_loopw [4] (fun i wr => ∃ m : Nat, m <= nn /\ i = .int .i64 m /\ Hid (∃ vN ls, JInv w W1 go 41 vN ls wr /\ ls.map Prod.fst = ns.take m)) (fun i _ => nn - (intOf i).toNat)
 case atStart => exact ⟨0, Nat.zero_le _, rfl, .slice none 0 0, [], ⟨X3.out, fun _ _ _ => rfl, NOwn.nil _ _, HB1.out, Nat.le_refl _⟩, rfl⟩
 case round =>
  obtain ⟨m, hmn, rfl, hI⟩ := hrel
  obtain ⟨vN, ls, hJ, hls⟩ := hI.out
  obtain ⟨av, cv, rfl, hNR⟩ := hJ.own.row
  have HJ := hid hJ
  have HLS := hid hls
  have HLM : Hid (ls.length = m) := by
   have := congrArg List.length hls; simp at this; unfold Hid; omega
  have cb0 : wr.cell? ⟨ga, 0, none⟩ = some (.slice an nn cn) := za ((hJ.keep ga hne.out.2.2.1 hne.out.1).trans X0.out) 0
  clear hJ hls hNR hI
  by_cases hlt : m < nn
  ·obtain ⟨b, o, rfl, hlb, hcc⟩ := HG.out.nodes.some (by omega)
   have hml : m < ns.length := by omega
   have hnd := (hcc m hlt).below hlb HJ.out.bel
   have hdok := HG.out.nodes.get hlt
   have htk : Hid (ns.take (m + 1) = ns.take m ++ [ns.getD m default]) := by unfold Hid; rw [List.take_succ_eq_append_getElem hml, List.getD_eq_getElem?_getD, List.getElem?_eq_getElem hml]; rfl
   have hkl := HK.out _ (yd hml)
   generalize ns.getD m default = d at *
   obtain ⟨j1, j2, j3, ak, nk, ck, j4, j5⟩ := hnd
   obtain ⟨dk, dn, dt, dl⟩ := d
   simp only [] at j1 j2 j3 j5 hdok hkl
   have HDOK := hid hdok
   have hnk := j5.fits
   have hnk2 := j5.most
   have hnk3 := j5.len
   have hnk4 : nk <= 2500 := by omega
   unfold maxLen at hnk2
   have HKB := hid j5.bd
   have bX := Ba wr (.cells #[.int .i64 dk, .int .i64 dn, .string dt, .slice ak nk ck] 68)
   have bE := Ba (wr.alloc (.cells #[.int .i64 dk, .int .i64 dn, .string dt, .slice ak nk ck] 68)) (.cells #[] 3)
   have hxb := zd wr #[.int .i64 dk, .int .i64 dn, .string dt, .slice ak nk ck] 68
   have hxb2 := (bE.block wr.heap.size (by rw [zb]; omega)).trans hxb
   have hx3 : ((wr.alloc (.cells #[.int .i64 dk, .int .i64 dn, .string dt, .slice ak nk ck] 68)).alloc (.cells #[] 3)).cell? ⟨wr.heap.size, 3, none⟩ = some (.slice ak nk ck) := za hxb2 3
   have J5 := hid ((j5.below bX).below bE)
   have HOE : Hid (((wr.alloc (.cells #[.int .i64 dk, .int .i64 dn, .string dt, .slice ak nk ck] 68)).alloc (.cells #[] 3)).ownsRow (wr.heap.size + 1) 3 1 (.slice (some ⟨wr.heap.size + 1, 0, none⟩) 0 0) 0 (cz [])) := by
    have h1 : ((wr.alloc (.cells #[.int .i64 dk, .int .i64 dn, .string dt, .slice ak nk ck] 68)).alloc (.cells #[] 3)).heap[wr.heap.size + 1]? = some (.cells #[] 3 (0, 0)) := heap_alloc2_new wr (.cells #[.int .i64 dk, .int .i64 dn, .string dt, .slice ak nk ck] 68) (.cells #[] 3)
    exact zmo h1 rfl rfl (by omega) _ (Nat.le_refl _)
   have hsz2 : ((wr.alloc (.cells #[.int .i64 dk, .int .i64 dn, .string dt, .slice ak nk ck] 68)).alloc (.cells #[] 3)).heap.size = wr.heap.size + 1 + 1 := by rw [zb, zb]
   have HXE := hid (Bt bX bE)
   have HXB := hid hxb2
   clear hcc hdok j5 bX bE hxb hxb2
   have hsmall : ls.length <= 1000000 := by have := HLM.out; omega
   have hs3 : wr.heap.size + 1 < ((wr.alloc (.cells #[.int .i64 dk, .int .i64 dn, .string dt, .slice ak nk ck] 68)).alloc (.cells #[] 3)).heap.size := by rw [hsz2]; omega
   go_wp2_with (first
    | (at_builtin; refine zdf1 rfl _ _ 39 rfl (wr.heap.size + 1) 3 Tryz.underlying39 jk _ 0 [] rfl HOE.out ak nk ck dl rfl J5.out (by omega) (by rw [hsz2]; omega) ?_; intro v w5 hown hgrow; rw [Nat.zero_add, List.nil_append] at hown; obtain ⟨ak', ck', rfl, hIR⟩ := qr hown HKB.out; have TF := hid (zpw HJ.out rfl HXE.out hs3 HXB.out hgrow hown HKB.out); obtain ⟨f3, cc3⟩ := And.intro TF.out.f3 TF.out.cc3; have n0 := TF.out.n0; have n1 := TF.out.n1; have n2 := TF.out.n2; have n3 := TF.out.n3; have g0c := TF.out.g0; clear hown hgrow hIR)
    | (at_builtin; refine appn rfl _ _ 38 rfl W1.heap.size 68 Tryz.underlying38 f6 _ _ (ncs ls) rfl TF.out.no.own w5.heap.size 1 (⟨dk, dn, dt, dl⟩, ak', nk, ck') rfl (fun j u hj => zeu TF.out.na hj) hsmall (Nat.le_trans HJ.out.size TF.out.ba.size) ?_; intro g cap w6 hown hgrow hloc hglt; obtain ⟨q1, q2⟩ := nfar TF.out.no hgrow TF.out.ga hgtl))
   have hNP := TF.out.no.pushed (d := (⟨dk, dn, dt, dl⟩, ak', nk, ck')) hgtl hown hgrow hloc HDOK.out TF.out.ia (fun ad had => ?kb)
   case kb =>
    obtain ⟨z1, z2⟩ := TF.out.ka ad had
    have s1 := HJ.out.size
    refine ⟨by omega, z2, fun e => ?_⟩
    have := HJ.out.own.own.lt _ e
    omega
   have hrowge : ∀ k, (Value.slice av ls.length cv).ownBlock = some k -> W1.heap.size <= k := fun k hk => (HJ.out.own.own.lt k hk).1
   have hB6 : Below W1.heap.size wr w6 := (TF.out.ba.mono HJ.out.size).grown hgrow (Nat.le_trans HJ.out.size TF.out.ba.size) hrowge
   have hgo6 := (hgrow.block go (Array.getElem?_eq_some_iff.1 TF.out.ga).1 (fun e => by have := hrowge go e.symm; omega)).trans TF.out.ga
   refine ⟨⟨m + 1, by omega, by go_num, .slice (some ⟨g, 0, none⟩) (ls.length + 1) cap, ls ++ [(⟨dk, dn, dt, dl⟩, ak', nk, ck')], ⟨?_, fun b hb hbg => ?_, hNP, ?_, ?_⟩, ?_⟩, by simp [intOf] <;> omega⟩
   ·have := zy (i := 0) hgo6 (.slice (some ⟨g, 0, none⟩) (ls.length + 1) cap); rw [this]; rfl
   ·exact (Below.heap_setCell _ _ _ _ hbg).trans ((hB6.block b hb).trans (HJ.out.keep b hb hbg))
   ·exact (HJ.out.bel.trans (hB6.mono HB1.out.size)).setCell (p := ⟨go, 0, none⟩) hne.out.2.2.2.2.2.2 _
   ·have := hB6.size; have := HJ.out.size; simp [World.setCell]; omega
   ·rw [htk.out, List.map_append, HLS.out]; rfl
  ·obtain rfl : nn = m := by omega
   have hls := HLS.out
   rw [List.take_of_length_le (by omega)] at hls
   have HLT := hid hls
   have ca1 : wr.cell? ⟨ga, 1, none⟩ = some (.slice ar nr cr) := za ((HJ.out.keep ga hne.out.2.2.1 hne.out.1).trans X0.out) 1
   have co1 : wr.cell? ⟨go, 1, none⟩ = some (.slice none 0 0) := za HJ.out.out 1
   have RA := hid (HG.out.roots.below HJ.out.bel)
   have HRB := hid RA.out.bd
   have hY := HJ.out.out
   have hR := (HJ.out.keep gr hne.out.2.2.2.1 hne.out.2.1).trans X2.out
   have HYY := hid hY
   have HRR := hid hR
   have hgow : Hid (go < wr.heap.size /\ gr < wr.heap.size) := ⟨(Array.getElem?_eq_some_iff.1 hY).1, (Array.getElem?_eq_some_iff.1 hR).1⟩
   clear hls HLS HLM hmn hlt hY hR
   go_wp2_with (at_builtin; refine zdf1 rfl _ _ 39 rfl wr.heap.size 3 Tryz.underlying39 jk _ 0 [] rfl (World.ownsRow_nil _ _ _ _) ar nr cr rs rfl RA.out (by omega) (Nat.le_refl _) ?_; intro v w5 hown hgrow; rw [Nat.zero_add, List.nil_append] at hown; obtain ⟨a3, c3, rfl, hI3⟩ := qr hown HRB.out; have b5 : Below wr.heap.size wr w5 := (Below.refl _ _).grown hgrow (Nat.le_refl _) (fun k hk => by cases hk); have y5 := (b5.block go hgow.out.1).trans HYY.out; have r5 := (b5.block gr hgow.out.2).trans HRR.out; have HB5 := hid b5; have HI3 := hid hI3; have HO5 := hid hown; have HY5 := hid y5; have HR5 := hid r5; have q1 := zf y5 1; have q2 := za y5 1; clear hown hgrow hI3; have y6 : (w5.setCell ⟨go, 1, none⟩ (.slice a3 nr c3)).heap[go]? = some (.cells #[.slice av ls.length cv, .slice a3 nr c3] 41 (0, 0)) := (zy (i := 1) y5 (.slice a3 nr c3)).trans rfl; have r6 := (Below.heap_setCell w5 ⟨go, 1, none⟩ (.slice a3 nr c3) gr hne.out.2.1).trans r5; have c0 := za y6 0; have c1 := za y6 1; have d0 := za r6 0; have d1 := za r6 1; have e0 := zf r6 0; have e1 := zf r6 1; have HR6 := hid r6; clear y5 r5 y6 r6 b5)
   have hst := f9 (v1 := .slice av ls.length cv) (v2 := .slice a3 nr c3) HR6.out
   have t0 := za hst 0
   have t1 := za hst 1
   (try simp only [Exit.inBlock, Exit.then]); refine bodyPost_ret (by simp [results, Tryz.results15, go_sem, t0, t1]; rfl) rfl ?_
   have N5 := HJ.out.own.below HB5.out
   have N7 : NOwn W1.heap.size (((w5.setCell ⟨go, 1, none⟩ (.slice a3 nr c3)).setCell ⟨gr, 0, none⟩ (.slice av ls.length cv)).setCell ⟨gr, 1, none⟩ (.slice a3 nr c3)) (.slice av ls.length cv) ls := N5.frame (fun b hb => (jw (by have := hne.out; omega)).trans (Below.heap_setCell _ _ _ _ (by show b ≠ go; have := hne.out; omega))) (by simp [World.setCell])
   obtain ⟨_, _, hve, hNR⟩ := N7.row
   cases hve
   rw [HLT.out] at hNR
   refine ⟨_, _, _, _, _, _, rfl, ⟨hNR, HI3.out.frame (by simp [World.setCell]) (fun ad had => (jw (by have := HO5.out.lt ad.block (by rw [had]; rfl); have := hgow.out; omega)).trans (Below.heap_setCell _ _ _ _ (by show ad.block ≠ go; have := HO5.out.lt ad.block (by rw [had]; rfl); have := hgow.out; omega)))⟩, y7 (((HJ.out.bel.trans (HB5.out.mono HJ.out.bel.size))).setCell (p := ⟨go, 1, none⟩) hne.out.2.2.2.2.2.2 _) hne.out.2.2.2.2.2.1⟩
end Go.Proofs.YtadfihnffboelaaGreatDoor
