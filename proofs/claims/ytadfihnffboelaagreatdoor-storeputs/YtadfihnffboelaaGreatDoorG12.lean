import Derived.Test.YtadfihnffboelaaGreatDoorG7
set_option linter.unusedVariables false
set_option linter.unusedSimpArgs false
namespace Go.Proofs.YtadfihnffboelaaGreatDoor
open Go.RowKit
def NVal (k n : Int) (t : ByteArray) (ak : Option Addr) (nk ck : Nat) : Value := .agg #[.int .i64 k, .int .i64 n, .string t, .slice ak nk ck]
set_option maxHeartbeats 1000000 in
theorem zwq (k n : Int) (t : ByteArray) (ak : Option Addr) (nk ck : Nat) (w : World) : Calls Tryz.prog 63 #[NVal k n t ak nk ck] w fun e w' => e = .returned (.bool (numB k n)) /\ Below w.heap.size w w' := by
 unfold NVal
 have hb := Ba w (.cells #[.int .i64 k, .int .i64 n, .string t, .slice ak nk ck] 68)
 by_cases h2 : k = 2
 ·subst h2
  rw [znn]
  by_cases hn : n = 0
  ·subst hn
   go_enter Tryz.func63, Tryz.ntmps63
   go_wp2
   go_ret
   exact ⟨rfl, hb⟩
  ·have e1 : (n == 0) = false := by simp [hn]
   go_enter Tryz.func63, Tryz.ntmps63
   go_wp2
   go_ret
   exact ⟨jg (by rw [zhn]; simp [hn]), hb⟩
 ·by_cases h4 : k = 4
  ·subst h4
   rw [zno]
   have HL := hid (zai n)
   generalize letB n = L at *
   go_enter Tryz.func63, Tryz.ntmps63
   go_wp2_with (go_at_call 102; refine (HL.out _).mono ?_; rintro e wz ⟨rfl, hwz⟩; rw [hwz])
   go_ret
   exact ⟨rfl, hb⟩
  ·by_cases h13 : k = 13
   ·subst h13
    rw [zlx]
    by_cases hn : 0 <= n
    ·go_enter Tryz.func63, Tryz.ntmps63
     go_wp2
     go_ret
     exact ⟨jg (by simp [hn]), hb⟩
    ·have e1 : decide (0 <= n) = false := by simp [hn]
     go_enter Tryz.func63, Tryz.ntmps63
     go_wp2
     go_ret
     exact ⟨jg (by simp [e1]), hb⟩
   ·rw [zyx n h2 h4 h13]
    have e1 : (k == 2) = false := by simp [h2]
    have e2 : (k == 4) = false := by simp [h4]
    have e3 : (k == 13) = false := by simp [h13]
    go_enter Tryz.func63, Tryz.ntmps63
    go_wp2
    go_ret
    exact ⟨jg (zhn n 0), hb⟩
set_option maxHeartbeats 1000000 in
theorem zsm (k n : Int) (t : ByteArray) (ak : Option Addr) (c ck : Nat) (hc1 : c <= ck) (hc : ck <= maxLen) (w : World) : Calls Tryz.prog 64 #[NVal k n t ak c ck] w fun e w' => e = .returned (.bool (qg k c)) /\ Below w.heap.size w w' := by
 unfold maxLen at hc
 unfold NVal
 have hb := Ba w (.cells #[.int .i64 k, .int .i64 n, .string t, .slice ak c ck] 68)
 by_cases h1 : k = 7
 ·rw [zan c (.inl h1)]
  subst h1
  go_enter Tryz.func64, Tryz.ntmps64
  go_wp2
  go_ret
  exact ⟨jg (zcs c 2), hb⟩
 ·by_cases h2 : k = 13
  ·rw [zan c (.inr h2)]
   subst h2
   go_enter Tryz.func64, Tryz.ntmps64
   go_wp2
   go_ret
   exact ⟨jg (zcs c 2), hb⟩
  ·have e1 : (k == 7) = false := by simp [h1]
   have e2 : (k == 13) = false := by simp [h2]
   by_cases h3 : k = 8
   ·subst h3
    rw [zho]
    go_enter Tryz.func64, Tryz.ntmps64
    go_wp2
    go_ret
    exact ⟨jg (by rw [Bool.eq_iff_iff]; simp <;> omega), hb⟩
   ·have e3 : (k == 8) = false := by simp [h3]
    by_cases h4 : k = 15
    ·rw [zao c (.inl h4)]
     subst h4
     go_enter Tryz.func64, Tryz.ntmps64
     go_wp2
     go_ret
     exact ⟨rfl, hb⟩
    ·by_cases h5 : k = 16
     ·rw [zao c (.inr h5)]
      subst h5
      go_enter Tryz.func64, Tryz.ntmps64
      go_wp2
      go_ret
      exact ⟨rfl, hb⟩
     ·have e4 : (k == 15) = false := by simp [h4]
      have e5 : (k == 16) = false := by simp [h5]
      rw [zhp c h1 h2 h3 h4 h5]
      go_enter Tryz.func64, Tryz.ntmps64
      go_wp2
      go_ret
      exact ⟨jg (zcs c 0), hb⟩
theorem zsn {t : ByteArray} (h : t.size ≠ 0) : 0 < Lib.runeCount t := by
 unfold Lib.runeCount
 obtain ⟨f, hf⟩ : ∃ f, t.size = f + 1 := ⟨t.size - 1, by omega⟩
 rw [hf]
 unfold Lib.runeCountFrom
 rw [if_pos (by omega)]; omega
theorem zpf {t : ByteArray} (h : t.size = 0) : Lib.runeCount t = 0 := by
 have := Lib.runeCount_le t; omega
theorem zpg {t : ByteArray} (h : t.size = 0) : Lib.validD t.data.toList = true := by
 have : t.data.toList = [] := List.length_eq_zero_iff.1 h
 rw [this]; rfl
theorem zac1 (t : ByteArray) (h : t.size <= 1000000) : -1 <= utfN t /\ utfN t <= 1000000 := by
 have := Lib.runeCount_le t
 unfold utfN; split <;> omega
theorem zej1 (t : ByteArray) : j8 5 t = (decide (0 <= utfN t) && decide (utfN t <= 1024)) := by
 rw [zhs, Bool.eq_iff_iff]; unfold utfN
 cases Lib.validD t.data.toList <;> simp <;> omega
theorem zek1 (t : ByteArray) : j8 6 t = decide (0 < utfN t) := by
 rw [zlz, Bool.eq_iff_iff]; unfold utfN
 by_cases h : t.size = 0
 ·rw [zpg h, zpf h]; simp [h]
 ·have := zsn h
  cases Lib.validD t.data.toList <;> simp [h] <;> omega
theorem zcp1 {k : Int} (t : ByteArray) (h : k = 12 \/ k = 15) : j8 k t = decide (0 <= utfN t) := by
 rw [zbg t h, Bool.eq_iff_iff]; unfold utfN
 cases Lib.validD t.data.toList <;> simp <;> omega
set_option maxHeartbeats 2000000 in
theorem zph (n : Int) (t : ByteArray) (ak : Option Addr) (nk ck : Nat) (w : World) (ht : t.size <= 5000) : Calls Tryz.prog 62 #[NVal 3 n t ak nk ck] w fun e w' => e = .returned (.bool (zz t)) /\ Below w.heap.size w w' := by
 unfold NVal
 have hb := Ba w (.cells #[.int .i64 3, .int .i64 n, .string t, .slice ak nk ck] 68)
 have hblk := zd w #[.int .i64 3, .int .i64 n, .string t, .slice ak nk ck] 68
 have hsz := zb w (.cells #[.int .i64 3, .int .i64 n, .string t, .slice ak nk ck] 68)
 go_enter Tryz.func62, Tryz.ntmps62
 go_wp2_with fail
 obtain ⟨g, hg⟩ : ∃ g, g = w.heap.size := ⟨_, rfl⟩
 rw [<- hg] at hblk hsz
 rw [<- hg]
 generalize w.alloc (.cells #[.int .i64 3, .int .i64 n, .string t, .slice ak nk ck] 68) = W0 at *
 have HBK := hid hblk
 have HB := hid hb
 clear hblk hg hsz hb
 refine (zgb t 10 _ ht).mono ?_
 rintro e w1 ⟨x, en, rfl, b1, hP⟩
 obtain ⟨sg, ao, m, cap, l, rfl, R, hm, he1, he2, hE⟩ : ∃ sg ao m cap l, x = .agg #[.bool sg, .slice ao m cap] /\ Row .u32 B32 w1 ao m cap l /\ m <= 40 /\ -100 <= en /\ en <= 100 /\ ∀ s, bs s = j7 sg (val B32 l) -> (decide (en = 0) && decide (s = t)) = zz t := by
  have e10 : (10 : Int).toNat = 10 := rfl
  rcases hP with ⟨h, _⟩ | ⟨_, hd, rfl, rfl⟩ | ⟨_, hd, hA⟩
  ·exact absurd ⟨by omega, by omega⟩ h
  ·refine ⟨false, none, 0, 0, [], rfl, Row.nil _ _ _ _, by omega, by omega, by omega, fun s hs => ?_⟩
   unfold zz; rw [hd]; rfl
  ·rcases zhf hA with ⟨hb, rfl, ao, n, cap, l, rfl, R, g, hv_, hn⟩ | ⟨hb, rfl⟩
   ·refine ⟨_, ao, n, cap, l, rfl, R, hn, by omega, by omega, fun s hbs => ?_⟩
    unfold zz
    rw [hv_] at hbs
    rw [e10] at hbs
    have hnb : hv 10 (cutS (bs t)).2 < B32 ^ 40 := by unfold Big at hb; rw [e10] at hb; omega
    rw [hd, <- hbs]
    simp only [Bool.true_and, hnb, decide_true]
    rw [Bool.eq_iff_iff, decide_eq_true_eq, decide_eq_true_eq]
    exact ⟨fun h => by rw [h], fun h => zrp h.symm⟩
   ·obtain ⟨sx, ax, nx, cx, lx, hx, Rx, _⟩ := hA.form'
    rcases hA with ⟨h1, _⟩ | ⟨_, _, h3⟩
    ·exact absurd hb h1
    ·refine ⟨false, none, 0, 0, [], h3, Row.nil _ _ _ _, by omega, by omega, by omega, fun s hs => ?_⟩
     unfold zz
     have hnb : ¬ hv 10 (cutS (bs t)).2 < B32 ^ 40 := by unfold Big at hb; rw [e10] at hb; omega
     simp only [hnb, decide_false, Bool.and_false, Bool.false_and]
     rfl
 have b2 := Ba w1 (.cells #[.bool sg, .slice ao m cap] 134)
 have R2 := hid (R.below b2)
 have HB2 := hid (Bt (Bt HB.out b1) b2)
 have HK2 := hid (((Bt b1 b2).block g (Array.getElem?_eq_some_iff.1 HBK.out).1).trans HBK.out)
 have HE := hid hE
 clear R b1 b2 hE hP HB HBK
 go_wp2_with fail
 generalize w1.alloc (.cells #[.bool sg, .slice ao m cap] 134) = w2 at *
 refine (zoq sg ao m cap l 10 w2 R2.out hm).mono ?_
 rintro e w3 ⟨s, ep, rfl, hpr, b3⟩
 obtain ⟨hbs, rfl⟩ := hpr.is
 have hfin := hid (HE.out s hbs)
 have c2 := za ((b3.block g (Array.getElem?_eq_some_iff.1 HK2.out).1).trans HK2.out) 2
 have c2' : w3.cell? ⟨g, 2, none⟩ = some (.string t) := c2
 have HB3 := hid (Bt HB2.out b3)
 clear hpr hbs b3 c2 HE HK2 R2
 by_cases h0 : en = 0
 ·subst h0
  go_wp2
  go_ret
  refine ⟨jg ?_, HB3.out⟩
  have := hfin.out
  rw [<- this, zgc]; simp
 ·have e0 : (en == 0) = false := by simp [h0]
  go_wp2
  go_ret
  refine ⟨jg ?_, HB3.out⟩
  have := hfin.out
  rw [<- this]; simp [h0]
set_option maxHeartbeats 1000000 in
theorem zso (k n : Int) (t : ByteArray) (ak : Option Addr) (nk ck : Nat) (w : World) (ht : t.size <= 5000) : Calls Tryz.prog 62 #[NVal k n t ak nk ck] w fun e w' => e = .returned (.bool (j8 k t)) /\ Below w.heap.size w w' := by
 by_cases h1 : k = 3
 ·subst h1; rw [zhr]; exact zph n t ak nk ck w ht
 ·unfold NVal
  have hb := Ba w (.cells #[.int .i64 k, .int .i64 n, .string t, .slice ak nk ck] 68)
  have e1 : (k == 3) = false := by simp [h1]
  have HU := hid (fun w => zzp t w (by omega))
  obtain ⟨hu1, hu2⟩ := zac1 t (by omega)
  by_cases h2 : k = 5
  ·subst h2
   rw [zej1]
   generalize utfN t = U at *
   by_cases hU : 0 <= U
   ·go_enter Tryz.func62, Tryz.ntmps62
    go_wp2_with (go_at_call 100; refine (HU.out _).mono ?_; rintro e wz ⟨rfl, kz, hwz⟩; rw [hwz])
    go_ret
    exact ⟨jg (by simp [hU]), Bt hb (Bd _ _)⟩
   ·have eU : decide (0 <= U) = false := by simp [hU]
    go_enter Tryz.func62, Tryz.ntmps62
    go_wp2_with (go_at_call 100; refine (HU.out _).mono ?_; rintro e wz ⟨rfl, kz, hwz⟩; rw [hwz])
    go_ret
    exact ⟨jg (by simp [eU]), Bt hb (Bd _ _)⟩
  ·have e2 : (k == 5) = false := by simp [h2]
   by_cases h3 : k = 6
   ·subst h3
    rw [zek1]
    generalize utfN t = U at *
    go_enter Tryz.func62, Tryz.ntmps62
    go_wp2_with (go_at_call 100; refine (HU.out _).mono ?_; rintro e wz ⟨rfl, kz, hwz⟩; rw [hwz])
    go_ret
    exact ⟨rfl, Bt hb (Bd _ _)⟩
   ·have e3 : (k == 6) = false := by simp [h3]
    by_cases h4 : k = 9
    ·subst h4
     rw [zma]
     go_enter Tryz.func62, Tryz.ntmps62
     go_wp2
     go_ret
     exact ⟨jg (by rw [Bool.eq_iff_iff]; simp <;> omega), hb⟩
    ·have e4 : (k == 9) = false := by simp [h4]
     by_cases h5 : k = 12
     ·rw [zcp1 t (.inl h5)]
      subst h5
      generalize utfN t = U at *
      go_enter Tryz.func62, Tryz.ntmps62
      go_wp2_with (go_at_call 100; refine (HU.out _).mono ?_; rintro e wz ⟨rfl, kz, hwz⟩; rw [hwz])
      go_ret
      exact ⟨rfl, Bt hb (Bd _ _)⟩
     ·by_cases h6 : k = 15
      ·rw [zcp1 t (.inr h6)]
       subst h6
       generalize utfN t = U at *
       go_enter Tryz.func62, Tryz.ntmps62
       go_wp2_with (go_at_call 100; refine (HU.out _).mono ?_; rintro e wz ⟨rfl, kz, hwz⟩; rw [hwz])
       go_ret
       exact ⟨rfl, Bt hb (Bd _ _)⟩
      ·have e5 : (k == 12) = false := by simp [h5]
       have e6 : (k == 15) = false := by simp [h6]
       rw [zsk t h1 h2 h3 h4 h5 h6]
       go_enter Tryz.func62, Tryz.ntmps62
       go_wp2
       go_ret
       exact ⟨jg (ql t), hb⟩
def y8 (n : Nat) (p : Int) : Bool := decide (0 <= p) && decide (p < n)
def yu (l : List Int) (n : Nat) : Bool := l.all (y8 n)
def qo (n : Nat) (d : Nd) : Bool := decide (1 <= d.kind) && decide (d.kind <= 17) && numB d.kind d.num && j8 d.kind d.text && qg d.kind d.kids.length && yu d.kids n
def ys (ns : List Nd) (rs : List Int) : Bool := ns.all (qo ns.length) && yu rs ns.length
theorem jr {α : Type} [Inhabited α] (p : α -> Bool) {l : List α} {k : Nat} (h : k < l.length) : (l.take (k + 1)).all p = ((l.take k).all p && p (l.getD k default)) := by
 rw [List.take_succ_eq_append_getElem h, List.all_append, List.getD_eq_getElem?_getD, List.getElem?_eq_getElem h]; simp
theorem kw {α : Type} (p : α -> Bool) {l : List α} {k : Nat} (h : (l.take k).all p = false) : l.all p = false := by
 rw [List.all_eq_false] at h ⊢
 obtain ⟨x, hx, h2⟩ := h
 exact ⟨x, List.mem_of_mem_take hx, h2⟩
set_option maxHeartbeats 1000000 in
theorem zcc (ao : Option Addr) (n cap : Nat) (l : List Int) (nodes : Nat) (hnodes : nodes <= 1000000) (w : World) (R : IRow w ao n cap l) :
  Calls Tryz.prog 115 #[.slice ao n cap, .int .i64 nodes] w fun e w' => e = .returned (.bool (yu l nodes)) /\ w' = w := by
 have HR := hid R
 have hf := R.fits
 have hm := R.most
 unfold maxLen at hm
 clear R
 go_enter Tryz.func115, Tryz.ntmps115
 go_wp2
 go_loopw [9] (fun i wr => ∃ m : Nat, m <= n /\ i = .int .i64 m /\ Hid ((l.take m).all (y8 nodes) = true /\ wr = w)) (fun i _ => n - (intOf i).toNat)
 case atStart => exact ⟨0, Nat.zero_le _, rfl, rfl, rfl⟩
 case round =>
  obtain ⟨m, hmn, rfl, hI⟩ := hrel
  by_cases hlt : m < n
  ·obtain ⟨b, o, rfl, hl, hc⟩ := HR.out.some (by omega)
   have hc1 := hc m hlt
   have hbd := HR.out.get hlt
   obtain ⟨p, hp⟩ : ∃ p, p = l.getD m 0 := ⟨_, rfl⟩
   rw [<- hp] at hc1 hbd
   obtain ⟨hb1, hb2⟩ := hbd
   have hw := hI.out.2
   rw [<- hw] at hc1
   have hst : Hid ((l.take (m + 1)).all (y8 nodes) = y8 nodes p) := by
    unfold Hid
    rw [jr (y8 nodes) (by rw [HR.out.len]; exact hlt), hI.out.1, Bool.true_and, hp]; rfl
   have HW := hid hw
   clear hc hp hI hw
   by_cases h1 : 0 <= p
   ·have e1 : decide (p < 0) = false := by simp; omega
    by_cases h2 : p < nodes
    ·go_wp2
     exact ⟨⟨m + 1, by omega, by go_num, by rw [hst.out]; unfold y8; rw [decide_eq_true h1, decide_eq_true h2]; rfl, HW.out⟩, by simp [intOf] <;> omega⟩
    ·have e2 : decide ((nodes : Int) <= p) = true := by simp; omega
     go_wp2
     go_ret
     refine ⟨jg ?_, HW.out⟩
     have := kw (y8 nodes) (l := l) (k := m + 1) (by rw [hst.out]; simp [y8, h2])
     unfold yu; rw [this]
   ·have e1 : decide (p < 0) = true := by simp; omega
    go_wp2
    go_ret
    refine ⟨jg ?_, HW.out⟩
    have := kw (y8 nodes) (l := l) (k := m + 1) (by rw [hst.out]; simp [y8]; omega)
    unfold yu; rw [this]
  ·obtain rfl : m = n := by omega
   go_wp2
   go_ret
   refine ⟨jg ?_, hI.out.2⟩
   have := hI.out.1
   rw [List.take_of_length_le (by rw [HR.out.len]; omega)] at this
   unfold yu; rw [this]
theorem znp (n : Nat) (k m : Int) (t : ByteArray) (l : List Int) : qo n ⟨k, m, t, l⟩ = (decide (1 <= k) && decide (k <= 17) && numB k m && j8 k t && qg k l.length && yu l n) := rfl
set_option maxHeartbeats 2000000 in
theorem zjz (k m : Int) (t : ByteArray) (ak : Option Addr) (nk ck : Nat) (l : List Int) (nodes : Nat) (hnodes : nodes <= 1000000) (w : World) (R : IRow w ak nk ck l) (ht : t.size <= 1000000) (hT : Tabs w) :
  Calls Tryz.prog 114 #[NVal k m t ak nk ck, .int .i64 nodes] w fun e w' => e = .returned (.bool (qo nodes ⟨k, m, t, l⟩)) /\ Below w.heap.size w w' := by
 rw [znp, R.len]
 have hb := Ba w (.cells #[.int .i64 k, .int .i64 m, .string t, .slice ak nk ck] 68)
 have hblk := zd w #[.int .i64 k, .int .i64 m, .string t, .slice ak nk ck] 68
 have HR := hid (R.below hb)
 have HT := hid (hT.below hb)
 have hf := R.fits
 have hmx := R.most
 unfold maxLen at hmx
 unfold NVal
 clear R hT
 by_cases h1 : 1 <= k
 ·by_cases h2 : k <= 17
  ·go_enter Tryz.func114, Tryz.ntmps114
   go_wp2_with fail
   obtain ⟨g, hg⟩ : ∃ g, g = w.heap.size := ⟨_, rfl⟩
   rw [<- hg] at hblk
   rw [<- hg]
   generalize w.alloc (.cells #[.int .i64 k, .int .i64 m, .string t, .slice ak nk ck] 68) = W0 at *
   have c0 : W0.cell? ⟨g, 0, none⟩ = some (.int .i64 k) := za hblk 0
   have c1 : W0.cell? ⟨g, 1, none⟩ = some (.int .i64 m) := za hblk 1
   have c2 : W0.cell? ⟨g, 2, none⟩ = some (.string t) := za hblk 2
   have c3 : W0.cell? ⟨g, 3, none⟩ = some (.slice ak nk ck) := za hblk 3
   have hlt : g < W0.heap.size := (Array.getElem?_eq_some_iff.1 hblk).1
   have HB := hid hb
   clear hg hblk hb
   refine (zly k m _).mono ?_
   rintro e wz ⟨rfl, hwz⟩
   rw [hwz]
   clear hwz
   cases hnum : numB k m
   ·go_wp2_with fail
    go_ret
    exact ⟨jg (by simp [hnum]), HB.out⟩
   ·go_wp2_with fail
    refine (zjy k t _ ht HT.out).mono ?_
    rintro e w1 ⟨rfl, b1⟩
    have k0 : w1.cell? ⟨g, 0, none⟩ = some (.int .i64 k) := (b1.cell (p := ⟨g, 0, none⟩) hlt).trans c0
    have k3 : w1.cell? ⟨g, 3, none⟩ = some (.slice ak nk ck) := (b1.cell (p := ⟨g, 3, none⟩) hlt).trans c3
    have HR1 := hid (HR.out.below b1)
    have HB1 := hid (Bt HB.out b1)
    clear c0 c1 c2 c3 b1
    cases htx : j8 k t
    ·go_wp2_with fail
     go_ret
     exact ⟨jg (by simp [htx]), HB1.out⟩
    ·go_wp2_with fail
     refine (zhq k nk (by unfold maxLen; omega) _).mono ?_
     rintro e wz ⟨rfl, hwz⟩
     rw [hwz]
     clear hwz
     cases hcn : qg k nk
     ·go_wp2_with fail
      go_ret
      exact ⟨jg (by simp [hcn]), HB1.out⟩
     ·go_wp2_with fail
      refine (zcc ak nk ck l nodes hnodes _ HR1.out).mono ?_
      rintro e wz ⟨rfl, hwz⟩
      rw [hwz]
      clear hwz
      go_wp2_with fail
      go_ret
      exact ⟨jg (by simp [h1, h2, hnum, htx, hcn]), HB1.out⟩
  ·have e2 : decide (k <= 17) = false := by simp [h2]
   go_enter Tryz.func114, Tryz.ntmps114
   go_wp2_with fail
   go_ret
   exact ⟨jg (by simp [h2]), hb⟩
 ·have e1 : decide (1 <= k) = false := by simp [h1]
  go_enter Tryz.func114, Tryz.ntmps114
  go_wp2_with fail
  go_ret
  exact ⟨jg (by simp [h1]), hb⟩
def ke (ns : List Nd) : Prop := ∀ d ∈ ns, d.text.size <= 2000
theorem ke.get {ns : List Nd} (h : ke ns) {i : Nat} (hi : i < ns.length) : (ns.getD i default).text.size <= 2000 := by
 rw [List.getD_eq_getElem?_getD, List.getElem?_eq_getElem hi]; exact h _ (List.getElem_mem hi)
set_option maxHeartbeats 2000000 in
theorem zyy (an ar : Option Addr) (nn cn nr cr : Nat) (ns : List Nd) (rs : List Int) (w : World) (G : GIs w an nn cn ar nr cr ns rs) (hs : ke ns) (hn : nn <= 2500) (hT : Tabs w) :
  Calls Tryz.prog 74 #[GVal an nn cn ar nr cr] w fun e w' => e = .returned (.bool (ys ns rs)) /\ Below w.heap.size w w' := by
 have HG := hid G
 have HS := hid hs
 have HT := hid hT
 have hn1 := G.nodes.fits
 have hn2 := G.nodes.most
 have hr1 := G.roots.fits
 have hr2 := G.roots.most
 unfold maxLen at hn2 hr2
 unfold GVal
 have b1 := Ba w (.cells #[.slice an nn cn, .slice ar nr cr] 41)
 have x1 := GBox.new 41 w an ar nn cn nr cr
 clear G hs hT
 go_enter Tryz.func74, Tryz.ntmps74
 go_wp2_with fail
 obtain ⟨g, hg⟩ : ∃ g, g = w.heap.size := ⟨_, rfl⟩
 rw [<- hg] at x1
 rw [<- hg]
 generalize w.alloc (.cells #[.slice an nn cn, .slice ar nr cr] 41) = W1 at *
 have HGB := hid x1
 have HB1 := hid b1
 have HG1 := hid (HG.out.below b1)
 have HT1 := hid (HT.out.below b1)
 clear b1 x1 hg HG HT
 go_loopw [8] (fun i wr => ∃ m : Nat, m <= nn /\ i = .int .i64 m /\ Hid ((ns.take m).all (qo nn) = true /\ Below W1.heap.size W1 wr)) (fun i _ => nn - (intOf i).toNat)
 case atStart => exact ⟨0, Nat.zero_le _, rfl, rfl, Below.refl _ _⟩
 case round =>
  obtain ⟨m, hmn, rfl, hI⟩ := hrel
  have hbw := hI.out.2
  obtain ⟨q0, q1⟩ := (HGB.out.on hbw).c
  by_cases hlt : m < nn
  ·have hlen : m < ns.length := by rw [HG1.out.nodes.len]; exact hlt
   obtain ⟨b, o, rfl, hl, hc⟩ := (HG1.out.nodes.below hbw).some (by omega)
   obtain ⟨k1, k2, k3, ak, nk, ck, k4, k5⟩ := hc m hlt
   have hok := HG1.out.nodes.get hlt
   have hsm := HS.out.get hlen
   have hst : Hid ((ns.take (m + 1)).all (qo nn) = qo nn (ns.getD m default)) := by
    unfold Hid
    rw [jr (qo nn) hlen, hI.out.1, Bool.true_and]
   clear hc
   generalize ns.getD m default = d at *
   obtain ⟨dk, dn, dt, dl⟩ := d
   simp only [] at k1 k2 k3 k5 hok hsm
   obtain ⟨⟨o1, o2⟩, ⟨o3, o4⟩, o5⟩ := hok
   have ba := Ba wr (.cells #[.int .i64 dk, .int .i64 dn, .string dt, .slice ak nk ck] 68)
   have HA := hid ba
   have HK := hid (k5.below ba)
   have HT2 := hid ((HT1.out.below hbw).below ba)
   have r0 : ∀ ob, (wr.alloc ob).cell? ⟨g, 0, none⟩ = some (.slice (some ⟨b, o, none⟩) nn cn) := fun ob => (zw _ _ _ _ (HGB.out.on hbw).lt).trans q0
   have HBW := hid hbw
   clear k5 hbw hI ba o5
   go_wp2_with fail
   refine (zjz dk dn dt ak nk ck dl nn (by omega) _ HK.out (by omega) HT2.out).mono ?_
   rintro e w2 ⟨rfl, b2⟩
   have HB2 := hid (Bt (Bt HBW.out HA.out) b2)
   clear b2 r0 q0 q1 k1 k2 k3 k4
   cases hnb : qo nn ⟨dk, dn, dt, dl⟩
   ·go_wp2_with fail
    go_ret
    refine ⟨jg ?_, Bt HB1.out HB2.out⟩
    have := kw (qo nn) (l := ns) (k := m + 1) (by rw [hst.out]; exact hnb)
    unfold ys
    rw [HG1.out.nodes.len, this]; rfl
   ·go_wp2_with fail
    exact ⟨⟨m + 1, by omega, by go_num, by rw [hst.out]; exact hnb, HB2.out⟩, by simp [intOf] <;> omega⟩
  ·obtain rfl : m = nn := by omega
   have HR := hid (HG1.out.roots.below hbw)
   have HBW := hid hbw
   have hal := hid hI.out.1
   clear hbw hI
   go_wp2_with fail
   refine (zcc ar nr cr rs m (by omega) _ HR.out).mono ?_
   rintro e wz ⟨rfl, hwz⟩
   rw [hwz]
   clear hwz
   go_wp2_with fail
   go_ret
   refine ⟨jg ?_, Bt HB1.out HBW.out⟩
   unfold ys
   have h := hal.out
   rw [List.take_of_length_le (by rw [HG1.out.nodes.len]; omega)] at h
   rw [HG1.out.nodes.len, h]; rfl
set_option maxHeartbeats 4000000 in
theorem zht (an ar : Option Addr) (nn cn nr cr : Nat) (ns : List Nd) (rs : List Int) (w : World) (G : GIs w an nn cn ar nr cr ns rs) (hs : ke ns) (hn : nn <= 2500) :
  Calls Tryz.prog 31 #[GVal an nn cn ar nr cr] w fun e w' => e = .returned (.bool (ys ns rs)) /\ Below w.heap.size w w' := by
 have HG := hid G
 have HS := hid hs
 have hn1 := G.nodes.fits
 have hn2 := G.nodes.most
 have hr1 := G.roots.fits
 have hr2 := G.roots.most
 unfold maxLen at hn2 hr2
 unfold GVal
 have b1 := Ba w (.cells #[.slice an nn cn, .slice ar nr cr] 41)
 have x1 := GBox.new 41 w an ar nn cn nr cr
 clear G hs
 go_enter Tryz.func31, Tryz.ntmps31
 go_wp2_with fail
 obtain ⟨g, hg⟩ : ∃ g, g = w.heap.size := ⟨_, rfl⟩
 rw [<- hg] at x1
 rw [<- hg]
 generalize w.alloc (.cells #[.slice an nn cn, .slice ar nr cr] 41) = W1 at *
 have HGB := hid x1
 have HB1 := hid b1
 have HG1 := hid (HG.out.below b1)
 clear b1 x1 hg HG
 go_loopw [3] (fun i wr => ∃ m : Nat, m <= nn /\ i = .int .i64 m /\ Hid ((ns.take m).all (qo nn) = true /\ Below W1.heap.size W1 wr)) (fun i _ => nn - (intOf i).toNat)
 case atStart => exact ⟨0, Nat.zero_le _, rfl, rfl, Below.refl _ _⟩
 case round =>
  obtain ⟨m, hmn, rfl, hI⟩ := hrel
  have hbw := hI.out.2
  obtain ⟨q0, q1⟩ := (HGB.out.on hbw).c
  by_cases hlt : m < nn
  ·have hlen : m < ns.length := by rw [HG1.out.nodes.len]; exact hlt
   obtain ⟨b, o, rfl, hl, hc⟩ := (HG1.out.nodes.below hbw).some (by omega)
   obtain ⟨k1, k2, k3, ak, nk, ck, k4, k5⟩ := hc m hlt
   have hok := HG1.out.nodes.get hlt
   have hsm := HS.out.get hlen
   have hst : Hid ((ns.take (m + 1)).all (qo nn) = qo nn (ns.getD m default)) := by
    unfold Hid
    rw [jr (qo nn) hlen, hI.out.1, Bool.true_and]
   clear hc
   generalize ns.getD m default = d at *
   obtain ⟨dk, dn, dt, dl⟩ := d
   simp only [] at k1 k2 k3 k5 hok hsm
   obtain ⟨⟨o1, o2⟩, ⟨o3, o4⟩, o5⟩ := hok
   have hfk := k5.fits
   have hmk := k5.most
   have hlk := k5.len
   rw [znp, hlk] at hst
   have ba := Ba wr (.cells #[.int .i64 dk, .int .i64 dn, .string dt, .slice ak nk ck] 68)
   have hbk := zd wr #[.int .i64 dk, .int .i64 dn, .string dt, .slice ak nk ck] 68
   have HA := hid ba
   have HBK := hid hbk
   have HK := hid (k5.below ba)
   have HBW := hid hbw
   have HGW := hid (HGB.out.on hbw)
   have bad : Hid ((decide (1 <= dk) && decide (dk <= 17) && numB dk dn && j8 dk dt && qg dk nk && yu dl nn) = false -> ys ns rs = false) := by
    intro h
    have := kw (qo nn) (l := ns) (k := m + 1) (by rw [hst.out]; exact h)
    unfold ys
    rw [HG1.out.nodes.len, this]; rfl
   clear k5 hbw hI ba o5 hbk hlk
   unfold maxLen at hmk
   by_cases h1 : 1 <= dk
   ·have e1 : decide (dk < 1) = false := by simp; omega
    by_cases h2 : dk <= 17
    ·have e2 : decide (17 < dk) = false := by simp; omega
     go_wp2_with fail
     obtain ⟨gx, hgx⟩ : ∃ gx, gx = wr.heap.size := ⟨_, rfl⟩
     rw [<- hgx] at HBK
     rw [<- hgx]
     have HGA := hid (HGW.out.on HA.out)
     generalize wr.alloc (.cells #[.int .i64 dk, .int .i64 dn, .string dt, .slice ak nk ck] 68) = W2 at *
     have HB2 := hid (Bt HBW.out HA.out)
     clear hgx q0 q1 k1 k2 k3 k4 HA HGW HBW hl
     refine (zso dk dn dt ak nk ck W2 (by omega)).mono ?_
     rintro e w3 ⟨rfl, b3⟩
     have HBK3 := hid ((b3.block gx (Array.getElem?_eq_some_iff.1 HBK.out).1).trans HBK.out)
     have HK3 := hid (HK.out.below b3)
     have HG3 := hid (HGA.out.on b3)
     have HB3 := hid (Bt HB2.out b3)
     clear b3 HBK HK HGA HB2
     cases htx : j8 dk dt
     ·have hb := hid (bad.out (by simp [htx]))
      go_wp2_with fail
      go_ret
      exact ⟨jg hb.out.symm, Bt HB1.out HB3.out⟩
     ·have j0 : w3.cell? ⟨gx, 0, none⟩ = some (.int .i64 dk) := za HBK3.out 0
      have j1 : w3.cell? ⟨gx, 1, none⟩ = some (.int .i64 dn) := za HBK3.out 1
      have j2 : w3.cell? ⟨gx, 2, none⟩ = some (.string dt) := za HBK3.out 2
      have j3 : w3.cell? ⟨gx, 3, none⟩ = some (.slice ak nk ck) := za HBK3.out 3
      go_wp2_with fail
      clear j0 j1 j2 j3
      refine (zwq dk dn dt ak nk ck w3).mono ?_
      rintro e w4 ⟨rfl, b4⟩
      have HBK4 := hid ((b4.block gx (Array.getElem?_eq_some_iff.1 HBK3.out).1).trans HBK3.out)
      have HK4 := hid (HK3.out.below b4)
      have HG4 := hid (HG3.out.on b4)
      have HB4 := hid (Bt HB3.out b4)
      clear b4 HBK3 HK3 HG3 HB3
      cases hnm : numB dk dn
      ·have hb := hid (bad.out (by simp [hnm]))
       go_wp2_with fail
       go_ret
       exact ⟨jg hb.out.symm, Bt HB1.out HB4.out⟩
      ·have j0 : w4.cell? ⟨gx, 0, none⟩ = some (.int .i64 dk) := za HBK4.out 0
       have j1 : w4.cell? ⟨gx, 1, none⟩ = some (.int .i64 dn) := za HBK4.out 1
       have j2 : w4.cell? ⟨gx, 2, none⟩ = some (.string dt) := za HBK4.out 2
       have j3 : w4.cell? ⟨gx, 3, none⟩ = some (.slice ak nk ck) := za HBK4.out 3
       go_wp2_with fail
       clear j0 j1 j2 j3
       refine (zsm dk dn dt ak nk ck hfk (by unfold maxLen; omega) w4).mono ?_
       rintro e w5 ⟨rfl, b5⟩
       have HBK5 := hid ((b5.block gx (Array.getElem?_eq_some_iff.1 HBK4.out).1).trans HBK4.out)
       have HK5 := hid (HK4.out.below b5)
       have HG5 := hid (HG4.out.on b5)
       have HB5 := hid (Bt HB4.out b5)
       clear b5 HBK4 HK4 HG4 HB4
       cases hct : qg dk nk
       ·have hb := hid (bad.out (by simp [hct]))
        go_wp2_with fail
        go_ret
        exact ⟨jg hb.out.symm, Bt HB1.out HB5.out⟩
       ·have j3 : w5.cell? ⟨gx, 3, none⟩ = some (.slice ak nk ck) := za HBK5.out 3
        obtain ⟨z0, z1⟩ := HG5.out.c
        go_wp2_with fail
        go_loopw [5] (fun i wx => ∃ q : Nat, q <= nk /\ i = .int .i64 q /\ Hid ((dl.take q).all (y8 nn) = true /\ ∃ z, wx = w5.drewN z)) (fun i _ => nk - (intOf i).toNat)
        case atStart => exact ⟨0, Nat.zero_le _, rfl, rfl, 0, rfl⟩
        case round =>
         obtain ⟨q, hqk, rfl, hJ⟩ := hrel
         obtain ⟨z, hwx⟩ := hJ.out.2
         by_cases hq : q < nk
         ·obtain ⟨b', o', rfl, hl', hc'⟩ := HK5.out.some (by omega)
          have hc1 := hc' q hq
          have hbd := HK5.out.get hq
          obtain ⟨p, hp⟩ : ∃ p, p = dl.getD q 0 := ⟨_, rfl⟩
          rw [<- hp] at hc1 hbd
          obtain ⟨hb1, hb2⟩ := hbd
          have hst2 : Hid ((dl.take (q + 1)).all (y8 nn) = y8 nn p) := by
           unfold Hid
           rw [jr (y8 nn) (by rw [HK5.out.len]; exact hq), hJ.out.1, Bool.true_and, hp]; rfl
          have hpb : Hid (y8 nn p = false -> ys ns rs = false) := fun h => bad.out (by
           have h3 : yu dl nn = false := kw (y8 nn) (l := dl) (k := q + 1) (by rw [hst2.out]; exact h)
           simp [h3])
          rw [show w5.cell? = wr.cell? by rw [hwx]; rfl] at hc1 j3 z0 z1
          have HWX := hid hwx
          clear hc' hp hJ hwx
          by_cases h3 : 0 <= p
          ·have e3 : decide (p < 0) = false := by simp; omega
           by_cases h4 : p < nn
           ·have e4 : decide ((nn : Int) <= p) = false := by simp; omega
            have hpt : Hid (y8 nn p = true) := by unfold Hid y8; simp [h3, h4]
            go_wp2_with fail
            go_quiet (fail)
            go_wp2_with fail
            exact ⟨⟨q + 1, by omega, by go_num, by rw [hst2.out]; exact hpt.out, z + nq, by rw [HWX.out, World.drewN_drewN]⟩, by simp [intOf] <;> omega⟩
           ·have e4 : decide ((nn : Int) <= p) = true := by simp; omega
            have hb := hid (hpb.out (by unfold y8; simp [h4]))
            go_wp2_with fail
            go_quiet (fail)
            go_wp2_with fail
            go_ret
            exact ⟨jg hb.out.symm, by rw [HWX.out, World.drewN_drewN]; exact Bt (Bt HB1.out HB5.out) (Bd _ _)⟩
          ·have e3 : decide (p < 0) = true := by simp; omega
           have hb := hid (hpb.out (by unfold y8; simp [h3]))
           go_wp2_with fail
           go_quiet (fail)
           go_wp2_with fail
           go_ret
           exact ⟨jg hb.out.symm, by rw [HWX.out, World.drewN_drewN]; exact Bt (Bt HB1.out HB5.out) (Bd _ _)⟩
         ·obtain rfl : q = nk := by omega
          have hpl : Hid (yu dl nn = true) := by
           have := hJ.out.1
           rw [List.take_of_length_le (by rw [HK5.out.len]; omega)] at this
           exact this
          rw [show w5.cell? = wr.cell? by rw [hwx]; rfl] at j3 z0 z1
          have HWX := hid hwx
          have hok2 : Hid ((ns.take (m + 1)).all (qo nn) = true) := by
           unfold Hid; rw [hst.out, htx, hnm, hct, hpl.out]; simp [h1, h2]
          clear hJ hwx
          go_wp2_with fail
          exact ⟨⟨m + 1, by omega, by go_num, hok2.out, by rw [HWX.out]; exact Bt HB5.out (Bd _ _)⟩, by simp [intOf] <;> omega⟩
    ·have e2 : decide (17 < dk) = true := by simp; omega
     have hb := hid (bad.out (by simp [h2]))
     go_wp2_with fail
     go_ret
     exact ⟨jg hb.out.symm, Bt HB1.out (Bt HBW.out HA.out)⟩
   ·have e1 : decide (dk < 1) = true := by simp; omega
    have hb := hid (bad.out (by simp [h1]))
    go_wp2_with fail
    go_ret
    exact ⟨jg hb.out.symm, Bt HB1.out (Bt HBW.out HA.out)⟩
  ·obtain rfl : m = nn := by omega
   have HR := hid (HG1.out.roots.below hbw)
   have HBW := hid hbw
   have hal := hid hI.out.1
   have HGW := hid (HGB.out.on hbw)
   clear hbw hI
   go_wp2_with fail
   obtain ⟨W5, hW5⟩ : ∃ W5, W5 = wr := ⟨_, rfl⟩
   rw [<- hW5] at q0 q1 HR HBW HGW ⊢
   clear hW5
   go_loopw [6] (fun i wx => ∃ q : Nat, q <= nr /\ i = .int .i64 q /\ Hid ((rs.take q).all (y8 m) = true /\ ∃ z, wx = W5.drewN z)) (fun i _ => nr - (intOf i).toNat)
   case atStart => exact ⟨0, Nat.zero_le _, rfl, rfl, 0, rfl⟩
   case round =>
    obtain ⟨q, hqk, rfl, hJ⟩ := hrel
    obtain ⟨z, hwx⟩ := hJ.out.2
    have hgd : Hid (ys ns rs = yu rs m) := by
     unfold Hid ys
     have h := hal.out
     rw [List.take_of_length_le (by rw [HG1.out.nodes.len]; omega)] at h
     rw [HG1.out.nodes.len, h]; rfl
    by_cases hq : q < nr
    ·obtain ⟨b', o', rfl, hl', hc'⟩ := HR.out.some (by omega)
     have hc1 := hc' q hq
     have hbd := HR.out.get hq
     obtain ⟨p, hp⟩ : ∃ p, p = rs.getD q 0 := ⟨_, rfl⟩
     rw [<- hp] at hc1 hbd
     obtain ⟨hb1, hb2⟩ := hbd
     have hst2 : Hid ((rs.take (q + 1)).all (y8 m) = y8 m p) := by
      unfold Hid
      rw [jr (y8 m) (by rw [HR.out.len]; exact hq), hJ.out.1, Bool.true_and, hp]; rfl
     have hpb : Hid (y8 m p = false -> ys ns rs = false) := fun h => by
      rw [hgd.out]
      exact kw (y8 m) (l := rs) (k := q + 1) (by rw [hst2.out]; exact h)
     rw [show W5.cell? = wr.cell? by rw [hwx]; rfl] at hc1 q0 q1
     have HWX := hid hwx
     clear hc' hp hJ hwx
     by_cases h3 : 0 <= p
     ·have e3 : decide (p < 0) = false := by simp; omega
      by_cases h4 : p < m
      ·have e4 : decide ((m : Int) <= p) = false := by simp; omega
       have hpt : Hid (y8 m p = true) := by unfold Hid y8; simp [h3, h4]
       go_wp2_with fail
       go_quiet (fail)
       go_wp2_with fail
       exact ⟨⟨q + 1, by omega, by go_num, by rw [hst2.out]; exact hpt.out, z + nq, by rw [HWX.out, World.drewN_drewN]⟩, by simp [intOf] <;> omega⟩
      ·have e4 : decide ((m : Int) <= p) = true := by simp; omega
       have hb := hid (hpb.out (by unfold y8; simp [h4]))
       go_wp2_with fail
       go_quiet (fail)
       go_wp2_with fail
       go_ret
       exact ⟨jg hb.out.symm, by rw [HWX.out, World.drewN_drewN]; exact Bt (Bt HB1.out HBW.out) (Bd _ _)⟩
     ·have e3 : decide (p < 0) = true := by simp; omega
      have hb := hid (hpb.out (by unfold y8; simp [h3]))
      go_wp2_with fail
      go_quiet (fail)
      go_wp2_with fail
      go_ret
      exact ⟨jg hb.out.symm, by rw [HWX.out, World.drewN_drewN]; exact Bt (Bt HB1.out HBW.out) (Bd _ _)⟩
    ·obtain rfl : q = nr := by omega
     have hpl : Hid (yu rs m = true) := by
      have := hJ.out.1
      rw [List.take_of_length_le (by rw [HR.out.len]; omega)] at this
      exact this
     rw [show W5.cell? = wr.cell? by rw [hwx]; rfl] at q0 q1
     have HWX := hid hwx
     clear hJ hwx
     go_wp2_with fail
     go_ret
     exact ⟨jg (by rw [hgd.out, hpl.out]), by rw [HWX.out]; exact Bt (Bt HB1.out HBW.out) (Bd _ _)⟩
end Go.Proofs.YtadfihnffboelaaGreatDoor
