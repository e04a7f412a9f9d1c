import Derived.Test.YtdekkieajffblaaGreatDoorW50
set_option linter.unusedVariables false
set_option linter.unusedSimpArgs false
namespace Go.Proofs.YtdekkieajffblaaGreatDoor
open Go.RowKit
theorem top_digit {n s : Nat} {b d : List Nat} (hb : Dg B32 b) (hl : b.length = n) (hn : 2 <= n) (hd : Dg B32 d) (hdl : d.length = n + 1) (hv : val B32 d = val B32 b * 2 ^ s) (h1 : 2147483648 <= b.getD (n - 1) 0 * 2 ^ s) (h2 : b.getD (n - 1) 0 * 2 ^ s < 4294967296) :
  val B32 (d.take n) = val B32 b * 2 ^ s /\ 2147483648 <= (d.take n).getD (n - 1) 0 := by
 have eb : val B32 b = val B32 (b.take (n - 1)) + B32 ^ (n - 1) * b.getD (n - 1) 0 := by
  have := val_take_succ B32 b (n - 1) (by omega)
  rwa [show n - 1 + 1 = n by omega, List.take_of_length_le (by omega)] at this
 have hb0 : val B32 (b.take (n - 1)) < B32 ^ (n - 1) := by
  have := val_lt (hb.take (n - 1)); rwa [List.length_take, Nat.min_eq_left (by omega)] at this
 have ed : val B32 d = val B32 (d.take n) + B32 ^ n * d.getD n 0 := by
  have := val_take_succ B32 d n (by omega)
  rwa [List.take_of_length_le (by omega)] at this
 have hs : 0 < 2 ^ s := Nat.pow_pos (by decide)
 have hP : B32 ^ n = B32 ^ (n - 1) * 4294967296 := by
  rw [show n = (n - 1) + 1 by omega, Nat.pow_succ]; rfl
 obtain ⟨P, hPe⟩ : ∃ P, P = B32 ^ (n - 1) := ⟨_, rfl⟩
 rw [<- hPe] at eb hb0 hP
 have hlt : val B32 b * 2 ^ s < B32 ^ n := by
  rw [eb, hP]
  have a1 : b.getD (n - 1) 0 * 2 ^ s + 2 ^ s <= 4294967296 := by
   have : ∃ c, 4294967296 = 2 ^ s * c := by
    have hs32 : s < 32 := by
     apply Classical.byContradiction; intro hc
     have h3 : 2 ^ 32 <= 2 ^ s := Nat.pow_le_pow_right (by decide) (by omega)
     have h4 : b.getD (n - 1) 0 ≠ 0 := by intro e; rw [e] at h1; omega
     have h5 : 1 * 2 ^ s <= b.getD (n - 1) 0 * 2 ^ s := Nat.mul_le_mul_right _ (by omega)
     omega
    exact (pow_dvd32 hs32)
   obtain ⟨c, hc⟩ := this
   rw [hc, Nat.mul_comm] at h2
   have h3 := Nat.lt_of_mul_lt_mul_left h2
   have h4 : 2 ^ s * (b.getD (n - 1) 0 + 1) <= 2 ^ s * c := Nat.mul_le_mul_left _ h3
   rw [hc]
   rw [Nat.mul_add, Nat.mul_one] at h4
   rw [Nat.mul_comm (b.getD (n - 1) 0)]
   exact h4
  have a2 : P * (b.getD (n - 1) 0 * 2 ^ s + 2 ^ s) <= P * 4294967296 := Nat.mul_le_mul_left _ a1
  have a3 : val B32 (b.take (n - 1)) * 2 ^ s < P * 2 ^ s := Nat.mul_lt_mul_of_pos_right hb0 hs
  have a4 : (val B32 (b.take (n - 1)) + P * b.getD (n - 1) 0) * 2 ^ s = val B32 (b.take (n - 1)) * 2 ^ s + P * (b.getD (n - 1) 0 * 2 ^ s) := by grind
  rw [Nat.mul_add] at a2
  omega
 have e0 : d.getD n 0 = 0 := by
  apply Nat.eq_zero_of_not_pos; intro hp
  have : B32 ^ n * 1 <= B32 ^ n * d.getD n 0 := Nat.mul_le_mul_left _ hp
  omega
 have e1 : val B32 (d.take n) = val B32 b * 2 ^ s := by rw [<- hv, ed, e0]; simp
 refine ⟨e1, ?_⟩
 have ed2 : val B32 (d.take n) = val B32 (d.take (n - 1)) + P * (d.take n).getD (n - 1) 0 := by
  have := val_take_succ B32 d (n - 1) (by omega)
  rw [show n - 1 + 1 = n by omega] at this
  rw [this, getD_take (by omega), hPe]
 have hd0 : val B32 (d.take (n - 1)) < P := by
  have := val_lt (hd.take (n - 1)); rwa [List.length_take, Nat.min_eq_left (by omega), <- hPe] at this
 have a5 : P * 2147483648 <= val B32 b * 2 ^ s := by
  rw [eb]
  have : P * 2147483648 <= P * (b.getD (n - 1) 0 * 2 ^ s) := Nat.mul_le_mul_left _ h1
  have a4 : (val B32 (b.take (n - 1)) + P * b.getD (n - 1) 0) * 2 ^ s = val B32 (b.take (n - 1)) * 2 ^ s + P * (b.getD (n - 1) 0 * 2 ^ s) := by grind
  omega
 have a6 : P * 2147483648 < P * ((d.take n).getD (n - 1) 0 + 1) := by rw [Nat.mul_add]; omega
 have := Nat.lt_of_mul_lt_mul_left a6
 omega
structure Dv (A L q : List Nat) (V m k : Nat) : Prop where
 low : L.take m = A.take m
 len : L.length = A.length
 dg : Dg B32 L
 ql : q.length = k - m
 qd : Dg B32 q
 eq : val B32 (A.drop m) = val B32 q * V + val B32 (L.drop m)
 lt : val B32 (L.drop m) < V
theorem first_lt {a b A : List Nat} {n n' s V : Nat} (ha : Dg B32 a) (hal : a.length = n) (hbl : b.length = n') (hb : Tr b) (h2 : 2 <= n') (hle : n' <= n) (hA : val B32 A = val B32 a * 2 ^ s) (hAl : A.length = n + 1) (hV : V = val B32 b * 2 ^ s) :
  val B32 (A.drop (n - n' + 1)) < V := by
 have h1 := val_lt ha
 have h3 := hb.pos (B := B32) (by decide) (by intro e; simp [e] at hbl; omega)
 have hs : 0 < 2 ^ s := Nat.pow_pos (by decide)
 have h4 := val_split B32 A (n - n' + 1) (by omega)
 rw [hbl] at h3
 rw [hal] at h1
 have h5 : val B32 a * 2 ^ s < B32 ^ n * 2 ^ s := Nat.mul_lt_mul_of_pos_right h1 hs
 have h6 : B32 ^ n = B32 ^ (n - n' + 1) * B32 ^ (n' - 1) := by rw [<- Nat.pow_add]; congr 1; omega
 have h7 : B32 ^ (n' - 1) * 2 ^ s <= V := by rw [hV]; exact Nat.mul_le_mul_right _ h3
 have h8 : B32 ^ (n - n' + 1) * val B32 (A.drop (n - n' + 1)) < B32 ^ (n - n' + 1) * (B32 ^ (n' - 1) * 2 ^ s) := by
  rw [h6] at h5
  rw [<- Nat.mul_assoc]; omega
 have h9 := Nat.lt_of_mul_lt_mul_left h8
 omega
theorem Dv.part {A L q : List Nat} {V p k nn : Nat} (h : Dv A L q V (p + 1) k) (hp : p + (nn + 1) <= A.length) (hV : V < B32 ^ nn) : val B32 ((L.drop p).take (nn + 1)) = L.getD p 0 + B32 * val B32 (L.drop (p + 1)) /\ val B32 ((L.drop p).take (nn + 1)) < B32 * V /\ val B32 (L.drop (p + (nn + 1))) = 0 := by
 have h0 : val B32 (L.drop p) = L.getD p 0 + B32 * val B32 (L.drop (p + 1)) := val_drop_succ B32 L p (by rw [h.len]; omega)
 have h1 : L.getD p 0 < B32 := h.dg.getD _ (by rw [h.len]; omega)
 have h2 : B32 * (val B32 (L.drop (p + 1)) + 1) <= B32 * V := Nat.mul_le_mul_left _ h.lt
 have h3 : val B32 (L.drop p) < B32 * V := by rw [h0]; rw [Nat.mul_add] at h2; omega
 have h4 : B32 * V <= B32 ^ (nn + 1) := by rw [Nat.pow_succ, Nat.mul_comm]; exact Nat.mul_le_mul_right _ (Nat.le_of_lt hV)
 obtain ⟨e1, e2⟩ := val_part (B := B32) (m := p) (k := nn + 1) (L := L) (by rw [h.len]; omega) h.dg (by omega) (by decide)
 exact ⟨by rw [e1, h0], by rw [e1]; exact h3, e2⟩
theorem Dv.next {A L q M : List Nat} {V p k nn U g : Nat} (h : Dv A L q V (p + 1) k) (hk : p < k) (hp : p + (nn + 1) <= A.length) (hV : V < B32 ^ nn) (hU : U = val B32 ((L.drop p).take (nn + 1))) (hM : Dg B32 M) (hMl : M.length = nn + 1) (hg : U / V = g) (hgb : g < B32) (hr : val B32 M = U % V) :
  Dv A (L.take p ++ (M ++ L.drop (p + (nn + 1)))) (g :: q) V p k := by
 obtain ⟨e1, e2, e3⟩ := h.part hp hV
 have hll := h.len
 have hV0 : 0 < V := by have := h.lt; omega
 have hlp : (L.take p).length = p := by rw [List.length_take]; omega
 have ed : (L.take p ++ (M ++ L.drop (p + (nn + 1)))).drop p = M ++ L.drop (p + (nn + 1)) := by
  rw [List.drop_append, List.drop_eq_nil_of_le (by omega), hlp, Nat.sub_self]; rfl
 have ev : val B32 (M ++ L.drop (p + (nn + 1))) = U % V := by rw [val_append, e3, hr]; simp
 refine ⟨?_, ?_, ?_, ?_, ?_, ?_, ?_⟩
 ·rw [List.take_append_of_le_length (by omega), List.take_take, Nat.min_self]
  have := congrArg (List.take p) h.low
  rwa [List.take_take, List.take_take, Nat.min_eq_left (by omega)] at this
 ·rw [List.length_append, List.length_append, hlp, hMl, List.length_drop]; omega
 ·exact (h.dg.take p).append (hM.append (h.dg.drop _))
 ·rw [List.length_cons, h.ql]; omega
 ·exact fun x hx => by rcases List.mem_cons.1 hx with rfl | hx; exact hgb; exact h.qd x hx
 ·have hx : A.getD p 0 = L.getD p 0 := by
   have h5 : (L.take (p + 1)).getD p 0 = (A.take (p + 1)).getD p 0 := by rw [h.low]
   rw [getD_take (by omega), getD_take (by omega)] at h5
   exact h5.symm
  rw [ed, ev, val_cons, val_drop_succ B32 A p (by omega), hx, <- hg]
  exact div_round h.eq (by rw [hU, e1])
 ·rw [ed, ev]; exact Nat.mod_lt _ hV0
theorem Onto.trans {k : IntKind} {e : TypeId} {g o n : Nat} {w w' : World} {cur : Array Value} {l : List Nat} (h : Onto k e g o n w w' cur l) : ∃ cur', Win k e w' g o n cur' l /\ ∀ w'' l2, Onto k e g o n w' w'' cur' l2 -> Onto k e g o n w w'' cur l2 := by
 obtain ⟨c, hc, h1, h2⟩ := h.row
 refine ⟨c, hc, fun w'' l2 h' => ?_⟩
 obtain ⟨c', hc', h1', h2'⟩ := h'.row
 exact ⟨h'.os.trans h.os, h'.tape.trans h.tape, h'.output.trans h.output, h'.size.trans h.size, fun j hj => (h'.block j hj).trans (h.block j hj), c', hc', h1'.trans h1, fun j hj => (h2' j hj).trans (h2 j hj)⟩
set_option maxHeartbeats 4000000 in
theorem divLong_any (ao ao' : Option Addr) (n cap n' cap' : Nat) (l l' : List Nat) (w : World) (R : Row .u32 B32 w ao n cap l) (R' : Row .u32 B32 w ao' n' cap' l') (t' : Tr l') (hn : n <= 40) (h2 : 2 <= n') (hle : val B32 l' <= val B32 l) :
  Calls Tryz.prog 77 #[.slice ao n cap, .slice ao' n' cap'] w (DivPost w l l') := by
 have hnn : n' <= n := by
  apply Classical.byContradiction; intro hc
  have := lt_of_length (B := B32) (by decide) R.dg t' (by rw [R.len, R'.len]; omega)
  omega
 have HR := hid R
 have HR' := hid R'
 have HT' := hid t'
 have hmx := R.most
 have hft := R.fits
 have hmx' := R'.most
 have hft' := R'.fits
 unfold maxLen at hmx hmx'
 obtain ⟨x, hx⟩ : ∃ x, x = l'.getD (n' - 1) 0 := ⟨_, rfl⟩
 have hx0 : 0 < x := by
  rw [hx, <- R'.len]; exact Nat.pos_of_ne_zero (t'.resolve_left (fun e => by have := R'.len; simp [e] at this; omega))
 have hxb : x < 4294967296 := by rw [hx]; exact R'.dg.getD _ (by rw [R'.len]; omega)
 obtain ⟨b', o', rfl, hl', hc'⟩ := R'.rd.some (by rw [R'.len]; omega)
 have hcx : w.cell? ⟨b', o' + (n' - 1), none⟩ = some (.int .u32 x) := by rw [hc' (n' - 1) (by rw [R'.len]; omega), hx]
 have HX := hid hx
 clear R R' t' hle hc' hl' hx
 go_enter Tryz.func77, Tryz.ntmps77
 go_wp2_with fail
 refine (lead32_any x hx0 hxb _).mono ?_
 rintro e w1 ⟨s, rfl, hs, hs1, hs2, hw1⟩
 subst hw1
 have HS1 := hid hs1
 have HS2 := hid hs2
 clear hs1 hs2 hcx
 go_wp2_with fail
 refine (shiftUp_any _ n' cap' l' s _ HR'.out (by omega) hs).mono ?_
 rintro e w2 ⟨gd, D, rfl, hgd, hWd, hDd, hvd, hb2⟩
 have HW := hid hWd
 have HDd := hid hDd
 have HVd := hid hvd
 have HB2 := hid hb2
 have HGD := hid hgd
 clear hWd hDd hvd hb2 hgd
 go_wp2_with fail
 refine (shiftUp_any _ n cap l s _ (HR.out.below HB2.out) (by omega) hs).mono ?_
 rintro e w3 ⟨gr, A, rfl, hgr, hWr, hDr, hvr, hb3⟩
 have HWr := hid hWr
 have HDr := hid hDr
 have HVr := hid hvr
 have HB3 := hid hb3
 have HGR := hid hgr
 clear hWr hDr hvr hb3 hgr
 obtain ⟨N, hN⟩ : ∃ N, N = n - n' + 1 := ⟨_, rfl⟩
 have hmk := fun wx => run_make_row' (P := Tryz.prog) 22 58 (.int .u32 0) 4 Tryz.underlying22 info_u32 rfl .i64 .i64 N (by omega) (by omega) wx
 rw [show ((N : Nat) : Int) = (n : Int) - n' + 1 by omega] at hmk
 have hN2 : n + 1 = N + n' := by omega
 have hN3 : 0 < N := by omega
 have HNN := hid hN
 clear hN
 go_wp2
 have hW0 := made_win w3 .u32 58 N
 have hbm := Ba w3 (.cells (madeCells #[.int .u32 0] N) 58)
 obtain ⟨gq, hg⟩ : ∃ gq, gq = w3.heap.size := ⟨_, rfl⟩
 rw [<- hg] at hW0
 generalize hWW : w3.alloc (.cells (madeCells #[.int .u32 0] N) 58) = W0 at *
 generalize madeCells #[.int .u32 0] N = curq at *
 have HW0 := hid hW0
 have HBm := hid hbm
 have HG := hid hg
 rw [<- hg]
 clear hmk hWW hW0 hbm hg
 obtain ⟨cd0, hWd⟩ := HW.out
 obtain ⟨cr0, hWr⟩ := HWr.out
 have ltd : gd < w2.heap.size := hWd.lt
 have ltr : gr < w3.heap.size := hWr.lt
 have HNE : Hid (gd ≠ gr /\ gd ≠ gq /\ gr ≠ gq /\ w1.heap.size <= gr /\ w1.heap.size <= gq) := by
  have := HB2.out.size
  have := HB3.out.size
  have := HGR.out
  have := HG.out
  have := HGD.out
  refine ⟨?_, ?_, ?_, ?_, ?_⟩ <;> omega
 obtain ⟨eV, eT⟩ := top_digit HR'.out.dg HR'.out.len h2 HDd.out hWd.len HVd.out (by rw [<- HX.out]; exact HS1.out) (by rw [<- HX.out]; exact HS2.out)
 have hdl : (D.take n').length = n' := by rw [List.length_take, hWd.len]; omega
 have hVlt : val B32 (D.take n') < B32 ^ n' := by have := val_lt (HDd.out.take n'); rwa [hdl] at this
 have HD := hid (HDd.out.take n')
 have hF : Dv A A [] (val B32 (D.take n')) N N := ⟨rfl, rfl, HDr.out, by simp, Dg.nil _, by simp [val], by
  rw [HNN.out]; exact first_lt HR.out.dg HR.out.len HR'.out.len HT'.out h2 hnn HVr.out hWr.len eV⟩
 have hd1 : Win .u32 58 W0 gd 0 n' cd0 (D.take n') := by
  have h3 := hWd.sub 0 n' (by omega)
  rw [Nat.zero_add, List.drop_zero] at h3
  refine (h3.frame (HB3.out.block gd ltd)).frame (HBm.out.block gd ?_)
  have := HB3.out.size; omega
 have hr1 : Win .u32 58 W0 gr 0 (N + n') cr0 A := by rw [hN2] at hWr; exact hWr.frame (HBm.out.block gr ltr)
 have hAl : A.length = N + n' := by rw [hWr.len, hN2]
 have HS0 : Hid ((∃ cq, Win .u32 58 W0 gq 0 N cq (List.replicate N 0 ++ [])) /\ (∃ cr, Win .u32 58 W0 gr 0 (N + n') cr A) /\ (∃ cd, Win .u32 58 W0 gd 0 n' cd (D.take n')) /\ Below w1.heap.size w1 W0 /\ Dv A A [] (val B32 (D.take n')) N N) :=
  ⟨⟨_, by rw [List.append_nil]; exact HW0.out⟩, ⟨_, hr1⟩, ⟨_, hd1⟩, Bt (Bt HB2.out HB3.out) HBm.out, hF⟩
 obtain ⟨d, hd⟩ : ∃ d, d = D.take n' := ⟨_, rfl⟩
 obtain ⟨V, hV⟩ : ∃ V, V = val B32 d := ⟨_, rfl⟩
 rw [<- hd] at eV eT hdl hVlt HD HS0
 rw [<- hV] at eV hVlt HS0
 have EV := hid eV
 have ET := hid eT
 have HDL := hid hdl
 have HVL := hid hVlt
 have HV := hid hV
 have HAL := hid hAl
 clear hWd hWr ltd ltr eV eT hdl hVlt hF hd1 hr1 hd hV hAl HW HWr HW0 HBm HG HB3 HB2 HGD HGR
 go_loopw [10] (fun i wr => ∃ m : Nat, ∃ q L : List Nat, m <= N /\ i = .int .i64 ((m : Int) - 1) /\ Hid ((∃ cq, Win .u32 58 wr gq 0 N cq (List.replicate m 0 ++ q)) /\ (∃ cr, Win .u32 58 wr gr 0 (N + n') cr L) /\ (∃ cd, Win .u32 58 wr gd 0 n' cd d) /\ Below w1.heap.size w1 wr /\ Dv A L q V m N)) (fun i _ => (intOf i + 1).toNat)
 case atStart => exact ⟨N, [], A, Nat.le_refl _, rfl, HS0⟩
 case round =>
  obtain ⟨m, q, L, hm, rfl, hI⟩ := hrel
  by_cases hz : m = 0
  ·subst hz
   obtain ⟨⟨cq, hq⟩, ⟨cr, hr⟩, ⟨cd, hd⟩, hbl, hv⟩ := hI.out
   have hll : L.length = N + n' := by rw [hv.len, HAL.out]
   have e0 := val_part (B := B32) (m := 0) (k := n') (L := L) (by omega) hv.dg (by have := hv.lt; have := HVL.out; omega) (by decide)
   rw [List.drop_zero] at e0
   have hev : val B32 A = val B32 q * V + val B32 L := by have := hv.eq; rwa [List.drop_zero, List.drop_zero] at this
   have hlt : val B32 L < V := by have := hv.lt; rwa [List.drop_zero] at this
   rw [EV.out] at hev hlt
   rw [HVr.out] at hev
   obtain ⟨u1, u2⟩ := unshift (Nat.pow_pos (by decide)) hev hlt
   rw [<- e0.1] at u2
   have hsub : Win .u32 58 wr gr 0 n' cr (L.take n') := by
    have := hr.sub 0 n' (by omega)
    rwa [Nat.zero_add, List.drop_zero] at this
   have hrow : Hid (Row .u32 B32 wr (some ⟨gr, 0, none⟩) n' (N + n') (L.take n')) := hsub.row (hv.dg.take n') (by omega) (by unfold maxLen; omega)
   have hqrow : Hid (Row .u32 B32 wr (some ⟨gq, 0, none⟩) N N q) := Win.row (by simpa using hq) hv.qd (by omega) (by unfold maxLen; omega)
   have U1 := hid u1
   have U2 := hid u2
   have HBL := hid hbl
   clear hq hr hd hbl hv hll e0 hev hlt u1 u2 hsub hI
   go_wp2_with fail
   refine (shiftDown_any _ n' (N + n') (L.take n') s _ hrow.out (by omega) hs).mono ?_
   rintro e w4 ⟨g, M, rfl, hWM, hDM, hvM, hb4⟩
   have HWM := hid hWM
   have HDM := hid hDM
   have HVM := hid hvM
   have HB4 := hid hb4
   clear hWM hDM hvM hb4
   go_wp2
   go_ret2
   obtain ⟨cM, hM⟩ := HWM.out
   exact ⟨_, N, N, _, n', n', q, M, rfl, hqrow.out.below HB4.out, hM.row HDM.out (Nat.le_refl _) (by unfold maxLen; omega), U1.out, by rw [HVM.out]; exact U2.out, by omega, by omega, Bt HBL.out HB4.out⟩
  ·obtain ⟨p, rfl⟩ : ∃ p, m = p + 1 := ⟨m - 1, by omega⟩
   obtain ⟨⟨cq, hq⟩, ⟨cr, hr⟩, ⟨cd, hd⟩, hbl, hv⟩ := hI.out
   obtain ⟨U, hU⟩ : ∃ U, U = val B32 ((L.drop p).take (n' + 1)) := ⟨_, rfl⟩
   obtain ⟨e1, e2, e3⟩ := hv.part (nn := n') (by rw [HAL.out]; omega) HVL.out
   have hsub : Win .u32 58 wr gr p (n' + 1) cr ((L.drop p).take (n' + 1)) := by
    have := hr.sub p (n' + 1) (by omega)
    rwa [Nat.zero_add] at this
   have hsd : Dg B32 ((L.drop p).take (n' + 1)) := (hv.dg.drop p).take _
   have HSUB := hid hsub
   have HSD := hid hsd
   have HU := hid hU
   have hrow : Hid (Row .u32 B32 wr (some ⟨gr, p, none⟩) (n' + 1) (N + n' - p) ((L.drop p).take (n' + 1))) := hsub.row hsd (by omega) (by unfold maxLen; omega)
   have hdrow : Hid (Row .u32 B32 wr (some ⟨gd, 0, none⟩) n' (n' + 1) d) := hd.row HD.out (by omega) (by unfold maxLen; omega)
   have HUV : Hid (U < B32 * V) := by rw [hU]; exact e2
   have fin : Hid (∀ (wz : World) (M : List Nat) (G : Nat) (z : Int), z = (p : Int) - 1 -> (∀ j, j ≠ gr -> wz.heap[j]? = wr.heap[j]?) -> (∃ c, Win .u32 58 wz gr 0 (N + n') c (L.take p ++ (M ++ L.drop (p + (n' + 1))))) -> Below w1.heap.size w1 wz -> Dg B32 M -> M.length = n' + 1 -> U / V = G -> G < B32 -> val B32 M = U % V ->
     (∃ m : Nat, ∃ q L : List Nat, m <= N /\ Value.int .i64 z = .int .i64 ((m : Int) - 1) /\ Hid ((∃ cq, Win .u32 58 (wz.setCell ⟨gq, p, none⟩ (.int .u32 G)) gq 0 N cq (List.replicate m 0 ++ q)) /\ (∃ cr, Win .u32 58 (wz.setCell ⟨gq, p, none⟩ (.int .u32 G)) gr 0 (N + n') cr L) /\ (∃ cd, Win .u32 58 (wz.setCell ⟨gq, p, none⟩ (.int .u32 G)) gd 0 n' cd d) /\ Below w1.heap.size w1 (wz.setCell ⟨gq, p, none⟩ (.int .u32 G)) /\ Dv A L q V m N)) /\
     (intOf (.int .i64 z) + 1).toNat < (intOf (.int .i64 (((p + 1 : Nat) : Int) - 1)) + 1).toNat) := by
    rintro wz M G z rfl hoth ⟨c, hWz⟩ hbz hM hMl hG hGb hMv
    obtain ⟨n1, n2, n3, n4, n5⟩ := HNE.out
    have hqz := (hq.frame (hoth gq (fun e => n3 e.symm))).onto.store (i := p) (by omega) G
    rw [Nat.zero_add] at hqz
    have e4 : (List.replicate (p + 1) 0 ++ q).set p G = List.replicate p 0 ++ G :: q := by
     rw [List.replicate_succ', List.append_assoc, List.set_append, if_neg (by simp), List.length_replicate, Nat.sub_self]; rfl
    rw [e4] at hqz
    refine ⟨⟨p, G :: q, _, by omega, rfl, hqz.win, ⟨c, hWz.frame (Below.heap_setCell _ _ _ _ n3)⟩, ⟨cd, (hd.frame (hoth gd n1)).frame (Below.heap_setCell _ _ _ _ n2)⟩, hbz.setCell n5 _, hv.next (by omega) (by rw [HAL.out]; omega) HVL.out hU hM hMl hG hGb hMv⟩, by simp [intOf] <;> omega⟩
   have HQ := hid hq
   have HRR := hid hr
   have HBL := hid hbl
   clear hI hq hr hd hbl hv e1 e2 e3 hsub hsd hU
   go_wp2_with fail
   rw [show p + n' + 1 - p = n' + 1 by omega]
   refine (guessLimb_any _ _ n' (N + n' - p) (n' + 1) _ d _ hrow.out hdrow.out h2 (by omega) ET.out (by rw [<- HU.out, <- HV.out]; exact HUV.out)).mono ?_
   rintro e w4 ⟨g, rfl, hgs, k, hw4⟩
   rw [hw4]
   rw [<- HU.out, <- HV.out] at hgs
   have HGS := hid hgs
   have hgb : g < 4294967296 := hgs.1
   have HSUB4 : Hid (Win .u32 58 (wr.drewN k) gr p (n' + 1) cr ((L.drop p).take (n' + 1))) := HSUB.out.frame rfl
   have hdrow4 : Hid (Row .u32 B32 (wr.drewN k) (some ⟨gd, 0, none⟩) n' (n' + 1) d) := hdrow.out.below (Bd wr k)
   clear hgs hw4
   go_wp2_with fail
   refine (takeOff_any gr p (n' + 1) (N + n' - p) cr _ _ n' (n' + 1) d g _ HSUB4.out HSD.out (by unfold maxLen; omega) hdrow4.out (fun _ ad e => by cases e; exact HNE.out.1) hgb).mono ?_
   rintro e w5 ⟨M, bb, cc, rfl, hbb, hcc, hO, hDM, hvM, hcc0⟩
   have hcc1 := hcc0 (by omega)
   subst hcc1
   have hdt : d.take (n' + 1) = d := List.take_of_length_le (by rw [HDL.out]; omega)
   rw [hdt, <- HU.out, <- HV.out, Nat.add_zero] at hvM
   have hMl := hO.len
   have hMlt : val B32 M < B32 ^ (n' + 1) := by have := val_lt hDM; rwa [hMl] at this
   have hVlt : V < B32 ^ (n' + 1) := by
    have := HVL.out
    have h3 : B32 ^ n' <= B32 ^ (n' + 1) := Nat.pow_le_pow_right (by decide) (by omega)
    omega
   have hUlt : U < B32 ^ (n' + 1) := by
    have := val_lt HSD.out
    rw [HU.out]
    rwa [HSUB.out.len] at this
   obtain ⟨P, hP⟩ : ∃ P, P = B32 ^ (n' + 1) := ⟨_, rfl⟩
   rw [<- hP] at hvM hMlt hVlt hUlt
   have HP := hid hP
   clear hP
   have fin2 : Hid (∀ (wz : World) (M : List Nat) (G : Nat) (z : Int), z = (p : Int) - 1 -> Onto .u32 58 gr p (n' + 1) (wr.drewN k) wz cr M -> Dg B32 M -> U / V = G -> G < B32 -> val B32 M = U % V ->
     (∃ m : Nat, ∃ q L : List Nat, m <= N /\ Value.int .i64 z = .int .i64 ((m : Int) - 1) /\ Hid ((∃ cq, Win .u32 58 (wz.setCell ⟨gq, p, none⟩ (.int .u32 G)) gq 0 N cq (List.replicate m 0 ++ q)) /\ (∃ cr, Win .u32 58 (wz.setCell ⟨gq, p, none⟩ (.int .u32 G)) gr 0 (N + n') cr L) /\ (∃ cd, Win .u32 58 (wz.setCell ⟨gq, p, none⟩ (.int .u32 G)) gd 0 n' cd d) /\ Below w1.heap.size w1 (wz.setCell ⟨gq, p, none⟩ (.int .u32 G)) /\ Dv A L q V m N)) /\
     (intOf (.int .i64 z) + 1).toNat < (intOf (.int .i64 (((p + 1 : Nat) : Int) - 1)) + 1).toNat) := by
    intro wz M G z hz hO hM hG hGb hMv
    have hw := Onto.whole (o := 0) (i := p) (by rw [Nat.zero_add]; exact hO) (HRR.out.frame (w' := wr.drewN k) rfl) (by omega)
    exact fin.out wz M G z hz (fun j hj => hO.block j hj) hw.win ((Bt HBL.out (Bd wr k)).trans (hO.below HNE.out.2.2.2.1)) hM hO.len hG hGb hMv
   have hcells : ∀ wz M, Onto .u32 58 gr p (n' + 1) (wr.drewN k) wz cr M -> wz.cell? ⟨gq, p, none⟩ = some (.int .u32 0) /\ wz.frozen? ⟨gq, p, none⟩ = false := by
    intro wz M hO
    have h1 := HQ.out.frame (hO.block gq (fun e => HNE.out.2.2.1 e.symm))
    have h3 := h1.cell (i := p) (by omega)
    rw [getD_append_left (by simp), getD_zeros, Nat.zero_add] at h3
    exact ⟨h3, h1.frozen p⟩
   have HCE := hid hcells
   by_cases hb0 : bb = 0
   ·subst hb0
    obtain ⟨a1, a2⟩ := dig_ok HGS.out hMlt hUlt (by rw [Nat.mul_zero, Nat.add_zero] at hvM; exact hvM)
    obtain ⟨f1, f2⟩ := hcells w5 M hO
    have A1 := hid a1
    have A2 := hid a2
    have HO := hid hO
    have HDM := hid hDM
    clear hcells hvM hMlt hVlt hUlt a1 a2 hO hDM hdt hcc0
    have ed : decide ((0 : Nat) ≠ 0) = false := rfl
    rw [ed]
    go_wp2
    exact fin2.out _ M g _ (by omega) HO.out HDM.out A1.out hgb A2.out
   ·have hb1 : bb = 1 := by omega
    subst hb1
    obtain ⟨cM, hWM, htr⟩ := hO.trans
    have HWM := hid hWM
    have HTR := hid htr
    have HDM := hid hDM
    have hdrow5 : Hid (Row .u32 B32 w5 (some ⟨gd, 0, none⟩) n' (n' + 1) d) := by
     refine ⟨hdrow4.out.len, hdrow4.out.fits, hdrow4.out.most, hdrow4.out.nil_, hdrow4.out.dg, .inr ⟨gd, 0, rfl, ?_, fun i hi => ?_⟩⟩
     ·rw [hO.size]; obtain ⟨b, o, e, h1, _⟩ := hdrow4.out.rd.some (by rw [hdrow4.out.len]; omega); cases e; exact h1
     ·rw [hO.other HNE.out.1]
      obtain ⟨b, o, e, _, h1⟩ := hdrow4.out.rd.some (by rw [hdrow4.out.len]; omega)
      cases e; exact h1 i hi
    have HVM := hid hvM
    have HMLT := hid hMlt
    have HVLT := hid hVlt
    have HDT := hid hdt
    have hg0 : 0 < g := by
     apply Nat.pos_of_ne_zero; rintro rfl
     rw [Nat.mul_one, Nat.zero_mul, Nat.add_zero] at hvM; omega
    clear hcells hvM hMlt hVlt hUlt hO hDM hdt hcc0 hWM htr
    have ed : decide ((1 : Nat) ≠ 0) = true := rfl
    rw [ed]
    go_wp2_with fail
    refine (addInto_any gr p (n' + 1) (N + n' - p) cM M _ n' (n' + 1) d _ HWM.out HDM.out (by unfold maxLen; omega) hdrow5.out (fun _ ad e => by cases e; exact HNE.out.1)).mono ?_
    rintro e w6 ⟨rfl, M2, c, hO2, hDM2, hc, hvM2⟩
    rw [HDT.out, <- HV.out, <- HP.out] at hvM2
    have hM2lt : val B32 M2 < P := by have := val_lt hDM2; rwa [hO2.len, <- HP.out] at this
    obtain ⟨a0, a1, a2⟩ := dig_back HGS.out HVLT.out HMLT.out (by have := HVM.out; rwa [Nat.mul_one] at this) hM2lt hc hvM2
    have hO3 := HTR.out _ _ hO2
    obtain ⟨f1, f2⟩ := HCE.out w6 M2 hO3
    have A1 := hid a1
    have A2 := hid a2
    have HO := hid hO3
    have HDM2 := hid hDM2
    clear a0 a1 a2 hO3 hO2 hDM2 hM2lt hc hvM2
    obtain ⟨G, hG⟩ : ∃ G, G = g - 1 := ⟨_, rfl⟩
    have eG : (g : Int) - 1 = (G : Int) := by omega
    have hGb : G < B32 := by unfold B32; omega
    rw [<- hG] at A1
    clear hG
    go_wp2
    exact fin2.out _ M2 G _ (by omega) HO.out HDM2.out A1.out hGb A2.out
theorem long_any {x y : Value} {w : World} : LongOk x y w := by
 intro s ao n cap l s' ao' n' cap' l' hx hy R R' g g' h2 hle wx r1 r2
 exact divLong_any ao ao' n cap n' cap' l l' wx r1 r2 (goodB_tr g') (by have := goodB_len g; rw [R.len] at this; exact this) h2 hle
end Go.Proofs.YtdekkieajffblaaGreatDoor
