import Derived.Test.YtbkfinjajkjhaaaGreatDoorMath2
import Derived.Test.YtbkfinjajkjhaaaGreatDoorW2
import Derived.Test.YtbkfinjajkjhaaaGreatDoorApp
set_option linter.unusedVariables false
set_option linter.unusedSimpArgs false
namespace Go.Proofs.YtbkfinjajkjhaaaGreatDoor
open Go.RowKit
theorem zli {w w2 : World} {o : Obj} {p : Nat} {c : Array Value} {t : TypeId} (h : w.heap[p]? = some (.cells c t (0, 0))) (hb : Below (p + 1) (w.alloc o) w2) : w2.heap[p]? = some (.cells c t (0, 0)) :=
 (hb.block p (by omega)).trans ((Below.heap_alloc w o p (Array.getElem?_eq_some_iff.1 h).1).trans h)
set_option maxHeartbeats 2000000 in
theorem kg (neg : Bool) (ao : Option Addr) (n cap : Nat) (b : List Nat) (w : World) (R : Row .u8 256 w ao n cap b) (hs : n <= 1000) :
  Calls Tryz.prog 56 #[.bool neg, .slice ao n cap] w fun e w' => ∃ x en, e = .returned (.tuple #[x, .int .i64 en]) /\ Ans w' x en neg (val 256 b) /\ Below w.heap.size w w' := by
 have HR := hid R
 clear R
 go_enter Tryz.func56, Tryz.ntmps56
 go_wp2_with fail
 refine (vf ao n cap b _ (HR.out.below (Ba _ _)) hs).mono ?_
 rintro e w1 ⟨m, ao1, cap1, hm, rfl, hO, ht, hv, hb1⟩
 have hd0 : w1.heap[w.heap.size]? = some (.cells #[.bool false, .slice none 0 0] 55 (0, 0)) := (hb1.block w.heap.size (by simp)).trans (je _ _ _)
 have hlen := hO.row.len
 generalize b.take m = r at *
 have hcap1 := hO.row.fits
 have hmax1 := hO.row.most
 unfold maxLen at hmax1
 have HO := hid hO
 have HT := hid ht
 have HV := hid hv
 have HB := hid (Bt (Ba w (.cells #[.bool false, .slice none 0 0] 55)) hb1)
 have HL := hid hlen
 have HD0 := hid hd0
 have hsz : w.heap.size < w1.heap.size := (Array.getElem?_eq_some_iff.1 hd0).1
 clear hO ht hv hb1 hlen hd0 HR
 obtain ⟨sg, hsg⟩ : ∃ sg, sg = (neg && decide (0 < m)) := ⟨_, rfl⟩
 have HSG := hid hsg
 clear hsg
 cases neg
 all_goals
  go_wp2
  go_loopw [7, 8, 9] (fun i _ _ wr => ∃ j : Nat, ∃ v, i = .int .i64 ((4 * j : Nat) : Int) /\ 4 * j <= m + 3 /\ Hid (wr.heap[w1.heap.size]? = some (.cells #[.bool sg, v] 55 (0, 0)) /\ wr.ownsRow (w1.heap.size + 1) 97 1 v j (cs .u32 (lws r j)) /\ Below w1.heap.size w1 wr)) (fun i _ _ _ => m + 3 - (intOf i).toNat)
  case atStart =>
   refine ⟨0, .slice none 0 0, rfl, by omega, ?_, ?_, Ba _ _⟩
   ·rw [HSG.out]; exact je _ _ _
   ·simpa [lws, cs] using World.ownsRow_nil _ _ _ _
  case round =>
   obtain ⟨j, v, rfl, hj, hH⟩ := hrel
   obtain ⟨h1, h2, h3⟩ := hH.out
   have hc0 := zm h1 0
   have hc1 := zm h1 1
   have hf1 := yd h1 1
   simp at hc0 hc1
   have hz1 : w1.heap.size < wr.heap.size := (Array.getElem?_eq_some_iff.1 h1).1
   have HZ1 := hid hz1
   have H2 := hid h2
   have H3 := hid h3
   have H1 := hid h1
   clear h1 h2 h3 hH hz1
   by_cases hlt : 4 * j < m
   ·obtain ⟨bb, o, rfl, hl, hcl⟩ := HO.out.row.rd.some (by rw [HL.out]; omega)
    have HCL : Hid (∀ i, i < m -> wr.cell? ⟨bb, o + i, none⟩ = some (.int .u8 (r.getD i 0 : Nat))) := fun i hi => (H3.out.cell (p := ⟨bb, o + i, none⟩) hl).trans (hcl i (by rw [HL.out]; exact hi))
    clear hcl
    go_wp2
    go_loop [8, 9] (fun a k => ∃ q acc : Nat, q <= 4 /\ 4 * j + q <= m /\ k = .int .i64 q /\ a = .int .u32 acc /\ Hid (acc = val 256 ((r.drop (4 * j)).take q))) (fun _ k => 4 - (intOf k).toNat)
    case atStart => exact ⟨0, 0, by omega, by omega, rfl, rfl, rfl⟩
    case round =>
     obtain ⟨q, acc, hq, hqm, rfl, rfl, hacc⟩ := hrel
     have hlim : acc < 256 ^ q := by rw [hacc.out]; exact zlg HO.out.row.dg j q
     by_cases hgo : q < 4 /\ 4 * j + q < m
     ·obtain ⟨hq4, hqlt⟩ := hgo
      have hcd := HCL.out (4 * j + q) hqlt
      obtain ⟨d, hd⟩ : ∃ d, d = r.getD (4 * j + q) 0 := ⟨_, rfl⟩
      have hdb : d < 256 := by rw [hd]; exact HO.out.row.dg.getD _ (by rw [HL.out]; exact hqlt)
      rw [<- hd] at hcd
      have HS : Hid (val 256 ((r.drop (4 * j)).take (q + 1)) = acc + 256 ^ q * d) := by
       unfold Hid; rw [zgv r j q (by rw [HL.out]; exact hqlt), <- hacc.out, <- hd]
      clear hd hacc
      have hq' : q = 0 \/ q = 1 \/ q = 2 \/ q = 3 := by omega
      rcases hq' with rfl | rfl | rfl | rfl
      ·obtain rfl : acc = 0 := by simp at hlim; exact hlim
       have hor := zgx d hdb
       simp only [Nat.add_zero] at hcd
       clear hlim
       go_wp2
       exact ⟨⟨1, d, by omega, by omega, rfl, rfl, by unfold Hid; rw [HS.out]; omega⟩, by simp [intOf]⟩
      ·have hor := zgw acc d (by omega) hdb
       obtain ⟨A, hA⟩ : ∃ A, A = acc + 256 * d := ⟨_, rfl⟩
       rw [<- hA] at hor
       have HA := hid hA
       clear hlim hA
       go_wp2
       exact ⟨⟨2, A, by omega, by omega, rfl, rfl, by unfold Hid; rw [HS.out, HA.out]⟩, by simp [intOf]⟩
      ·have hor := zeb acc d (by omega) hdb
       obtain ⟨A, hA⟩ : ∃ A, A = acc + 65536 * d := ⟨_, rfl⟩
       rw [<- hA] at hor
       have HA := hid hA
       clear hlim hA
       go_wp2
       exact ⟨⟨3, A, by omega, by omega, rfl, rfl, by unfold Hid; rw [HS.out, HA.out]⟩, by simp [intOf]⟩
      ·have hor := zec acc d (by omega) hdb
       obtain ⟨A, hA⟩ : ∃ A, A = acc + 16777216 * d := ⟨_, rfl⟩
       rw [<- hA] at hor
       have HA := hid hA
       clear hlim hA
       go_wp2
       exact ⟨⟨4, A, by omega, by omega, rfl, rfl, by unfold Hid; rw [HS.out, HA.out]⟩, by simp [intOf]⟩
     ·have HLW : Hid (acc = lw r j) := by
       unfold Hid lw; rw [hacc.out]
       by_cases h4 : q = 4
       ·rw [h4]
       ·have hqe : 4 * j + q = m := by omega
        rw [List.take_of_length_le (l := r.drop (4 * j)) (i := q) (by rw [List.length_drop, HL.out]; omega), List.take_of_length_le (l := r.drop (4 * j)) (i := 4) (by rw [List.length_drop, HL.out]; omega)]
      have hgo' : q = 4 \/ q < 4 /\ 4 * j + q = m := by omega
      have hacb : acc < 4294967296 := by rw [HLW.out]; exact zle HO.out.row.dg j
      clear hacc hlim hgo
      rcases hgo' with rfl | ⟨hq4, hqe⟩
      all_goals
       go_wp2_with (at_builtin; refine app1 rfl _ _ 53 rfl (w1.heap.size + 1) 97 .u32 4 (by decide) Tryz.underlying53 k7 _ _ _ rfl (H2.out.alloc _) ⟨wr.heap.size, 0, none⟩ 1 acc rfl (zz _ _ _) (by omega) (by have := HZ1.out; simp; omega) ?_; intro g cap' w2 hown hbel; have hk := zli H1.out hbel; have hk1 : w2.cell? ⟨w1.heap.size, 1, none⟩ = some v := zm hk 1; have hkf := yd hk 1; have HK := hid hk; have HW := hid hown; have HE := hid hbel; clear hk hown hbel)
       refine ⟨⟨j + 1, .slice (some ⟨g, 0, none⟩) (j + 1) cap', by go_num, by omega, gi HK.out _, ?_, ?_⟩, by simp [intOf]; omega⟩
       ·rw [gh, <- HLW.out]; exact ownsRow_setCell_below HW.out (by simp) _
       ·exact ((H3.out.alloc (by have := HZ1.out; omega) _).trans (HE.out.mono (by omega))).setCell (Nat.le_refl _) _
   ·have hjm : m <= 4 * j := by omega
    obtain ⟨ao2, cap2, hu, hO2⟩ := jb H2.out (zdz HO.out.row.dg j)
    subst hu
    have HV2 : Hid (val B32 (lws r j) = val 256 b) := by
     unfold Hid; rw [zea r j (by rw [HL.out]; exact hj), List.take_of_length_le (by rw [HL.out]; exact hjm), HV.out]
    have HT2 := hid (zlf HT.out j (by rw [HL.out]; exact hjm) (by rw [HL.out]; exact hj))
    have HO2 := hid hO2
    have HSG2 : Hid (decide (0 < m) = decide (lws r j ≠ [])) := by
     unfold Hid
     rw [decide_eq_decide, <- List.length_pos_iff, yv]
     omega
    have hbnd := hO2.row.most
    have hft2 := hO2.row.fits
    unfold maxLen at hbnd
    have hd0 : wr.heap[w.heap.size]? = some (.cells #[.bool false, .slice none 0 0] 55 (0, 0)) := (H3.out.block _ hsz).trans HD0.out
    have hq0 := zm hd0 0
    have hq1 := zm hd0 1
    have hqf0 := yd hd0 0
    have hqf1 := yd hd0 1
    simp at hq0 hq1
    have HQ := hid hd0
    clear hd0 hO2
    have HB3 := hid (HB.out.trans (H3.out.mono (Nat.le_of_lt hsz)))
    by_cases h40 : j <= 40
    ·have e40 : decide ((40 : Int) < j) = false := by simp; omega
     go_wp2
     refine bodyPost_ret (v := .tuple #[.agg #[.bool sg, .slice ao2 j cap2], .int .i64 0]) (by simp [results, Tryz.results56, go_sem, hq0, hq1]) rfl ⟨_, _, rfl, .inl ⟨?_, rfl, lws r j, ⟨ao2, j, cap2, ?_, ((HO2.out.setFar (p := ⟨w.heap.size, 0, none⟩) (by simp; omega) _).setFar (p := ⟨w.heap.size, 1, none⟩) (by simp; omega) _).row⟩, HT2.out, HV2.out⟩, (HB3.out.setCell (Nat.le_refl _) _).setCell (Nat.le_refl _) _⟩
     ·rw [<- HV2.out, <- qt (zdz HO.out.row.dg j) HT2.out, yv]; exact h40
     ·rw [HSG.out, HSG2.out]
    ·have e40 : decide ((40 : Int) < j) = true := by simp; omega
     go_wp2
     refine bodyPost_ret (v := .tuple #[.agg #[.bool false, .slice none 0 0], .int .i64 10]) (by simp [results, Tryz.results56, go_sem, hq0, hq1]) rfl ⟨_, _, rfl, .inr ⟨?_, rfl, rfl⟩, (HB3.out.setCell (Nat.le_refl _) _).setCell (Nat.le_refl _) _⟩
     have := (qt (zdz HO.out.row.dg j) HT2.out)
     rw [yv, HV2.out] at this
     exact Classical.byContradiction fun h => h40 (this.2 h)
theorem zjn (hi lo : Nat) (h1 : hi < 4294967296) (h2 : lo < 4294967296) : bits .or .u64 ((hi : Int) * 4294967296) (lo : Int) = ((hi * 4294967296 + lo : Nat) : Int) := by
 rw [show ((hi : Int) * 4294967296) = ((hi * 4294967296 : Nat) : Int) by omega, u64_or_nat _ _ (by omega) (by omega), nat_join 32 _ _ (by omega) (by omega)]
theorem zgz (z v : Nat) (h : z / v < 4294967296) : IntKind.u64.wrap ((z : Int).tdiv v) % 4294967296 = ((z / v : Nat) : Int) := by
 rw [<- Int.ofNat_tdiv, IntKind.wrap_u64]; generalize z / v = q at *; omega
theorem zha (z v : Nat) (h : z % v < 4294967296) : (z : Int).tmod v % 4294967296 = ((z % v : Nat) : Int) := by
 rw [<- Int.ofNat_tmod]; generalize z % v = q at *; omega
theorem zjo {a b c d : Value} (h1 : a = c) (h2 : b = d) : Ending.returned (.tuple #[a, b]) = .returned (.tuple #[c, d]) := by rw [h1, h2]
set_option maxHeartbeats 400000 in
theorem zed (hi lo v : Nat) (hh : hi < v) (hl : lo < B32) (hv : v < B32) (w : World) :
  Calls Tryz.prog 134 #[.int .u32 hi, .int .u32 lo, .int .u32 v] w fun e w' => e = .returned (.tuple #[.int .u32 ((hi * B32 + lo) / v : Nat), .int .u32 ((hi * B32 + lo) % v : Nat)]) /\ ∃ k, w' = w.drewN k := by
 unfold B32 at *
 have e1 : ((v : Int) != 0) = true := by rw [bne_iff_ne]; omega
 have e2 : decide ((v : Int) <= hi) = false := by simp; omega
 have hor := zjn hi lo (by omega) hl
 obtain ⟨z, hz⟩ : ∃ z, z = hi * 4294967296 + lo := ⟨_, rfl⟩
 rw [<- hz] at hor ⊢
 have hq : z / v < 4294967296 := by
  rw [Nat.div_lt_iff_lt_mul (by omega)]
  have : (hi + 1) * 4294967296 <= v * 4294967296 := Nat.mul_le_mul_right _ hh
  omega
 have hr : z % v < 4294967296 := by have := Nat.mod_lt z (by omega : 0 < v); omega
 have hz2 : z < 18446744073709551616 := by omega
 have HQ : Hid (z / v < 4294967296) := hq
 have HR : Hid (z % v < 4294967296) := hr
 clear hz hq hr hz2
 go_enter Tryz.func134, Tryz.ntmps134
 go_wp2
 go_quiet (fail)
 go_wp2
 go_ret2
 refine ⟨zjo ?_ ?_, nq, rfl⟩
 ·exact congrArg (Value.int .u32) (zgz z v HQ.out)
 ·exact congrArg (Value.int .u32) (zha z v HR.out)
theorem zee {B r v q : Nat} (hv : 0 < v) (m : Nat) (L : List Nat) (hm : m < L.length) (h1 : val B (L.drop (m + 1)) = q * v + r) (hr : r < v) :
  val B (L.drop m) = ((r * B + L.getD m 0) / v + B * q) * v + (r * B + L.getD m 0) % v := by
 rw [qq B L m hm, h1]
 have := Nat.div_add_mod (r * B + L.getD m 0) v
 rw [Nat.add_mul, Nat.mul_add, Nat.mul_assoc B q v, Nat.mul_comm B r]
 rw [Nat.mul_comm v] at this
 omega
theorem jv {l q : List Nat} {m x : Nat} (hm : m < l.length) : (l.take (m + 1) ++ q).set m x = l.take m ++ (x :: q) := by
 rw [jr l m hm, List.append_assoc, List.set_append, if_neg (by rw [List.length_take]; omega), List.length_take, Nat.min_eq_left (by omega)]
 simp
set_option maxHeartbeats 1000000 in
theorem fe (g o n cap : Nat) (cur : Array Value) (l : List Nat) (v : Nat) (w : World) (W : Win .u32 97 w g o n cur l) (hd : Dg B32 l) (hn : n <= maxLen) (hv0 : 0 < v) (hv : v < B32) :
  Calls Tryz.prog 111 #[.slice (some ⟨g, o, none⟩) n cap, .int .u32 v] w fun e w' => e = .returned (.int .u32 (val B32 l % v : Nat)) /\ ∃ l', Onto .u32 97 g o n w w' cur l' /\ Dg B32 l' /\ val B32 l' = val B32 l / v := by
 have HW : Hid (Win .u32 97 w g o n cur l) := W
 have HD : Hid (Dg B32 l) := hd
 have HL : Hid (l.length = n) := W.len
 unfold maxLen at hn
 clear W hd
 go_enter Tryz.func111, Tryz.ntmps111
 go_wp2
 go_loopw [5, 6] (fun t i wr => ∃ m r : Nat, ∃ q : List Nat, m <= n /\ i = .int .i64 ((m : Int) - 1) /\ t = .int .u32 r /\ r < v /\ Hid (q.length = n - m /\ Dg B32 q /\ val B32 (l.drop m) = val B32 q * v + r /\ Onto .u32 97 g o n w wr cur (l.take m ++ q))) (fun _ i _ => (intOf i + 1).toNat)
 case atStart => exact ⟨n, 0, [], Nat.le_refl _, rfl, rfl, hv0, by simp, Dg.nil _, by rw [List.drop_eq_nil_of_le (by rw [HL.out]; omega)]; simp [val], by
  rw [List.take_of_length_le (by rw [HL.out]; omega), List.append_nil]; exact HW.out.onto⟩
 case round =>
  obtain ⟨m, r, q, hm, rfl, rfl, hr, hH⟩ := hrel
  by_cases hz : m = 0
  ·subst hz
   go_wp2
   go_ret
   obtain ⟨h1, h2, h3, h4⟩ := hH.out
   rw [List.drop_zero] at h3
   rw [h3]
   refine ⟨congrArg (fun z : Nat => Ending.returned (.int .u32 (z : Int))) ?_, q, by simpa using h4, h2, ?_⟩
   ·rw [Nat.mul_comm, Nat.mul_add_mod, Nat.mod_eq_of_lt hr]
   ·rw [Nat.mul_comm, Nat.mul_add_div hv0, Nat.div_eq_of_lt hr]; rfl
  ·obtain ⟨p, rfl⟩ : ∃ p, m = p + 1 := ⟨m - 1, by omega⟩
   obtain ⟨d, hd⟩ : ∃ d, d = l.getD p 0 := ⟨_, rfl⟩
   have hll : p < l.length := by rw [HL.out]; omega
   have hdb : d < B32 := by rw [hd]; exact HD.out.getD _ hll
   have hc : wr.cell? ⟨g, o + p, none⟩ = some (.int .u32 d) := by
    have := hH.out.2.2.2.cell (i := p) (by omega)
    rw [jo (by rw [List.length_take]; omega), qr (by omega), <- hd] at this
    exact this
   have hf : wr.frozen? ⟨g, o + p, none⟩ = false := hH.out.2.2.2.frozen _
   have H1 : Hid (d = l.getD p 0) := hd
   have HP : Hid (p < l.length) := hll
   clear hd hll
   obtain ⟨Q, hQ⟩ : ∃ Q, Q = (r * B32 + d) / v := ⟨_, rfl⟩
   obtain ⟨R, hR⟩ : ∃ R, R = (r * B32 + d) % v := ⟨_, rfl⟩
   have HC : Hid (∀ w, Calls Tryz.prog 134 #[.int .u32 r, .int .u32 d, .int .u32 v] w fun e w' => e = .returned (.tuple #[.int .u32 Q, .int .u32 R]) /\ ∃ k, w' = w.drewN k) := fun w => by rw [hQ, hR]; exact zed r d v hr hdb hv w
   have HQ : Hid (Q = (r * B32 + d) / v) := hQ
   have HR : Hid (R = (r * B32 + d) % v) := hR
   have hRv : R < v := by rw [hR]; exact Nat.mod_lt _ hv0
   have HB : Hid (Q < B32) := by
    unfold Hid
    rw [hQ, Nat.div_lt_iff_lt_mul hv0]
    have : (r + 1) * B32 <= v * B32 := Nat.mul_le_mul_right _ hr
    rw [Nat.add_mul] at this
    rw [Nat.mul_comm B32 v]
    omega
   clear hQ hR
   go_wp2_with (go_at_call 134; refine (HC.out _).mono ?_; rintro e w' ⟨rfl, q1, rfl⟩)
   obtain ⟨h1, h2, h3, h4⟩ := hH.out
   refine ⟨⟨p, R, Q :: q, by omega, rfl, rfl, hRv, ?_, ?_, ?_, ?_⟩, by simp [intOf] <;> omega⟩
   ·simp [h1]; omega
   ·exact fun x hx => by rcases List.mem_cons.1 hx with rfl | hx; exact HB.out; exact h2 x hx
   ·rw [zee hv0 p l HP.out h3 hr, <- H1.out, <- HQ.out, <- HR.out, ys]
   ·rw [<- jv HP.out]; exact (h4.drewN q1).store (by omega) Q
end Go.Proofs.YtbkfinjajkjhaaaGreatDoor
