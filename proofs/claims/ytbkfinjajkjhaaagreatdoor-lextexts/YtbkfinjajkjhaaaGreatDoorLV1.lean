import Derived.Test.YtbkfinjajkjhaaaGreatDoorLX22
import Derived.Test.YtbkfinjajkjhaaaGreatDoorLM11
import Derived.Test.YtbkfinjajkjhaaaGreatDoorLX4
import Derived.Shelf.Unicode.WordAny
import Derived.Lib.ValidAsc
import Derived.BigQuiet
set_option linter.unusedVariables false
set_option linter.unusedSimpArgs false
set_option maxRecDepth 100000
namespace Go.Proofs.YtbkfinjajkjhaaaGreatDoor
open Go.RowKit
def CutPost (w : World) (r : Option Tok) (q : Nat) (e : Ending) (w' : World) : Prop :=
 ∃ (a b : Int) (t : ByteArray) (f u er pl : Int), e = .returned (.tuple #[tkV a b t f u, .int .i64 er, .int .i64 pl]) /\ (r = none -> er = 31 /\ pl = (q : Nat)) /\ (∀ x, r = some x -> er = 0 /\ a = x.kind /\ b = x.num /\ t = x.text /\ f = x.fr /\ u = x.un) /\ Below w.heap.size w w'
set_option maxHeartbeats 8000000 in
theorem lexCut_any (ao : Option Addr) (n cap : Nat) (l : List Nat) (k : Nat) (w : World) (R : BRow w ao n cap l) (hT : LTabs w) (hsm : n <= 1000000) (hk : k <= n) (hb : Bnd l k) (hv : Vd l) : Calls Tryz.prog 21 #[.slice ao n cap, .int .i64 k] w (CutPost w (stepM l k) (skL l k).1) := by
 have HB0 : Hid (Below w.heap.size w (w.alloc (.cells #[.int .i64 0, .int .i64 0, .string ⟨#[]⟩, .int .i64 0, .int .i64 0] 31))) := Ba w _
 have HR := hid R
 have HT := hid hT
 have CS := hid (skip_any ao n cap l k _ (R.below HB0.out) (hT.below HB0.out) (by omega) hk)
 rw [size_alloc] at CS
 have HX : Hid (∀ W, Below (w.heap.size + 1) (w.alloc (.cells #[.int .i64 0, .int .i64 0, .string ⟨#[]⟩, .int .i64 0, .int .i64 0] 31)) W -> TxW w W) := fun W h => ⟨(TkBox.new w).on (by rw [size_alloc]; exact h), HB0.out.trans (h.mono (by omega))⟩
 obtain ⟨s1, s2, s3⟩ := skL_bnd (l := l) l.length k (by omega) (by rw [R.len]; exact hk) hb
 obtain ⟨A, hA⟩ : ∃ A, A = stepM l k := ⟨_, rfl⟩
 rw [<- hA]
 unfold stepM at hA
 obtain ⟨q, hq⟩ : ∃ q, q = (skL l k).1 := ⟨_, rfl⟩
 rw [<- hq] at CS hA s1 s2 s3 ⊢
 have hvq := hv.drop q s2 s1
 rw [R.len] at hA s2
 by_cases hend : q = n
 ·rw [if_pos (by omega)] at hA
  have HA : Hid (A = some ⟨0, 0, ⟨#[]⟩, n, n⟩) := hA
  have q1 : ((q : Int) == (n : Int)) = true := by simp; omega
  have hqn : Hid (q = n) := hend
  clear R hT hA hq s1 s2 s3 hvq hend hv hb
  go_enter Tryz.func21, Tryz.ntmps21
  go_wp2_with fail
  go_at_call 37
  with_reducible refine CS.out.mono ?_
  rintro e wa ⟨rfl, ba⟩
  have HW := hid (HX.out wa ba)
  obtain ⟨⟨c0, c1, c2, c3, c4⟩, f0, f1', f2, f3, f4⟩ := HW.out.1.facts
  clear ba
  go_wp2_with fail
  exact bodyPost_ret (v := .tuple #[tkV 0 0 ⟨#[]⟩ q q, .int .i64 0, .int .i64 0]) (by simp [results, Tryz.results21, go_sem, tkV, c0, c1, c2, c3, c4]) rfl ⟨0, 0, ⟨#[]⟩, q, q, 0, 0, rfl, (fun h => by rw [HA.out] at h; cases h), (fun x h => by rw [HA.out] at h; cases h; exact ⟨rfl, rfl, rfl, rfl, by rw [hqn.out], by rw [hqn.out]⟩), below_set5 HW.out.2 (Nat.le_refl _) _ _ _ _ _⟩
 ·rw [if_neg (by omega)] at hA
  have hne : l.drop q ≠ [] := by intro e; have := congrArg List.length e; rw [List.length_drop, R.len, List.length_nil] at this; omega
  have HLe : Hid (∀ x, tkM (l.drop q) = some x -> 1 <= x.2.2.2 /\ x.2.2.2 <= n - q) := fun x h => by have := tkM_le hne h; rw [List.length_drop, R.len] at this; exact this
  have hf := R.fits
  have CT := hid (fun W (h : Below w.heap.size w W) => cutToken_any _ _ _ _ W ((HR.out.below h).drop (k := q) (by omega)) (HT.out.below h) (by omega) (by omega) hvq)
  obtain ⟨X, hX⟩ : ∃ X, X = tkM (l.drop q) := ⟨_, rfl⟩
  rw [<- hX] at CT hA HLe
  have HA := hid hA
  have hsl := fun W => slice_from (w := W) (ao := ao) (n := n) (cap := cap) (k := q) (by omega)
  have hsl2 := fun W => sliceAt_from (w := W) (ao := ao) (n := n) (cap := cap) (k := q) (by omega)
  obtain ⟨ax, hax⟩ : ∃ a, a = adv ao cap q := ⟨_, rfl⟩
  rw [<- hax] at CT hsl hsl2
  have q1 : ((q : Int) == (n : Int)) = false := by simp; omega
  clear R hT hA hq s1 s3 hvq hend hv hb hX hax hne HR HT
  go_enter Tryz.func21, Tryz.ntmps21
  go_wp2_with fail
  go_at_call 37
  with_reducible refine CS.out.mono ?_
  rintro e wa ⟨rfl, ba⟩
  have HW := hid (HX.out wa ba)
  have CT2 := hid (CT.out wa HW.out.2)
  clear ba CT CS
  go_wp2_with fail
  go_at_call 38
  with_reducible refine CT2.out.mono ?_
  rintro e wb ⟨a, b, t, f, u, z, rfl, hp1, hp2, bb⟩
  have HP1 := hid hp1
  have HP2 := hid hp2
  have HT2 : Hid (∀ ob, TxW w (wb.alloc ob)) := fun ob => HW.out.on (Bt bb (Ba wb ob))
  have F := fun ob => (HT2.out ob).1.facts
  have c0 := fun ob => (F ob).1.1
  have c1 := fun ob => (F ob).1.2.1
  have c2 := fun ob => (F ob).1.2.2.1
  have c3 := fun ob => (F ob).1.2.2.2.1
  have c4 := fun ob => (F ob).1.2.2.2.2
  have f0 := fun ob => (F ob).2.1
  have f1 := fun ob => (F ob).2.2.1
  have f2 := fun ob => (F ob).2.2.2.1
  have f3 := fun ob => (F ob).2.2.2.2.1
  have f4 := fun ob => (F ob).2.2.2.2.2
  clear F bb hp1 hp2 CT2
  unfold tkV
  cases X with
  | none =>
   obtain rfl := HP1.out rfl
   have HA2 : Hid (A = none) := HA.out
   go_wp2_with fail
   exact bodyPost_ret (v := .tuple #[tkV 0 0 ⟨#[]⟩ 0 0, .int .i64 31, .int .i64 q]) (by simp [results, Tryz.results21, go_sem, tkV, c0, c1, c2, c3, c4]) rfl ⟨0, 0, ⟨#[]⟩, 0, 0, 31, q, rfl, (fun _ => ⟨rfl, rfl⟩), (fun x h => by rw [HA2.out] at h; cases h), below_set5 (HT2.out _).2 (Nat.le_refl _) _ _ _ _ _⟩
  | some x =>
   obtain ⟨rfl, rfl, rfl, hz⟩ := HP2.out x rfl
   have hzz := HLe.out x rfl
   rw [<- hz] at hzz
   have HZ := hid hz
   have q2 : ((z : Int) == 0) = false := by simp; omega
   have HA2 : Hid (A = some ⟨x.1, x.2.1, x.2.2.1, q, q + z⟩) := by unfold Hid; rw [HA.out, hz]; rfl
   clear hz
   go_wp2_with fail
   exact bodyPost_ret (v := .tuple #[tkV x.1 x.2.1 x.2.2.1 q (q + z), .int .i64 0, .int .i64 0]) (by simp [results, Tryz.results21, go_sem, tkV, c0, c1, c2, c3, c4]) rfl ⟨x.1, x.2.1, x.2.2.1, q, q + z, 0, 0, rfl, (fun h => by rw [HA2.out] at h; cases h), (fun y h => by rw [HA2.out] at h; cases h; exact ⟨rfl, rfl, rfl, rfl, rfl, by push_cast; rfl⟩), below_set5 (HT2.out _).2 (Nat.le_refl _) _ _ _ _ _⟩
theorem Bdn {B : Nat} {a w : World} (h : Below B a w) : ∀ q, Below B a (w.drewN q)
 | 0 => h
 | q + 1 => (Bdn h q).drew
abbrev BT (w : World) (ao : Option Addr) (t : ByteArray) : Prop := BRow w ao t.size t.size (t.data.toList.map UInt8.toNat)
theorem get_nat (t : ByteArray) (i : Nat) (h : i < t.size) : (t.data.toList.map UInt8.toNat).getD i 0 = (t.get! i).toNat := by
 rw [<- Lib.getD_get!', List.getD_eq_getElem?_getD, List.getD_eq_getElem?_getD, List.getElem?_map, List.getElem?_eq_getElem (by rw [<- Lib.size_eq]; exact h)]
 rfl
theorem len_nat (t : ByteArray) : (t.data.toList.map UInt8.toNat).length = t.size := by rw [List.length_map, <- Lib.size_eq]
theorem BT.at_ {w : World} {ao : Option Addr} {t : ByteArray} (R : BT w ao t) (h : 0 < t.size) : ∃ b o, ao = some ⟨b, o, none⟩ /\ b < w.heap.size /\ ∀ i, i < t.size -> w.cell? ⟨b, o + i, none⟩ = some (.int .u8 ((t.get! i).toNat : Nat)) := by
 obtain ⟨b, o, e, hb, hc⟩ := R.rd.some (by rw [len_nat]; exact h)
 exact ⟨b, o, e, hb, fun i hi => by rw [hc i (by rw [len_nat]; exact hi), get_nat t i hi]⟩
theorem BT.cut {w : World} {ao : Option Addr} {t : ByteArray} (R : BT w ao t) {k : Nat} (h : k <= t.size) : BT w (adv ao t.size k) (t.extract k t.size) := by
 have := Row.drop R h
 unfold BT
 rw [Lib.ext_size, Lib.ext_list, List.map_drop]
 exact this
set_option maxHeartbeats 8000000 in
theorem wordB_any (ao : Option Addr) (t : ByteArray) (w : World) (R : BT w ao t) (h8 : 8 <= t.size) :
  Calls Tryz.prog 58 #[.slice ao t.size t.size] w fun e w' => e = .returned (.int .u64 (Lib.leNat [t.get! 0, t.get! 1, t.get! 2, t.get! 3, t.get! 4, t.get! 5, t.get! 6, t.get! 7] : Nat)) /\ ∃ q, w' = w.drewN q := by
 obtain ⟨b, o, rfl, hb, hc⟩ := R.at_ (by omega)
 obtain ⟨n, hn⟩ : ∃ n, n = t.size := ⟨_, rfl⟩
 rw [<- hn] at hc h8 ⊢
 have hs0 := hc 0 (by omega)
 have hs1 := hc 1 (by omega)
 have hs2 := hc 2 (by omega)
 have hs3 := hc 3 (by omega)
 have hs4 := hc 4 (by omega)
 have hs5 := hc 5 (by omega)
 have hs6 := hc 6 (by omega)
 have hs7 := hc 7 (by omega)
 rw [Nat.add_zero] at hs0
 obtain ⟨x0, hx0⟩ : ∃ x0, t.get! 0 = x0 := ⟨_, rfl⟩
 obtain ⟨x1, hx1⟩ : ∃ x1, t.get! 1 = x1 := ⟨_, rfl⟩
 obtain ⟨x2, hx2⟩ : ∃ x2, t.get! 2 = x2 := ⟨_, rfl⟩
 obtain ⟨x3, hx3⟩ : ∃ x3, t.get! 3 = x3 := ⟨_, rfl⟩
 obtain ⟨x4, hx4⟩ : ∃ x4, t.get! 4 = x4 := ⟨_, rfl⟩
 obtain ⟨x5, hx5⟩ : ∃ x5, t.get! 5 = x5 := ⟨_, rfl⟩
 obtain ⟨x6, hx6⟩ : ∃ x6, t.get! 6 = x6 := ⟨_, rfl⟩
 obtain ⟨x7, hx7⟩ : ∃ x7, t.get! 7 = x7 := ⟨_, rfl⟩
 rw [hx0] at hs0 ⊢
 rw [hx1] at hs1 ⊢
 rw [hx2] at hs2 ⊢
 rw [hx3] at hs3 ⊢
 rw [hx4] at hs4 ⊢
 rw [hx5] at hs5 ⊢
 rw [hx6] at hs6 ⊢
 rw [hx7] at hs7 ⊢
 have h0 : x0.toNat < 256 := x0.toNat_lt
 have h1 : x1.toNat < 256 := x1.toNat_lt
 have h2 : x2.toNat < 256 := x2.toNat_lt
 have h3 : x3.toNat < 256 := x3.toNat_lt
 have h4 : x4.toNat < 256 := x4.toNat_lt
 have h5 : x5.toNat < 256 := x5.toNat_lt
 have h6 : x6.toNat < 256 := x6.toNat_lt
 have h7 : x7.toNat < 256 := x7.toNat_lt
 have hv : ((Lib.leNat [x0, x1, x2, x3, x4, x5, x6, x7] : Nat) : Int) = (x0.toNat : Int) + (x1.toNat : Int) * 256 + (x2.toNat : Int) * 65536 + (x3.toNat : Int) * 16777216 + (x4.toNat : Int) * 4294967296 + (x5.toNat : Int) * 1099511627776 + (x6.toNat : Int) * 281474976710656 + (x7.toNat : Int) * 72057594037927936 := by
  simp only [Lib.leNat]
  push_cast
  omega
 have q0 : (0 : Int) < (n : Int) := by omega
 have q1 : (1 : Int) < (n : Int) := by omega
 have q2 : (2 : Int) < (n : Int) := by omega
 have q3 : (3 : Int) < (n : Int) := by omega
 have q4 : (4 : Int) < (n : Int) := by omega
 have q5 : (5 : Int) < (n : Int) := by omega
 have q6 : (6 : Int) < (n : Int) := by omega
 have q7 : (7 : Int) < (n : Int) := by omega
 clear hc hx0 hx1 hx2 hx3 hx4 hx5 hx6 hx7 hn R
 go_enter Tryz.func58, Tryz.ntmps58
 go_wp2
 go_quiet (fail)
 go_wp2
 go_ret
 refine ⟨?_, _, rfl⟩
 simp (disch := omega) only [u64_wrap_id, u64_or8, u64_or16, u64_or24, u64_or32, u64_or40, u64_or48, u64_or56]
 rw [hv]
 rfl
end Go.Proofs.YtbkfinjajkjhaaaGreatDoor
