import Derived.Test.YtbkfinjajkjhaaaGreatDoorG2
import Derived.Test.YtbkfinjajkjhaaaGreatDoorW13
import Derived.Test.YtbkfinjajkjhaaaGreatDoorLV6
import Derived.Test.YtbkfinjajkjhaaaGreatDoorLX24
import Derived.Test.YtbkfinjajkjhaaaGreatDoorRL14
import Derived.Test.YtbkfinjajkjhaaaGreatDoorLX5
import Derived.Shelf.LaysM
import Derived.Shelf.Strconv.Itoa4
import Derived.Shelf.Strconv.Clone
import Derived.Test.YtbkfinjajkjhaaaGreatDoorProg
set_option linter.unusedVariables false
set_option linter.unusedSimpArgs false
namespace Go.Proofs.YtbkfinjajkjhaaaGreatDoor
open Go.RowKit
def body (D : List Nat) : List Nat := if D = [] then [48] else (D.map chr).reverse
end Go.Proofs.YtbkfinjajkjhaaaGreatDoor
set_option maxRecDepth 100000
namespace Go.Proofs.YtbkfinjajkjhaaaGreatDoor
theorem dgF_fuelb {b : Nat} (hb : 2 <= b) : ∀ (f g v : Nat), v <= f -> v <= g -> dgF b f v = dgF b g v
 | 0, 0, v, _, _ => rfl
 | 0, g + 1, v, h, _ => by
  obtain rfl : v = 0 := by omega
  rfl
 | f + 1, 0, v, _, h => by
  obtain rfl : v = 0 := by omega
  rfl
 | f + 1, g + 1, v, h1, h2 => by
  unfold dgF
  by_cases h : v = 0
  ·rw [if_pos h, if_pos h]
  ·have hlt : v / b < v := Nat.div_lt_self (by omega) (by omega)
   rw [if_neg h, if_neg h, dgF_fuelb hb f g (v / b) (by omega) (by omega)]
theorem dgs_step {b v : Nat} (hb : 2 <= b) (h : v ≠ 0) : dgs b v = v % b :: dgs b (v / b) := by
 have hlt : v / b < v := Nat.div_lt_self (by omega) (by omega)
 unfold dgs
 obtain ⟨m, rfl⟩ : ∃ m, v = m + 1 := ⟨v - 1, by omega⟩
 conv => lhs; unfold dgF
 rw [if_neg (by omega), dgF_fuelb hb m ((m + 1) / b) ((m + 1) / b) (by omega) (Nat.le_refl _)]
theorem dgs_zero (b : Nat) : dgs b 0 = [] := rfl
theorem dgs_len {b : Nat} (hb : 2 <= b) : ∀ (k v : Nat), v < b ^ k -> (dgs b v).length <= k
 | 0, v, h => by
  obtain rfl : v = 0 := by simpa using h
  exact Nat.le_refl _
 | k + 1, v, h => by
  by_cases hv : v = 0
  ·subst hv; exact Nat.zero_le _
  ·rw [dgs_step hb hv, List.length_cons]
   have : v / b < b ^ k := by
    rw [Nat.div_lt_iff_lt_mul (by omega)]
    rw [Nat.pow_succ] at h
    exact h
   have := dgs_len hb k (v / b) this
   omega
theorem rad_body {b v : Nat} (hb : 2 <= b) : radL b false v = body (dgs b v) := by
 unfold radL body
 by_cases hv : v = 0
 ·subst hv; rw [if_pos rfl, if_pos (dgs_zero b)]
 ·rw [if_neg hv, if_neg (show ¬ dgs b v = [] from (dgF_ok hb v v (Nat.le_refl _)).2.2.2 hv)]; rfl
theorem rad_len {b : Nat} (hb : 2 <= b) {k v : Nat} (h : v < b ^ (k + 1)) : (radL b false v).length <= k + 1 := by
 rw [rad_body hb]
 have := dgs_len hb (k + 1) v h
 unfold body
 split
 ·simp
 ·rw [List.length_reverse, List.length_map]; exact this
theorem letB_rng' {c : Nat} (h : letB (c : Int) = true) : c <= 1114111 := by
 unfold letB at h
 simp only [Bool.and_eq_true, Bool.or_eq_true, decide_eq_true_eq] at h
 omega
def chL (n : Nat) : List Nat :=
 if n = 32 then [35, 92, 115, 112, 97, 99, 101] else if n = 10 then [35, 92, 110, 101, 119, 108, 105, 110, 101]
 else if n = 9 then [35, 92, 116, 97, 98] else if n = 13 then [35, 92, 114, 101, 116, 117, 114, 110] else if n = 0 then [35, 92, 110, 117, 108, 108]
 else if 33 <= n /\ n <= 126 then [35, 92, n] else 35 :: 92 :: 120 :: hx n
theorem hx_dg (n : Nat) : Dg 256 (hx n) := fun c hc => Nat.lt_trans (hx_low n n (Nat.le_refl _) c hc).1 (by decide)
def lbL (n c : Nat) : List Nat := 35 :: (radL 10 false n ++ [c])
end Go.Proofs.YtbkfinjajkjhaaaGreatDoor
namespace Go.Proofs.YtbkfinjajkjhaaaGreatDoor
def eN (n : Nat) : List Nat := bs (Utf8.encode (n : Int))
def qb (c : Nat) : List Nat :=
 if c = 34 \/ c = 92 then [92, c] else if c = 10 then [92, 110] else if c = 9 then [92, 116] else if c = 13 then [92, 114]
 else if c < 32 \/ c = 127 then 92 :: 120 :: (hx c ++ [59]) else [c]
def qt (l : List Nat) : List Nat := 34 :: (l.flatMap qb ++ [34])
theorem bs_enc (n : Nat) : eN n = (Utf8.encode (n : Int)).data.toList.map UInt8.toNat := by unfold eN bs; first | rfl | simp
theorem low_letB {n : Nat} (h : n < 128) : letB (n : Int) = true := by unfold letB; simp; omega
theorem eN_low {n : Nat} (h : n < 128) : eN n = [n] := by
 rw [bs_enc, enc_1 (low_letB h) h]
 simp; omega
theorem eN_high {n : Nat} (hv : letB (n : Int) = true) (h : 128 <= n) : (∀ c ∈ eN n, 128 <= c /\ c < 256) /\ eN n ≠ [] /\ (eN n).length <= 4 := by
 have hr := letB_rng hv
 rw [bs_enc]
 by_cases h2 : n < 2048
 ·rw [enc_2 hv h h2]
  refine ⟨fun c hc => ?_, by simp, by simp⟩
  simp only [List.map_cons, List.map_nil, List.mem_cons, List.not_mem_nil, or_false] at hc
  rcases hc with rfl | rfl <;>(rw [u8n (by omega)]; omega)
 by_cases h3 : n < 65536
 ·rw [enc_3 hv (by omega) h3]
  refine ⟨fun c hc => ?_, by simp, by simp⟩
  simp only [List.map_cons, List.map_nil, List.mem_cons, List.not_mem_nil, or_false] at hc
  rcases hc with rfl | rfl | rfl <;>(rw [u8n (by omega)]; omega)
 ·rw [enc_4 hv (by omega)]
  refine ⟨fun c hc => ?_, by simp, by simp⟩
  simp only [List.map_cons, List.map_nil, List.mem_cons, List.not_mem_nil, or_false] at hc
  rcases hc with rfl | rfl | rfl | rfl <;>(rw [u8n (by omega)]; omega)
theorem qb_high {c : Nat} (h : 128 <= c) : qb c = [c] := by
 unfold qb
 rw [if_neg (by omega), if_neg (by omega), if_neg (by omega), if_neg (by omega), if_neg (by omega)]
theorem qb_low {c : Nat} (h : c < 128) : ∀ x ∈ qb c, x < 128 := by
 intro x hx
 unfold qb at hx
 repeat' split at hx
 all_goals try (simp at hx; omega)
 simp only [List.mem_cons, List.mem_append, List.not_mem_nil, or_false] at hx
 rcases hx with rfl | rfl | hx | rfl
 ·decide
 ·decide
 ·exact (hx_low c c (Nat.le_refl _) x hx).1
 ·decide
theorem qb_len {c : Nat} (h : c < 128) : 1 <= (qb c).length /\ (qb c).length <= 5 := by
 have h2 := hx_len 1 c (by omega)
 unfold qb
 repeat' split
 all_goals first
  | (simp; done)
  | (simp only [List.length_cons, List.length_append, List.length_nil]; omega)
end Go.Proofs.YtbkfinjajkjhaaaGreatDoor
namespace Go.Proofs.YtbkfinjajkjhaaaGreatDoor
def chS (n : Int) : List Nat := if letB n = true then chL n.toNat else []
def lbS (n : Int) (c : Nat) : List Nat := if 0 <= n /\ n <= 999999999 then lbL n.toNat c else []
def blS (n : Int) : List Nat := if n = 0 then [35, 102] else if n = 1 then [35, 116] else []
def spM (k b : Int) (t : ByteArray) : List Nat :=
 if k = 1 then [40] else if k = 2 then [41] else if k = 3 then [35, 40] else if k = 4 then [35, 117, 56, 40] else if k = 6 then [46] else if k = 7 then [35, 59]
 else if k = 8 then lbS b 61 else if k = 9 then lbS b 35 else if k = 10 then blS b else if k = 12 then chS b else if k = 13 then qt (bs t)
 else if k = 5 \/ k = 11 \/ k = 14 then bs t else []
theorem dec_letB {r : List Nat} (hd : Dg 256 r) : letB ((decN r).1 : Int) = true := by
 have h0 : r.getD 0 0 < 256 := by
  rw [List.getD_eq_getElem?_getD]
  cases h : r[0]? with
  | none => decide
  | some x => exact hd x (List.mem_of_getElem? h)
 have := Lib.decodeN_valid r.length (r.getD 0 0) (r.getD 1 0) (r.getD 2 0) (r.getD 3 0) h0
 unfold decN letB
 simp only [Bool.and_eq_true, Bool.or_eq_true, decide_eq_true_eq]
 omega
end Go.Proofs.YtbkfinjajkjhaaaGreatDoor
namespace Go.Proofs
open Go.Shelf
def Tryz.laysM173_ren : Go.Shelf.Ren := ⟨fun | 173 => 73 | 246 => 94 | 283 => 115 | 284 => 116 | 285 => 117 | 286 => 118 | 129 => 136 | 317 => 135 | 318 => 137 | 319 => 138 | 320 => 139 | 337 => 153 | 338 => 154 | n => n, fun | 2 => 2 | 3 => 3 | 9 => 9 | 4 => 4 | 171 => 122 | 0 => 0 | 53 => 82 | 37 => 22 | 5 => 5 | 173 => 125 | 212 => 142 | 51 => 97 | 20 => 20 | 213 => 143 | 46 => 80 | 232 => 161 | 233 => 162 | n => n, fun | 17 => 4 | 18 => 8 | 19 => 9 | n => n⟩
theorem Tryz.laysM173 : Go.Proofs.LaysM.n173 Tryz.prog Tryz.laysM173_ren := {
 mixed := by kernel_rfl
 f129 := Tryz.func136.trans (congrArg some (by kernel_rfl))
 f173 := Tryz.func73.trans (congrArg some (by kernel_rfl))
 f246 := Tryz.func94.trans (congrArg some (by kernel_rfl))
 f283 := Tryz.func115.trans (congrArg some (by kernel_rfl))
 f284 := Tryz.func116.trans (congrArg some (by kernel_rfl))
 f285 := Tryz.func117.trans (congrArg some (by kernel_rfl))
 f286 := Tryz.func118.trans (congrArg some (by kernel_rfl))
 f317 := Tryz.func135.trans (congrArg some (by kernel_rfl))
 f318 := Tryz.func137.trans (congrArg some (by kernel_rfl))
 f319 := Tryz.func138.trans (congrArg some (by kernel_rfl))
 f320 := Tryz.func139.trans (congrArg some (by kernel_rfl))
 f337 := Tryz.func153.trans (congrArg some (by kernel_rfl))
 f338 := Tryz.func154.trans (congrArg some (by kernel_rfl))
 t0 := Tryz.underlying0
 a0 := Tryz.isAgg0
 z0 := Tryz.sizeOf0
 v0 := Tryz.zeroValue0
 t2 := Tryz.underlying2
 a2 := Tryz.isAgg2
 z2 := Tryz.sizeOf2
 v2 := Tryz.zeroValue2
 t3 := Tryz.underlying3
 a3 := Tryz.isAgg3
 z3 := Tryz.sizeOf3
 v3 := Tryz.zeroValue3
 t4 := Tryz.underlying4
 a4 := Tryz.isAgg4
 z4 := Tryz.sizeOf4
 v4 := Tryz.zeroValue4
 t5 := Tryz.underlying5
 a5 := Tryz.isAgg5
 z5 := Tryz.sizeOf5
 v5 := Tryz.zeroValue5
 t9 := Tryz.underlying9
 a9 := Tryz.isAgg9
 z9 := Tryz.sizeOf9
 v9 := Tryz.zeroValue9
 t20 := Tryz.underlying20
 a20 := Tryz.isAgg20
 z20 := Tryz.sizeOf20
 v20 := Tryz.zeroValue20
 t37 := Tryz.underlying22
 a37 := Tryz.isAgg22
 z37 := Tryz.sizeOf22
 v37 := Tryz.zeroValue22
 t46 := Tryz.underlying80
 a46 := Tryz.isAgg80
 z46 := Tryz.sizeOf80
 v46 := Tryz.zeroValue80
 t51 := Tryz.underlying97
 a51 := Tryz.isAgg97
 z51 := Tryz.sizeOf97
 v51 := Tryz.zeroValue97
 t53 := Tryz.underlying82
 a53 := Tryz.isAgg82
 z53 := Tryz.sizeOf82
 v53 := Tryz.zeroValue82
 t171 := Tryz.underlying122
 a171 := Tryz.isAgg122
 z171 := Tryz.sizeOf122
 v171 := Tryz.zeroValue122
 t173 := Tryz.underlying125
 a173 := Tryz.isAgg125
 z173 := Tryz.sizeOf125
 v173 := Tryz.zeroValue125
 t212 := Tryz.underlying142
 a212 := Tryz.isAgg142
 z212 := Tryz.sizeOf142
 v212 := Tryz.zeroValue142
 t213 := Tryz.underlying143
 a213 := Tryz.isAgg143
 z213 := Tryz.sizeOf143
 t232 := Tryz.underlying161
 a232 := Tryz.isAgg161
 z232 := Tryz.sizeOf161
 v232 := Tryz.zeroValue161
 t233 := Tryz.underlying162
 a233 := Tryz.isAgg162
 z233 := Tryz.sizeOf162
 v233 := Tryz.zeroValue162
 g17 := by kernel_rfl
 g18 := by kernel_rfl
 g19 := by kernel_rfl
 i0 := by kernel_rfl
 i2 := by kernel_rfl
 i3 := by kernel_rfl
 i4 := by kernel_rfl
 i5 := by kernel_rfl
 i9 := by kernel_rfl
 i20 := by kernel_rfl
 i37 := by kernel_rfl
 i46 := by kernel_rfl
 i51 := by kernel_rfl
 i53 := by kernel_rfl
 i171 := by kernel_rfl
 i173 := by kernel_rfl
 i212 := by kernel_rfl
 i232 := by kernel_rfl
 i233 := by kernel_rfl
 m17 := by kernel_rfl
 m18 := by kernel_rfl
 m19 := by kernel_rfl }
end Go.Proofs
namespace Go.Proofs.YtbkfinjajkjhaaaGreatDoor
open Go.RowKit
def PowT (w : World) : Prop := Lib.TabIs Tryz.prog w "internal/strconv.uint64pow10" .u64 Lib.pow10Tab
theorem PowT.below {w w' : World} (h : PowT w) (hb : Below w.heap.size w w') : PowT w' := by
 unfold PowT at *
 cases hg : Tryz.prog.globalNamed "internal/strconv.uint64pow10" with
 | none =>
  unfold Lib.TabIs World.var? at h
  rw [hg] at h
  cases h
 | some g => exact Joins.tab_stays hg h hb (Nat.le_refl _)
theorem dec_rad : ∀ v : Nat, (Lib.decDigits v).map UInt8.toNat = radL 10 false v := by
 intro v
 induction v using Nat.strongRecOn with
 | _ v ih =>
  by_cases h : v < 10
  ·rw [Lib.decDigits_one h]
   have : ∀ k : Fin 10, [UInt8.ofNat (48 + k.val)].map UInt8.toNat = radL 10 false k.val := by decide
   exact this ⟨v, h⟩
  ·have e : radL 10 false v = radL 10 false (v / 10) ++ [chr (v % 10)] := by
    rw [rad_body (by omega), rad_body (by omega), dgs_step (by omega) (show v ≠ 0 by omega)]
    have hne : dgs 10 (v / 10) ≠ [] := by rw [dgs_step (by omega) (by omega)]; exact List.cons_ne_nil _ _
    unfold body
    rw [if_neg (List.cons_ne_nil _ _), if_neg hne]
    simp
   rw [Lib.decDigits, dif_neg h, List.map_append, ih (v / 10) (by omega), e]
   congr 1
   have hc : chr (v % 10) = 48 + v % 10 := by unfold chr; rw [if_pos (by omega)]
   rw [hc]
   simp
   omega
theorem itoa_rad (n : Nat) : (⟨(Lib.itoa (n : Int)).toArray⟩ : ByteArray) = bstr (radL 10 false n) := by
 have h : Lib.itoa (n : Int) = Lib.decDigits n := by unfold Lib.itoa; rw [if_neg (by omega)]; rfl
 rw [h, <- dec_rad]
 unfold bstr
 rw [List.map_map]
 have : (UInt8.ofNat ∘ UInt8.toNat) = id := by funext u; simp
 rw [this, List.map_id]
theorem belowGrow (w : World) (k : Nat) (os : Array Obj) : Below w.heap.size w (Sort.grow (w.drewN k) os) := by
 refine ⟨rfl, rfl, rfl, ?_, fun b hb => ?_⟩
 ·simp [Sort.grow, World.drewN]
 ·simp [Sort.grow, World.drewN]
  rw [Array.getElem?_append_left hb]
theorem intFormat10_any (n : Nat) (hn : n <= 999999999) (w : World) (hT : PowT w) : Calls Tryz.prog 94 #[.int .i64 (n : Int), .int .i64 10] w fun e w' => e = .returned (.string (bstr (radL 10 false n))) /\ Below w.heap.size w w' := by
 refine (Any.internal_strconv_FormatInt_10 (P := Tryz.prog) { Tryz.laysM173 with } (n : Int) (by omega) (by omega) w hT).mono ?_
 rintro e w' ⟨rfl, k, os, rfl⟩
 rw [itoa_rad]
 exact ⟨rfl, belowGrow w k os⟩
theorem intItoa_any (n : Nat) (hn : n <= 999999999) (w : World) (hT : PowT w) : Calls Tryz.prog 72 #[.int .i64 (n : Int)] w fun e w' => e = .returned (.string (bstr (radL 10 false n))) /\ Below w.heap.size w w' := by
 have C := hid (intFormat10_any n hn w hT)
 clear hT hn
 go_enter Tryz.func72, Tryz.ntmps72
 go_wp2_with (go_at_call 94; with_reducible refine C.out.mono ?_; rintro e wa ⟨rfl, ba⟩; have HB := hid ba; clear ba)
 go_ret
 exact ⟨rfl, HB.out⟩
theorem strItoa_any (n : Nat) (hn : n <= 999999999) (w : World) (hT : PowT w) : Calls Tryz.prog 45 #[.int .i64 (n : Int)] w fun e w' => e = .returned (.string (bstr (radL 10 false n))) /\ Below w.heap.size w w' := by
 have C := hid (intItoa_any n hn w hT)
 clear hT hn
 go_enter Tryz.func45, Tryz.ntmps45
 go_wp2_with (go_at_call 72; with_reducible refine C.out.mono ?_; rintro e wa ⟨rfl, ba⟩; have HB := hid ba; clear ba)
 go_ret
 exact ⟨rfl, HB.out⟩
def escL (c : Nat) : List Nat :=
 if c = 34 \/ c = 92 then [92, c] else if c = 10 then [92, 110] else if c = 9 then [92, 116] else if c = 13 then [92, 114]
 else if c < 32 \/ c = 127 then 92 :: 120 :: (hx c ++ [59]) else []
theorem bstr_app (a b : List Nat) : bstr a ++ bstr b = bstr (a ++ b) := by
 apply ByteArray.ext
 unfold bstr
 simp
set_option maxHeartbeats 4000000 in
theorem escape_any (r : Nat) (w : World) (hr : r <= 1114111) (hD : DbT w) : Calls Tryz.prog 49 #[.int .i32 (r : Int)] w fun e w' => e = .returned (.string (bstr (escL r))) /\ Below w.heap.size w w' := by
 by_cases c1 : r = 34
 ·subst c1
  clear hD hr
  go_enter Tryz.func49, Tryz.ntmps49
  go_wp2
  go_ret
  exact ⟨rfl, Below.refl _ _⟩
 by_cases c2 : r = 92
 ·subst c2
  clear hD hr
  go_enter Tryz.func49, Tryz.ntmps49
  go_wp2
  go_ret
  exact ⟨rfl, Below.refl _ _⟩
 by_cases c3 : r = 10
 ·subst c3
  clear hD hr
  go_enter Tryz.func49, Tryz.ntmps49
  go_wp2
  go_ret
  exact ⟨rfl, Below.refl _ _⟩
 by_cases c4 : r = 9
 ·subst c4
  clear hD hr
  go_enter Tryz.func49, Tryz.ntmps49
  go_wp2
  go_ret
  exact ⟨rfl, Below.refl _ _⟩
 by_cases c5 : r = 13
 ·subst c5
  clear hD hr
  go_enter Tryz.func49, Tryz.ntmps49
  go_wp2
  go_ret
  exact ⟨rfl, Below.refl _ _⟩
 have t1 : ((r : Int) == 34) = false := by simp; omega
 have t2 : ((r : Int) == 92) = false := by simp; omega
 have t3 : ((r : Int) == 10) = false := by simp; omega
 have t4 : ((r : Int) == 9) = false := by simp; omega
 have t5 : ((r : Int) == 13) = false := by simp; omega
 have C := hid (fun h => hexOf_any r w (by omega : r < 16777216) h)
 have e0 : escL r = if r < 32 \/ r = 127 then 92 :: 120 :: (hx r ++ [59]) else [] := by
  unfold escL; rw [if_neg (by omega), if_neg c3, if_neg c4, if_neg c5]
 have hx6 := hx_len 5 r (by omega)
 obtain ⟨S, hS⟩ : ∃ S, S = bstr (hx r) := ⟨_, rfl⟩
 have hSz : S.size <= 6 := by rw [hS, bstr_size]; exact hx6
 rw [<- hS] at C
 have l1 : ¬ 9223372036854775807 < 2 + S.size := by omega
 have l2 : ¬ 9223372036854775807 < 2 + S.size + 1 := by omega
 by_cases c6 : r < 32
 ·have e1 : Hid (bstr (escL r) = (⟨#[92, 120]⟩ : ByteArray) ++ S ++ ⟨#[59]⟩) := by
   unfold Hid
   rw [e0, if_pos (.inl c6), hS, show (⟨#[92, 120]⟩ : ByteArray) = bstr [92, 120] from rfl, show (⟨#[59]⟩ : ByteArray) = bstr [59] from rfl, bstr_app, bstr_app]; rfl
  have q1 : (r : Int) < 32 := by omega
  have C2 := hid (C.out hD)
  rw [e1.out]
  clear c1 c2 c3 c4 c5 e0 hx6 hS hSz c6 C hD hr
  go_enter Tryz.func49, Tryz.ntmps49
  go_wp2_with (go_at_call 47; with_reducible refine C2.out.mono ?_; rintro e wa ⟨rfl, ba⟩; have HB := hid ba; clear ba)
  go_ret
  exact ⟨rfl, HB.out⟩
 have q1 : ¬ (r : Int) < 32 := by omega
 by_cases c7 : r = 127
 ·have e1 : Hid (bstr (escL r) = (⟨#[92, 120]⟩ : ByteArray) ++ S ++ ⟨#[59]⟩) := by
   unfold Hid
   rw [e0, if_pos (.inr c7), hS, show (⟨#[92, 120]⟩ : ByteArray) = bstr [92, 120] from rfl, show (⟨#[59]⟩ : ByteArray) = bstr [59] from rfl, bstr_app, bstr_app]; rfl
  have q2 : ((r : Int) == 127) = true := by simp; omega
  have C2 := hid (C.out hD)
  rw [e1.out]
  clear c1 c2 c3 c4 c5 e0 hx6 hS hSz c6 c7 C hD hr
  go_enter Tryz.func49, Tryz.ntmps49
  go_wp2_with (go_at_call 47; with_reducible refine C2.out.mono ?_; rintro e wa ⟨rfl, ba⟩; have HB := hid ba; clear ba)
  go_ret
  exact ⟨rfl, HB.out⟩
 ·have e1 : Hid (escL r = []) := by unfold Hid; rw [e0, if_neg (by omega)]
  have q2 : ((r : Int) == 127) = false := by simp; omega
  rw [e1.out]
  clear c1 c2 c3 c4 c5 e0 hx6 hS hSz c6 c7 C hD hr l1 l2
  go_enter Tryz.func49, Tryz.ntmps49
  go_wp2_with fail
  go_ret
  exact ⟨rfl, Below.refl _ _⟩
theorem spellBool_any (n : Int) (w : World) : Calls Tryz.prog 26 #[.int .i64 n] w fun e w' => e = .returned (.string (bstr (blS n))) /\ Below w.heap.size w w' := by
 by_cases c1 : n = 0
 ·subst c1
  go_enter Tryz.func26, Tryz.ntmps26
  go_wp2
  go_ret
  exact ⟨rfl, Below.refl _ _⟩
 by_cases c2 : n = 1
 ·subst c2
  go_enter Tryz.func26, Tryz.ntmps26
  go_wp2
  go_ret
  exact ⟨rfl, Below.refl _ _⟩
 have t1 : (n == 0) = false := by simp; exact c1
 have t2 : (n == 1) = false := by simp; exact c2
 have e1 : Hid (blS n = []) := by unfold Hid blS; rw [if_neg c1, if_neg c2]
 rw [e1.out]
 clear c1 c2
 go_enter Tryz.func26, Tryz.ntmps26
 go_wp2_with fail
 go_ret
 exact ⟨rfl, Below.refl _ _⟩
theorem spellLabel_any (n : Int) (c : Nat) (m : ByteArray) (w : World) (hm : m = bstr [c]) (hP : PowT w) : Calls Tryz.prog 25 #[.int .i64 n, .string m] w fun e w' => e = .returned (.string (bstr (lbS n c))) /\ Below w.heap.size w w' := by
 by_cases c1 : n < 0
 ·have e1 : Hid (lbS n c = []) := by unfold Hid lbS; rw [if_neg (by omega)]
  rw [e1.out]
  clear hP hm
  go_enter Tryz.func25, Tryz.ntmps25
  go_wp2_with fail
  go_ret
  exact ⟨rfl, Below.refl _ _⟩
 by_cases c2 : 999999999 < n
 ·have e1 : Hid (lbS n c = []) := by unfold Hid lbS; rw [if_neg (by omega)]
  rw [e1.out]
  clear hP hm
  go_enter Tryz.func25, Tryz.ntmps25
  go_wp2_with fail
  go_ret
  exact ⟨rfl, Below.refl _ _⟩
 obtain ⟨k, rfl⟩ : ∃ k : Nat, n = (k : Int) := ⟨n.toNat, by omega⟩
 have C := hid (strItoa_any k (by omega) w hP)
 have hl := rad_len (b := 10) (by omega) (k := 8) (v := k) (by omega)
 obtain ⟨S, hS⟩ : ∃ S, S = bstr (radL 10 false k) := ⟨_, rfl⟩
 have hSz : S.size <= 9 := by rw [hS, bstr_size]; exact hl
 have hmz : m.size = 1 := by rw [hm, bstr_size]; rfl
 rw [<- hS] at C
 have e1 : Hid (bstr (lbS (k : Int) c) = (⟨#[35]⟩ : ByteArray) ++ S ++ m) := by
  unfold Hid lbS lbL
  rw [if_pos (by omega), Int.toNat_natCast, hS, hm, show (⟨#[35]⟩ : ByteArray) = bstr [35] from rfl, bstr_app, bstr_app]; rfl
 have l1 : ¬ 9223372036854775807 < 1 + S.size := by omega
 have l2 : ¬ 9223372036854775807 < 1 + S.size + m.size := by omega
 rw [e1.out]
 clear hP hm hS hSz hmz hl
 go_enter Tryz.func25, Tryz.ntmps25
 go_wp2_with (go_at_call 45; with_reducible refine C.out.mono ?_; rintro e wa ⟨rfl, ba⟩; have HB := hid ba; clear ba)
 go_ret
 exact ⟨rfl, HB.out⟩
end Go.Proofs.YtbkfinjajkjhaaaGreatDoor
