import Derived.Test.YtbkfinjajkjhaaaGreatDoorLX5
import Derived.Test.YtbkfinjajkjhaaaGreatDoorW42
import Derived.Test.YtbkfinjajkjhaaaGreatDoorRL10
import Derived.Lib.SmallJoins
set_option linter.unusedVariables false
set_option linter.unusedSimpArgs false
set_option maxRecDepth 100000
namespace Go.Proofs.YtbkfinjajkjhaaaGreatDoor
open Go.RowKit
theorem indexAny_dlm (ao : Option Addr) (n cap : Nat) (l : List Nat) (w : World) (R : BRow w ao n cap l) (hT : LTabs w) : Calls Tryz.prog 97 #[.slice ao n cap, .string dlmS] w fun e w' => e = .returned (.int .i64 (anyI l)) /\ Below w.heap.size w w' := by
 by_cases h1 : n = 1
 ·subst h1; exact indexAny_one ao cap l w R
 ·by_cases h8 : 8 < n
  ·exact indexAny_long ao n cap l w R h8
  ·exact indexAny_short ao n cap l w R (by omega) h1 hT
def lineS : ByteArray := ⟨#[10]⟩
def lineI (l : List Nat) : Int := if lineN l < l.length then (lineN l : Int) else -1
theorem lineI_is : ∀ l : List Nat, Dg 256 l -> Lib.indexByte (Lib.bytesOf (l.map (fun (x : Nat) => (x : Int)))) 10 = lineI l
 | [], _ => rfl
 | c :: l, h => by
  have ih := lineI_is l (fun x hx => h x (.tail _ hx))
  have hc : c < 256 := h c (.head _)
  show (if UInt8.ofNat ((c : Int)).toNat == 10 then 0 else if Lib.indexByte (Lib.bytesOf (l.map (fun (x : Nat) => (x : Int)))) 10 == -1 then -1 else Lib.indexByte (Lib.bytesOf (l.map (fun (x : Nat) => (x : Int)))) 10 + 1) = lineI (c :: l)
  rw [ih, Int.toNat_natCast]
  have hle := lineN_le l
  by_cases h10 : c = 10
  ·subst h10
   rfl
  ·have e1 : (UInt8.ofNat c == 10) = false := by
    rw [beq_eq_false_iff_ne]; intro e
    have := congrArg UInt8.toNat e
    rw [UInt8.toNat_ofNat'] at this
    have h3 : (10 : UInt8).toNat = 10 := rfl
    omega
   have e2 : lineN (c :: l) = lineN l + 1 := by show (if c = 10 then 0 else lineN l + 1) = lineN l + 1; rw [if_neg h10]
   have e3 : lineI (c :: l) = if lineN l + 1 < l.length + 1 then ((lineN l + 1 : Nat) : Int) else -1 := by unfold lineI; rw [e2, List.length_cons]
   rw [e1, e3]
   by_cases hlt : lineN l < l.length
   ·have e4 : lineI l = (lineN l : Int) := if_pos hlt
    have : ((lineN l : Int) == -1) = false := by simp
    rw [e4, if_pos (show lineN l + 1 < l.length + 1 by omega)]
    simp only [this, Bool.false_eq_true, if_false]
    omega
   ·have e4 : lineI l = -1 := if_neg hlt
    rw [e4, if_neg (show ¬ lineN l + 1 < l.length + 1 by omega)]; rfl
theorem indexByte_row (ao : Option Addr) (n cap : Nat) (l : List Nat) (w : World) (R : BRow w ao n cap l) (hn : 0 < n) : Calls Tryz.prog 140 #[.slice ao n cap, .int .u8 10] w fun e w' => e = .returned (.int .i64 (lineI l)) /\ w' = w := by
 obtain ⟨b, o, rfl, hb, hc⟩ := R.rd.some (by rw [R.len]; exact hn)
 have h := Any.bytes_IndexByte Tryz.lays187 b o n cap (l.map (fun (x : Nat) => (x : Int))) 10 w (by rw [List.length_map]; exact R.len) (fun i hi => by
  rw [hc i (by rw [R.len]; exact hi), List.getD_eq_getElem?_getD, List.getD_eq_getElem?_getD, List.getElem?_map, List.getElem?_eq_getElem (by rw [R.len]; exact hi)]; rfl)
 rw [show (10 : Int).toNat.toUInt8 = 10 from rfl, lineI_is l R.dg] at h
 exact h
theorem indexRune_line (ao : Option Addr) (n cap : Nat) (l : List Nat) (w : World) (R : BRow w ao n cap l) (hn : 0 < n) : Calls Tryz.prog 120 #[.slice ao n cap, .int .i32 10] w fun e w' => e = .returned (.int .i64 (lineI l)) /\ w' = w := by
 have C := hid (indexByte_row ao n cap l w R hn)
 clear R
 go_enter Tryz.func120, Tryz.ntmps120
 go_wp2_with (go_at_call 140; with_reducible refine C.out.mono ?_; rintro e wa ⟨rfl, rfl⟩)
 go_ret
 exact ⟨rfl, rfl⟩
set_option maxHeartbeats 4000000 in
theorem indexAny_line (ao : Option Addr) (n cap : Nat) (l : List Nat) (w : World) (R : BRow w ao n cap l) (hn : 0 < n) : Calls Tryz.prog 97 #[.slice ao n cap, .string lineS] w fun e w' => e = .returned (.int .i64 (lineI l)) /\ Below w.heap.size w w' := by
 have hs0 : (lineS.toList == []) = false := by rw [test_str]; exact decide_eq_false (by show ¬ bs lineS = []; rw [show bs lineS = [10] from rfl]; simp)
 have hem : lineS.toList.isEmpty = false := by rw [show lineS.toList.isEmpty = (lineS.toList == []) by cases lineS.toList <;> rfl]; exact hs0
 have e119 := fun (c : Nat) W => ext_index lineS c W
 have hidx : ∀ c : Nat, c < 256 -> Lib.indexByte lineS.data.toList (UInt8.ofNat c) = if c = 10 then 0 else -1 := fun c hc => by
  show (if (10 : UInt8) == UInt8.ofNat c then (0 : Int) else if (-1 : Int) == -1 then -1 else -1 + 1) = _
  by_cases h : c = 10
  ·subst h; rfl
  ·have e1 : ((10 : UInt8) == UInt8.ofNat c) = false := by
    rw [beq_eq_false_iff_ne]; intro e
    have := congrArg UInt8.toNat e
    rw [UInt8.toNat_ofNat'] at this
    have h3 : (10 : UInt8).toNat = 10 := rfl
    omega
   rw [e1, if_neg h]; rfl
 obtain ⟨A, hA⟩ : ∃ A, A = lineI l := ⟨_, rfl⟩
 have hS0 : lineS[0]'(by decide) = 10 := rfl
 have h10 : ((lineS[0]'(by decide)).toNat : Int) = 10 := rfl
 by_cases h1 : n = 1
 ·subst h1
  obtain ⟨b, o, rfl, hb, hc⟩ := R.rd.some (by rw [R.len]; omega)
  have hc0 := hc 0 (by rw [R.len]; omega)
  obtain ⟨c, hcc⟩ : ∃ c, c = l.getD 0 0 := ⟨_, rfl⟩
  have hl : l = [c] := by
   have h1 := R.len
   match l, h1 with
   | [a], _ => simp at hcc; rw [hcc]
  have hlt : c < 256 := R.dg c (by rw [hl]; simp)
  rw [<- hcc, Nat.add_zero] at hc0
  have he := fun W => e119 c W
  rw [hidx c hlt] at he
  rw [<- hA]
  have hA2 : A = if c = 10 then 0 else -1 := by rw [hA, hl]; unfold lineI lineN; by_cases h : c = 10 <;> simp [h, lineN]
  have hnx0 := fun (W : World) (ty : TypeId) => run_next_ascii (P := Tryz.prog) W lineS 0 ty (by decide) (by decide)
  have hnx1 := fun (W : World) (ty : TypeId) => run_next_end (P := Tryz.prog) W lineS 1 ty (by decide)
  rw [hS0] at hnx0
  obtain ⟨S, hS⟩ : ∃ S, lineS = S := ⟨_, rfl⟩
  have hSz : S.size = 1 := by rw [<- hS]; rfl
  rw [hS] at he hs0 hem hnx0 hnx1 ⊢
  clear hc R hcc hl hA e119 hidx hS0 h10 hS
  by_cases h128 : 128 <= c
  ·have h128' : (128 : Int) <= (c : Int) := by omega
   rw [if_neg (by omega)] at hA2
   have HA := hid hA2
   clear hA2 he
   go_enter Tryz.func97, Tryz.ntmps97
   go_wp2_with fail
   go_loopg [5] 1 (fun g v5 wx => ∃ (r : Int) (p : Nat), v5 = .int .i32 r /\ p <= 1 /\ g = 1 - p /\ wx = w.iter S p)
   case atStart => exact ⟨c, 0, rfl, Nat.zero_le _, rfl, rfl⟩
   case round =>
    obtain ⟨r, p, rfl, hp, rfl, rfl⟩ := hrel
    by_cases hlt : p = 0
    ·subst hlt
     have hnx := fun ty => hnx0 w ty
     clear hnx0 hnx1
     go_wp2_with fail
     go_roundg 0
     case measure => omega
     case rel => exact ⟨10, 1, rfl, by omega, rfl, rfl⟩
    ·obtain rfl : p = 1 := by omega
     have hnx := fun ty => hnx1 w ty
     clear hnx0 hnx1
     go_wp2_with fail
     go_ret
     exact ⟨by rw [HA.out]; rfl, Ba w _⟩
  ·have h128' : ¬ (128 : Int) <= (c : Int) := by omega
   obtain ⟨k, hk⟩ : ∃ k : Int, k = if c = 10 then 0 else -1 := ⟨_, rfl⟩
   rw [<- hk] at he hA2
   have HA := hid hA2
   have hk2 : k = 0 \/ k = -1 := by rw [hk]; split <;> simp
   clear hA2 hnx0 hnx1 hk
   rcases hk2 with rfl | rfl
   ·go_enter Tryz.func97, Tryz.ntmps97
    go_wp2_with fail
    go_ret
    exact ⟨by rw [HA.out]; rfl, Below.refl _ _⟩
   ·go_enter Tryz.func97, Tryz.ntmps97
    go_wp2_with fail
    go_ret
    exact ⟨by rw [HA.out]; rfl, Below.refl _ _⟩
 ·have C := hid (indexRune_line ao n cap l w R hn)
  have n1 : ((n : Int) == 1) = false := by simp; omega
  obtain ⟨S, hS⟩ : ∃ S, lineS = S := ⟨_, rfl⟩
  have hSz : S.size = 1 := by rw [<- hS]; rfl
  have hS1 : S[0]'(by omega) = 10 := by subst hS; rfl
  rw [hS] at hs0 hem ⊢
  clear R e119 hidx hS0 h10 hS hA
  go_enter Tryz.func97, Tryz.ntmps97
  go_wp2_with (go_at_call 120; with_reducible refine C.out.mono ?_; rintro e wa ⟨rfl, rfl⟩)
  go_ret
  exact ⟨rfl, Below.refl _ _⟩
set_option maxHeartbeats 2000000 in
theorem sizeTo_dlm (ao : Option Addr) (n cap : Nat) (l : List Nat) (w : World) (R : BRow w ao n cap l) (hT : LTabs w) : Calls Tryz.prog 77 #[.slice ao n cap, .string dlmS] w fun e w' => e = .returned (.int .i64 (wordN l : Nat)) /\ Below w.heap.size w w' := by
 have C := hid (indexAny_dlm ao n cap l w R hT)
 have hle := wordN_le l
 rw [R.len] at hle
 unfold anyI at C
 rw [R.len] at C
 obtain ⟨S, hS⟩ : ∃ S, dlmS = S := ⟨_, rfl⟩
 rw [hS] at C ⊢
 obtain ⟨k, hk⟩ : ∃ k, k = wordN l := ⟨_, rfl⟩
 rw [<- hk] at C hle ⊢
 clear R hS hk
 by_cases h : k < n
 ·rw [if_pos h] at C
  have k0 : (0 : Int) <= (k : Int) := by omega
  clear h hle
  go_enter Tryz.func77, Tryz.ntmps77
  go_wp2_with (go_at_call 97; with_reducible refine C.out.mono ?_; rintro e wa ⟨rfl, ba⟩; have HB := hid ba; clear ba)
  go_ret
  exact ⟨rfl, HB.out⟩
 ·rw [if_neg h] at C
  obtain rfl : n = k := by omega
  go_enter Tryz.func77, Tryz.ntmps77
  go_wp2_with (go_at_call 97; with_reducible refine C.out.mono ?_; rintro e wa ⟨rfl, ba⟩; have HB := hid ba; clear ba)
  go_ret
  exact ⟨rfl, HB.out⟩
set_option maxHeartbeats 2000000 in
theorem sizeTo_line (ao : Option Addr) (n cap : Nat) (l : List Nat) (w : World) (R : BRow w ao n cap l) (hn : 0 < n) : Calls Tryz.prog 77 #[.slice ao n cap, .string lineS] w fun e w' => e = .returned (.int .i64 (lineN l : Nat)) /\ Below w.heap.size w w' := by
 have C := hid (indexAny_line ao n cap l w R hn)
 have hle := lineN_le l
 rw [R.len] at hle
 unfold lineI at C
 rw [R.len] at C
 obtain ⟨S, hS⟩ : ∃ S, lineS = S := ⟨_, rfl⟩
 rw [hS] at C ⊢
 obtain ⟨k, hk⟩ : ∃ k, k = lineN l := ⟨_, rfl⟩
 rw [<- hk] at C hle ⊢
 clear R hS hk
 by_cases h : k < n
 ·rw [if_pos h] at C
  have k0 : (0 : Int) <= (k : Int) := by omega
  clear h hle
  go_enter Tryz.func77, Tryz.ntmps77
  go_wp2_with (go_at_call 97; with_reducible refine C.out.mono ?_; rintro e wa ⟨rfl, ba⟩; have HB := hid ba; clear ba)
  go_ret
  exact ⟨rfl, HB.out⟩
 ·rw [if_neg h] at C
  obtain rfl : n = k := by omega
  go_enter Tryz.func77, Tryz.ntmps77
  go_wp2_with (go_at_call 97; with_reducible refine C.out.mono ?_; rintro e wa ⟨rfl, ba⟩; have HB := hid ba; clear ba)
  go_ret
  exact ⟨rfl, HB.out⟩
theorem wordSize_any (ao : Option Addr) (n cap : Nat) (l : List Nat) (w : World) (R : BRow w ao n cap l) (hT : LTabs w) : Calls Tryz.prog 86 #[.slice ao n cap] w fun e w' => e = .returned (.int .i64 (wordN l : Nat)) /\ Below w.heap.size w w' := by
 have C : Hid (Calls Tryz.prog 77 #[.slice ao n cap, .string ⟨#[32, 9, 10, 13, 40, 41, 34, 59]⟩] w fun e w' => e = .returned (.int .i64 (wordN l : Nat)) /\ Below w.heap.size w w') := sizeTo_dlm ao n cap l w R hT
 clear R hT
 go_enter Tryz.func86, Tryz.ntmps86
 go_wp2_with (go_at_call 77; with_reducible refine C.out.mono ?_; rintro e wa ⟨rfl, ba⟩; have HB := hid ba; clear ba)
 go_ret
 exact ⟨rfl, HB.out⟩
def gapN (l : List Nat) : Nat := if l = [] then 0 else if blkB (l.getD 0 0) then 1 else if l.getD 0 0 = 59 then lineN l else if hasB l [35, 124] then rm l 0 0 else 0
theorem take_two {l : List Nat} {a b k : Nat} : (l.drop k).take 2 = [a, b] ↔ (k + 2 <= l.length /\ l.getD k 0 = a /\ l.getD (k + 1) 0 = b) := by
 by_cases h1 : k < l.length
 ·rw [dropN_cons h1]
  by_cases h2 : k + 1 < l.length
  ·rw [dropN_cons h2]
   simp only [List.take_succ_cons, List.take_zero]
   constructor
   ·intro h; injection h with h1 h2; injection h2 with h2; exact ⟨by omega, h1, h2⟩
   ·rintro ⟨_, h1, h2⟩; rw [h1, h2]
  ·rw [List.drop_eq_nil_of_le (by omega)]
   simp only [List.take_succ_cons, List.take_nil]
   constructor
   ·intro h; injection h with h1 h2; cases h2
   ·rintro ⟨h, _⟩; omega
 ·rw [List.drop_eq_nil_of_le (by omega)]
  constructor
  ·intro h; cases h
  ·rintro ⟨h, _⟩; omega
theorem hasB_two {l : List Nat} {a b k : Nat} : hasB (l.drop k) [a, b] = decide (k + 2 <= l.length /\ l.getD k 0 = a /\ l.getD (k + 1) 0 = b) := by
 unfold hasB
 exact decide_eq_decide.2 take_two
theorem rm_rem : ∀ (f : Nat) (l : List Nat) (d k : Nat), l.length - k <= f -> 1 <= d -> rm l d k = (remL l k d).getD 0
 | f, l, d, k, hf, hd => by
  by_cases h1 : k < l.length
  ·obtain ⟨f', rfl⟩ : ∃ f', f = f' + 1 := ⟨f - 1, by omega⟩
   by_cases h2 : k + 2 <= l.length
   ·by_cases a1 : l.getD k 0 = 35 /\ l.getD (k + 1) 0 = 124
    ·have L : rm l d k = rm l ((d + 1 : Nat) : Int) (k + 2) := by rw [rm, if_pos h2, if_pos a1, if_neg (by omega)]; rfl
     have Q : remL l k d = remL l (k + 2) (d + 1) := by rw [remL_go h1, hasB_two, if_pos (decide_eq_true ⟨h2, a1⟩)]
     rw [L, Q]
     exact rm_rem f' l (d + 1) (k + 2) (by omega) (by omega)
    ·have q1 : ¬ decide (k + 2 <= l.length /\ l.getD k 0 = 35 /\ l.getD (k + 1) 0 = 124) = true := by rw [decide_eq_true_eq]; exact fun h => a1 h.2
     by_cases a2 : l.getD k 0 = 124 /\ l.getD (k + 1) 0 = 35
     ·have Q : remL l k d = if d = 1 then some (k + 2) else remL l (k + 2) (d - 1) := by rw [remL_go h1, hasB_two, hasB_two, if_neg q1, if_pos (decide_eq_true ⟨h2, a2⟩)]
      by_cases d1 : d = 1
      ·subst d1
       have L : rm l ((1 : Nat) : Int) k = k + 2 := by rw [rm, if_pos h2, if_neg a1, if_pos a2]; rfl
       rw [L, Q]; rfl
      ·have L : rm l d k = rm l ((d - 1 : Nat) : Int) (k + 2) := by rw [rm, if_pos h2, if_neg a1, if_pos a2, if_neg (by omega), show ((d - 1 : Nat) : Int) = (d : Int) - 1 by omega]
       rw [L, Q, if_neg d1]
       exact rm_rem f' l (d - 1) (k + 2) (by omega) (by omega)
     ·have q2 : ¬ decide (k + 2 <= l.length /\ l.getD k 0 = 124 /\ l.getD (k + 1) 0 = 35) = true := by rw [decide_eq_true_eq]; exact fun h => a2 h.2
      have Q : remL l k d = remL l (k + 1) d := by rw [remL_go h1, hasB_two, hasB_two, if_neg q1, if_neg q2]
      have L : rm l d k = rm l d (k + 1) := by conv => lhs; rw [rm, if_pos h2, if_neg a1, if_neg a2, if_neg (show ¬ (d : Int) = 0 by omega)]
      rw [L, Q]
      exact rm_rem f' l d (k + 1) (by omega) hd
   ·have q1 : ∀ a b, ¬ decide (k + 2 <= l.length /\ l.getD k 0 = a /\ l.getD (k + 1) 0 = b) = true := fun a b => by rw [decide_eq_true_eq]; exact fun h => h2 h.1
    have Q : remL l k d = none := by rw [remL_go h1, hasB_two, hasB_two, if_neg (q1 _ _), if_neg (q1 _ _), remL_end (by omega)]
    have L : rm l d k = 0 := by rw [rm, if_neg h2]
    rw [L, Q]; rfl
  ·have L : rm l d k = 0 := by rw [rm, if_neg (by omega)]
   rw [L, remL_end h1]; rfl
theorem rm_first {l : List Nat} (h : hasB l [35, 124] = true) : rm l 0 0 = (remN l).getD 0 := by
 have h0 := h
 rw [show l = l.drop 0 from (List.drop_zero).symm, hasB_two] at h0
 have h1 := of_decide_eq_true h0
 rw [rm, if_pos h1.1, if_pos h1.2, if_neg (by omega)]
 have e := rm_rem l.length l 1 2 (by omega) (by omega)
 have e2 : remL l 0 0 = remL l 2 1 := by rw [remL_go (by omega), List.drop_zero, if_pos h]
 have e3 := remL_remN (l := l) (k := 0) (Nat.zero_le _)
 rw [List.drop_zero] at e3
 have e4 : (remN l).map (· + 0) = remN l := by cases remN l <;> rfl
 rw [show ((0 : Int) + 1) = ((1 : Nat) : Int) from rfl, show 0 + 2 = 2 from rfl, e, <- e2, e3, e4]
end Go.Proofs.YtbkfinjajkjhaaaGreatDoor
