import Derived.Test.YtbkfinjajkjhaaaGreatDoorLX27
import Derived.Test.YtbkfinjajkjhaaaGreatDoorRL12
import Derived.Test.YtbkfinjajkjhaaaGreatDoorW42
import Derived.Test.YtbkfinjajkjhaaaGreatDoorLX25
import Derived.Test.YtbkfinjajkjhaaaGreatDoorLX17
set_option linter.unusedVariables false
set_option linter.unusedSimpArgs false
set_option maxRecDepth 100000
namespace Go.Proofs.YtbkfinjajkjhaaaGreatDoor
open Go.RowKit
theorem rprintNat_is (b n : Nat) (hb : 2 <= b /\ b <= 36) (x : Value) (w : World) (h : IsInt w x (n : Int)) : Calls Tryz.prog 31 #[x, .int .i64 (b : Int)] w fun e w' => e = .returned (.tuple #[.string (bstr (radL b false n)), .int .i64 0]) /\ Below w.heap.size w w' := by
 obtain ⟨s, ao, k, cap, l, rfl, R, g, hz⟩ := h.open_
 refine (rprint_all s ao k cap l (b : Int) w R (by rw [<- R.len]; exact goodB_len g)).mono ?_
 rintro e w' ⟨t, en, rfl, hp, hb'⟩
 obtain ⟨h1, rfl⟩ := printed_rad hb hp
 subst h1
 refine ⟨?_, hb'⟩
 have hv : s = false /\ val B32 l = n \/ val B32 l = 0 /\ n = 0 := by
  unfold sgn at hz
  cases s
  ·left; refine ⟨rfl, ?_⟩; simp at hz; omega
  ·right; simp at hz; omega
 rcases hv with ⟨rfl, hv⟩ | ⟨hv, rfl⟩
 ·rw [hv]
 ·rw [hv]; unfold radL; rfl
theorem rhex_any (n : Nat) (hn : n <= 1114111) (w : World) : Calls Tryz.prog 53 #[.int .i64 (n : Int)] w fun e w' => e = .returned (.string (bstr (hx n))) /\ Below w.heap.size w w' := by
 have CF := hid (fun W => rfrom_is (n : Int) W (by omega) (by omega))
 have CP : Hid (∀ x W, IsInt W x (n : Int) -> Calls Tryz.prog 31 #[x, .int .i64 16] W fun e w' => e = .returned (.tuple #[.string (bstr (hx n)), .int .i64 0]) /\ Below W.heap.size W w') := fun x W h => rprintNat_is 16 n (by omega) x W h
 have h1 : (n : Int) <= 1114111 := by omega
 go_enter Tryz.func53, Tryz.ntmps53
 go_wp2_with fail
 go_at_call 32
 with_reducible refine (CF.out _).mono ?_
 rintro e wa ⟨x, rfl, hx, ba⟩
 have HB := hid ba
 have C2 := hid (CP.out x wa hx)
 clear ba hx CP CF
 go_wp2_with fail
 go_at_call 31
 with_reducible refine C2.out.mono ?_
 rintro e wb ⟨rfl, bb⟩
 have HBb := hid (Bt HB.out bb)
 clear bb C2
 go_wp2_with fail
 go_ret
 exact ⟨rfl, HBb.out⟩
set_option maxHeartbeats 8000000 in
theorem rquoted_any (s : ByteArray) (w : World) (hs : s.size <= 5000) : Calls Tryz.prog 30 #[.string s] w fun e w' => e = .returned (.string (bstr (qt (bs s)))) /\ Below w.heap.size w w' := by
 have hl := bs_length s
 obtain ⟨l, hle⟩ : ∃ l, l = bs s := ⟨_, rfl⟩
 rw [<- hle] at hl ⊢
 have HDg : Hid (Dg 256 l) := by rw [hle]; exact bs_lt s
 have HLe := hid hle
 have HL := hid hl
 have hs2 : (s.size : Int) <= 5000 := by omega
 have HB0 : Hid (Below w.heap.size w w) := Below.refl _ _
 have HQ : Hid (∀ m, Dg 256 (34 :: (l.take m).flatMap qb)) := fun m c hc => by
  rcases List.mem_cons.1 hc with rfl | hc
  ·decide
  ·obtain ⟨x, hx, hcx⟩ := List.mem_flatMap.1 hc
   by_cases h128 : x < 128
   ·exact Nat.lt_trans (qb_low h128 c hcx) (by decide)
   ·rw [qb_high (by omega), List.mem_singleton] at hcx
    subst hcx
    exact HDg.out _ (List.mem_of_mem_take hx)
 clear hle hl
 go_enter Tryz.func30, Tryz.ntmps30
 go_wp2_with fail
 go_loopg [3, 4] s.size (fun g u v wx => ∃ (k : Nat) (T : ByteArray), u = .string T /\ v = .int .i64 k /\ g = s.size - k /\ k <= s.size /\ Hid (bs T = 34 :: (l.take k).flatMap qb) /\ Hid (Below w.heap.size w wx))
 case atStart => exact ⟨0, ⟨#[34]⟩, rfl, rfl, rfl, Nat.zero_le _, by rw [List.take_zero]; rfl, HB0.out⟩
 case round =>
  obtain ⟨k, T, rfl, rfl, rfl, hk, hT, hB⟩ := hrel
  clear HB0
  have hTs : T.size <= 5 * k + 1 := by
   rw [<- bs_length, hT.out, List.length_cons]
   have h1 := flat_len (l.take k)
   have h2 : (l.take k).length <= k := by rw [List.length_take]; omega
   omega
  by_cases hlt : k < s.size
  ·have k0 : (0 : Int) <= (k : Int) := by omega
   have k1 : (k : Int) < (s.size : Int) := by omega
   have k2 : (k : Int) + 1 <= (s.size : Int) := by omega
   have hbk := bs_get s k hlt
   rw [<- HLe.out] at hbk
   obtain ⟨c, hc⟩ : ∃ c, c = (s[k]'hlt).toNat := ⟨_, rfl⟩
   rw [<- hc] at hbk
   have hc256 : c < 256 := by rw [hc]; exact UInt8.toNat_lt _
   have HN : Hid (∀ V : ByteArray, bs V = bs T ++ qb c -> bs V = 34 :: (l.take (k + 1)).flatMap qb) := fun V hV => by
    have e1 : l.take (k + 1) = l.take k ++ [c] := by
     rw [<- hbk, List.take_succ_eq_append_getElem (by rw [HL.out]; omega), List.getD_eq_getElem?_getD, List.getElem?_eq_getElem (by rw [HL.out]; omega)]; rfl
    rw [hV, hT.out, e1, List.flatMap_append]
    simp
   have hX : bs (s.extract k (k + 1)) = [c] := by
    rw [bs_ext_at, <- HLe.out, dropN_cons (by rw [HL.out]; exact hlt), hbk, show k + 1 - k = 1 by omega]; rfl
   have hXz : (s.extract k (k + 1)).size = 1 := by rw [<- bs_length, hX]; rfl
   have HXb := hid hX
   have l1 : ¬ 9223372036854775807 < T.size + 1 := by omega
   have l2 : ¬ 9223372036854775807 < T.size + 1 + (s.extract k (k + 1)).size := by omega
   have l3 : ¬ 9223372036854775807 < T.size + 2 := by omega
   have l4 : ¬ 9223372036854775807 < T.size + (s.extract k (k + 1)).size := by omega
   have hS256 : c <= 1114111 := by omega
   have CH := hid (rhex_any c hS256 wr)
   have hx6 := hx_len 1 c (by omega)
   have HHx : Hid (bs (bstr (hx c)) = hx c) := bs_bstr (hx_dg c)
   obtain ⟨S, hS⟩ : ∃ S, S = bstr (hx c) := ⟨_, rfl⟩
   have hSz : S.size <= 2 := by rw [hS, bstr_size]; exact hx6
   rw [<- hS] at CH HHx
   have l5 : ¬ 9223372036854775807 < T.size + 2 + S.size := by omega
   have l6 : ¬ 9223372036854775807 < T.size + 2 + S.size + 1 := by omega
   have hcc : (((s[k]'hlt).toNat : Nat) : Int) = (c : Int) := by rw [hc]
   rw [hc] at CH
   have hw64 : wrap64 (((s[k]'hlt).toNat : Nat) : Int) = (((s[k]'hlt).toNat : Nat) : Int) := by unfold wrap64; omega
   by_cases g34 : c = 34
   ·have HV : Hid (bs (T ++ (⟨#[92]⟩ : ByteArray) ++ s.extract k (k + 1)) = 34 :: (l.take (k + 1)).flatMap qb) := HN.out _ (by
     rw [bs_append, bs_append, HXb.out, List.append_assoc]; congr 1; unfold qb; rw [if_pos (.inl g34)]; rfl)
    have t34 : (((s[k]'hlt).toNat : Int) == 34) = true := by simp; omega
    clear hc hbk hX hXz hT hx6 hS hSz hcc hc256 hS256
    go_wp2_with fail
    go_roundg (s.size - (k + 1))
    case measure => omega
    case rel => exact ⟨k + 1, T ++ (⟨#[92]⟩ : ByteArray) ++ s.extract k (k + 1), rfl, by go_num, rfl, by omega, HV.out, hB.out⟩
   by_cases g92 : c = 92
   ·have HV : Hid (bs (T ++ (⟨#[92]⟩ : ByteArray) ++ s.extract k (k + 1)) = 34 :: (l.take (k + 1)).flatMap qb) := HN.out _ (by
     rw [bs_append, bs_append, HXb.out, List.append_assoc]; congr 1; unfold qb; rw [if_pos (.inr g92)]; rfl)
    have t34 : (((s[k]'hlt).toNat : Int) == 34) = false := by simp; omega
    have t92 : (((s[k]'hlt).toNat : Int) == 92) = true := by simp; omega
    clear hc hbk hX hXz hT hx6 hS hSz hcc hc256 hS256
    go_wp2_with fail
    go_roundg (s.size - (k + 1))
    case measure => omega
    case rel => exact ⟨k + 1, T ++ (⟨#[92]⟩ : ByteArray) ++ s.extract k (k + 1), rfl, by go_num, rfl, by omega, HV.out, hB.out⟩
   by_cases g10 : c = 10
   ·have HV : Hid (bs (T ++ (⟨#[92, 110]⟩ : ByteArray)) = 34 :: (l.take (k + 1)).flatMap qb) := HN.out _ (by
     rw [bs_append]; congr 1; rw [g10]; rfl)
    have t34 : (((s[k]'hlt).toNat : Int) == 34) = false := by simp; omega
    have t92 : (((s[k]'hlt).toNat : Int) == 92) = false := by simp; omega
    have t10 : (((s[k]'hlt).toNat : Int) == 10) = true := by simp; omega
    clear hc hbk hX hXz hT hx6 hS hSz hcc hc256 hS256
    go_wp2_with fail
    go_roundg (s.size - (k + 1))
    case measure => omega
    case rel => exact ⟨k + 1, T ++ (⟨#[92, 110]⟩ : ByteArray), rfl, by go_num, rfl, by omega, HV.out, hB.out⟩
   by_cases g9 : c = 9
   ·have HV : Hid (bs (T ++ (⟨#[92, 116]⟩ : ByteArray)) = 34 :: (l.take (k + 1)).flatMap qb) := HN.out _ (by
     rw [bs_append]; congr 1; rw [g9]; rfl)
    have t34 : (((s[k]'hlt).toNat : Int) == 34) = false := by simp; omega
    have t92 : (((s[k]'hlt).toNat : Int) == 92) = false := by simp; omega
    have t10 : (((s[k]'hlt).toNat : Int) == 10) = false := by simp; omega
    have t9 : (((s[k]'hlt).toNat : Int) == 9) = true := by simp; omega
    clear hc hbk hX hXz hT hx6 hS hSz hcc hc256 hS256
    go_wp2_with fail
    go_roundg (s.size - (k + 1))
    case measure => omega
    case rel => exact ⟨k + 1, T ++ (⟨#[92, 116]⟩ : ByteArray), rfl, by go_num, rfl, by omega, HV.out, hB.out⟩
   by_cases g13 : c = 13
   ·have HV : Hid (bs (T ++ (⟨#[92, 114]⟩ : ByteArray)) = 34 :: (l.take (k + 1)).flatMap qb) := HN.out _ (by
     rw [bs_append]; congr 1; rw [g13]; rfl)
    have t34 : (((s[k]'hlt).toNat : Int) == 34) = false := by simp; omega
    have t92 : (((s[k]'hlt).toNat : Int) == 92) = false := by simp; omega
    have t10 : (((s[k]'hlt).toNat : Int) == 10) = false := by simp; omega
    have t9 : (((s[k]'hlt).toNat : Int) == 9) = false := by simp; omega
    have t13 : (((s[k]'hlt).toNat : Int) == 13) = true := by simp; omega
    clear hc hbk hX hXz hT hx6 hS hSz hcc hc256 hS256
    go_wp2_with fail
    go_roundg (s.size - (k + 1))
    case measure => omega
    case rel => exact ⟨k + 1, T ++ (⟨#[92, 114]⟩ : ByteArray), rfl, by go_num, rfl, by omega, HV.out, hB.out⟩
   have t34 : (((s[k]'hlt).toNat : Int) == 34) = false := by simp; omega
   have t92 : (((s[k]'hlt).toNat : Int) == 92) = false := by simp; omega
   have t10 : (((s[k]'hlt).toNat : Int) == 10) = false := by simp; omega
   have t9 : (((s[k]'hlt).toNat : Int) == 9) = false := by simp; omega
   have t13 : (((s[k]'hlt).toNat : Int) == 13) = false := by simp; omega
   by_cases h32 : c < 32
   ·have HV : Hid (bs (T ++ (⟨#[92, 120]⟩ : ByteArray) ++ S ++ (⟨#[59]⟩ : ByteArray)) = 34 :: (l.take (k + 1)).flatMap qb) := HN.out _ (by
     rw [bs_append, bs_append, bs_append, HHx.out, List.append_assoc, List.append_assoc]; congr 1; unfold qb; rw [if_neg (by omega), if_neg g10, if_neg g9, if_neg g13, if_pos (by omega)]; rfl)
    have q32 : (((s[k]'hlt).toNat : Nat) : Int) < 32 := by omega
    clear hc hbk hX hXz hT hx6 hS hSz hcc hc256 hS256
    go_wp2_with fail
    go_at_call 53
    with_reducible refine CH.out.mono ?_
    rintro e wa ⟨rfl, ba⟩
    have HBa := hid (Bt hB.out ba)
    clear ba CH
    go_wp2_with fail
    go_roundg (s.size - (k + 1))
    case measure => omega
    case rel => exact ⟨k + 1, T ++ (⟨#[92, 120]⟩ : ByteArray) ++ S ++ (⟨#[59]⟩ : ByteArray), rfl, by go_num, rfl, by omega, HV.out, HBa.out⟩
   by_cases h127 : c = 127
   ·have HV : Hid (bs (T ++ (⟨#[92, 120]⟩ : ByteArray) ++ S ++ (⟨#[59]⟩ : ByteArray)) = 34 :: (l.take (k + 1)).flatMap qb) := HN.out _ (by
     rw [bs_append, bs_append, bs_append, HHx.out, List.append_assoc, List.append_assoc]; congr 1; unfold qb; rw [if_neg (by omega), if_neg g10, if_neg g9, if_neg g13, if_pos (by omega)]; rfl)
    have q32 : ¬ (((s[k]'hlt).toNat : Nat) : Int) < 32 := by omega
    have q127 : (((s[k]'hlt).toNat : Int) == 127) = true := by simp; omega
    clear hc hbk hX hXz hT hx6 hS hSz hcc hc256 hS256
    go_wp2_with fail
    go_at_call 53
    with_reducible refine CH.out.mono ?_
    rintro e wa ⟨rfl, ba⟩
    have HBa := hid (Bt hB.out ba)
    clear ba CH
    go_wp2_with fail
    go_roundg (s.size - (k + 1))
    case measure => omega
    case rel => exact ⟨k + 1, T ++ (⟨#[92, 120]⟩ : ByteArray) ++ S ++ (⟨#[59]⟩ : ByteArray), rfl, by go_num, rfl, by omega, HV.out, HBa.out⟩
   have HV : Hid (bs (T ++ s.extract k (k + 1)) = 34 :: (l.take (k + 1)).flatMap qb) := HN.out _ (by
    rw [bs_append, HXb.out]; congr 1; unfold qb; rw [if_neg (by omega), if_neg g10, if_neg g9, if_neg g13, if_neg (by omega)])
   have q32 : ¬ (((s[k]'hlt).toNat : Nat) : Int) < 32 := by omega
   have q127 : (((s[k]'hlt).toNat : Int) == 127) = false := by simp; omega
   clear hc hbk hX hXz hT hx6 hS hSz hcc hc256 hS256
   go_wp2_with fail
   go_roundg (s.size - (k + 1))
   case measure => omega
   case rel => exact ⟨k + 1, T ++ s.extract k (k + 1), rfl, by go_num, rfl, by omega, HV.out, hB.out⟩
  ·have hke : k = s.size := by omega
   subst hke
   have k1 : ¬ (s.size : Int) < (s.size : Int) := by omega
   have l1 : ¬ 9223372036854775807 < T.size + 1 := by omega
   have HV : Hid (T ++ (⟨#[34]⟩ : ByteArray) = bstr (qt l)) := by
    have hq := HQ.out l.length
    rw [List.take_length] at hq
    have hqt : Dg 256 (qt l) := by
     unfold qt
     rw [<- List.cons_append]
     exact hq.append (by intro x hx; rw [List.mem_singleton] at hx; omega)
    apply bs_ext
    rw [bs_append, hT.out, bs_bstr hqt, <- HL.out, List.take_length]
    rfl
   clear hT
   go_wp2_with fail
   go_ret
   exact ⟨by rw [<- HV.out]; rfl, hB.out⟩
def chF (n : Nat) : Nat -> List Nat
 | 0 => if n = 32 then [35, 92, 115, 112, 97, 99, 101] else if n = 10 then [35, 92, 110, 101, 119, 108, 105, 110, 101] else if n = 9 then [35, 92, 116, 97, 98] else if n = 13 then [35, 92, 114, 101, 116, 117, 114, 110] else if n = 0 then [35, 92, 110, 117, 108, 108] else if 33 <= n /\ n <= 126 then [35, 92, n] else 35 :: 92 :: 120 :: hx n
 | 1 => if n = 10 then [35, 92, 110, 101, 119, 108, 105, 110, 101] else if n = 9 then [35, 92, 116, 97, 98] else if n = 13 then [35, 92, 114, 101, 116, 117, 114, 110] else if n = 0 then [35, 92, 110, 117, 108, 108] else if 33 <= n /\ n <= 126 then [35, 92, n] else 35 :: 92 :: 120 :: hx n
 | 2 => if n = 9 then [35, 92, 116, 97, 98] else if n = 13 then [35, 92, 114, 101, 116, 117, 114, 110] else if n = 0 then [35, 92, 110, 117, 108, 108] else if 33 <= n /\ n <= 126 then [35, 92, n] else 35 :: 92 :: 120 :: hx n
 | 3 => if n = 13 then [35, 92, 114, 101, 116, 117, 114, 110] else if n = 0 then [35, 92, 110, 117, 108, 108] else if 33 <= n /\ n <= 126 then [35, 92, n] else 35 :: 92 :: 120 :: hx n
 | 4 => if n = 0 then [35, 92, 110, 117, 108, 108] else if 33 <= n /\ n <= 126 then [35, 92, n] else 35 :: 92 :: 120 :: hx n
 | _ => if 33 <= n /\ n <= 126 then [35, 92, n] else 35 :: 92 :: 120 :: hx n
set_option maxHeartbeats 8000000 in
theorem spellChar_any (n : Int) (w : World) (hn1 : -9223372036854775808 <= n) (hn2 : n <= 9223372036854775807) (hT : LTabs w) (hD : DbT w) : Calls Tryz.prog 27 #[.int .i64 n] w fun e w' => e = .returned (.string (bstr (chS n))) /\ Below w.heap.size w w' := by
 by_cases c1 : n < 0
 ·have e1 : Hid (chS n = []) := by unfold Hid chS; rw [if_neg]; unfold letB; simp; omega
  rw [e1.out]
  clear hT hD
  go_enter Tryz.func27, Tryz.ntmps27
  go_wp2_with fail
  go_ret
  exact ⟨rfl, Below.refl _ _⟩
 by_cases c2 : 1114111 < n
 ·have e1 : Hid (chS n = []) := by unfold Hid chS; rw [if_neg]; unfold letB; simp; omega
  rw [e1.out]
  clear hT hD
  go_enter Tryz.func27, Tryz.ntmps27
  go_wp2_with fail
  go_ret
  exact ⟨rfl, Below.refl _ _⟩
 obtain ⟨k, rfl⟩ : ∃ k : Nat, n = (k : Int) := ⟨n.toNat, by omega⟩
 have CV := hid (fun W => validRune_any k W)
 have k1 : (k : Int) <= 1114111 := by omega
 have hwr : IntKind.i32.wrap (k : Int) = (k : Int) := by rw [IntKind.wrap_i32]; omega
 cases hb : letB (k : Int) with
 | false =>
  have e1 : Hid (chS (k : Int) = []) := by unfold Hid chS; rw [hb]; rfl
  rw [hb] at CV
  rw [e1.out]
  clear hT hD hb
  go_enter Tryz.func27, Tryz.ntmps27
  go_wp2_with (go_at_call 46; with_reducible refine (CV.out _).mono ?_; rintro e wa ⟨rfl, rfl⟩)
  go_ret
  exact ⟨rfl, Below.refl _ _⟩
 | true =>
  obtain ⟨A, hA⟩ : ∃ A, A = chF k 0 := ⟨_, rfl⟩
  have e1 : Hid (chS (k : Int) = A) := by unfold Hid chS; rw [hb, if_pos rfl, Int.toNat_natCast, hA]; rfl
  have HA := hid hA
  have HT := hid hT
  have HD := hid hD
  have HK := hid k1
  have HB : Hid (Below w.heap.size w w) := Below.refl _ _
  have cl := hT.nm
  have c0 := cl 0 _ rfl
  have c1 := cl 1 _ rfl
  have c2 := cl 2 _ rfl
  have c3 := cl 3 _ rfl
  have c4 := cl 4 _ rfl
  have c5 := cl 5 _ rfl
  have c6 := cl 6 _ rfl
  have c7 := cl 7 _ rfl
  have c8 := cl 8 _ rfl
  have c9 := cl 9 _ rfl
  rw [hb] at CV
  rw [e1.out]
  clear hT hD hb hA cl
  go_enter Tryz.func27, Tryz.ntmps27
  go_wp2_with (go_at_call 46; with_reducible refine (CV.out _).mono ?_; rintro e wa ⟨rfl, rfl⟩)
  go_loopg [21] (6) (fun g v wx => ∃ j : Nat, v = .int .i64 j /\ j <= 5 /\ g = 6 - j /\ Hid (Below wa.heap.size wa wx) /\ Hid (A = chF k j))
  case atStart => exact ⟨0, rfl, by omega, rfl, HB.out, HA.out⟩
  case round =>
   obtain ⟨j, rfl, hj, rfl, hB, hI⟩ := hrel
   clear HB HA
   have HSz := size_alloc wr
   rcases (by omega : j = 0 \/ j = 1 \/ j = 2 \/ j = 3 \/ j = 4 \/ j = 5) with rfl | rfl | rfl | rfl | rfl | rfl
   ·have hix := index_ln0
    have hnm : chF k 0 = if k = 32 then [35, 92, 115, 112, 97, 99, 101] else chF k 1 := rfl
    by_cases n1 : k = 32
    ·have e2 : Hid (A = [35, 92, 115, 112, 97, 99, 101]) := by unfold Hid; rw [hI.out, hnm, if_pos n1]
     have t1 : ((32 : Int) == (k : Int)) = true := by simp; omega
     have t2 : ((k : Int) == (32 : Int)) = true := by simp; omega
     clear n1 hI hnm
     go_wp2_with fail
     go_ret
     exact ⟨by rw [e2.out]; rfl, hB.out.trans ((Ba wr _).mono hB.out.size)⟩
    ·have e2 : Hid (A = chF k 1) := by unfold Hid; rw [hI.out, hnm, if_neg n1]
     have t1 : ((32 : Int) == (k : Int)) = false := by simp; omega
     have t2 : ((k : Int) == (32 : Int)) = false := by simp; omega
     clear n1 hI hnm
     go_wp2_with fail
     go_roundg (6 - 1)
     case measure => omega
     case rel => exact ⟨1, by go_num, by omega, rfl, hB.out.trans ((Ba wr _).mono hB.out.size), e2.out⟩
   ·have hix := index_ln1
    have hnm : chF k 1 = if k = 10 then [35, 92, 110, 101, 119, 108, 105, 110, 101] else chF k 2 := rfl
    by_cases n1 : k = 10
    ·have e2 : Hid (A = [35, 92, 110, 101, 119, 108, 105, 110, 101]) := by unfold Hid; rw [hI.out, hnm, if_pos n1]
     have t1 : ((10 : Int) == (k : Int)) = true := by simp; omega
     have t2 : ((k : Int) == (10 : Int)) = true := by simp; omega
     clear n1 hI hnm
     go_wp2_with fail
     go_ret
     exact ⟨by rw [e2.out]; rfl, hB.out.trans ((Ba wr _).mono hB.out.size)⟩
    ·have e2 : Hid (A = chF k 2) := by unfold Hid; rw [hI.out, hnm, if_neg n1]
     have t1 : ((10 : Int) == (k : Int)) = false := by simp; omega
     have t2 : ((k : Int) == (10 : Int)) = false := by simp; omega
     clear n1 hI hnm
     go_wp2_with fail
     go_roundg (6 - 2)
     case measure => omega
     case rel => exact ⟨2, by go_num, by omega, rfl, hB.out.trans ((Ba wr _).mono hB.out.size), e2.out⟩
   ·have hix := index_ln2
    have hnm : chF k 2 = if k = 9 then [35, 92, 116, 97, 98] else chF k 3 := rfl
    by_cases n1 : k = 9
    ·have e2 : Hid (A = [35, 92, 116, 97, 98]) := by unfold Hid; rw [hI.out, hnm, if_pos n1]
     have t1 : ((9 : Int) == (k : Int)) = true := by simp; omega
     have t2 : ((k : Int) == (9 : Int)) = true := by simp; omega
     clear n1 hI hnm
     go_wp2_with fail
     go_ret
     exact ⟨by rw [e2.out]; rfl, hB.out.trans ((Ba wr _).mono hB.out.size)⟩
    ·have e2 : Hid (A = chF k 3) := by unfold Hid; rw [hI.out, hnm, if_neg n1]
     have t1 : ((9 : Int) == (k : Int)) = false := by simp; omega
     have t2 : ((k : Int) == (9 : Int)) = false := by simp; omega
     clear n1 hI hnm
     go_wp2_with fail
     go_roundg (6 - 3)
     case measure => omega
     case rel => exact ⟨3, by go_num, by omega, rfl, hB.out.trans ((Ba wr _).mono hB.out.size), e2.out⟩
   ·have hix := index_ln3
    have hnm : chF k 3 = if k = 13 then [35, 92, 114, 101, 116, 117, 114, 110] else chF k 4 := rfl
    by_cases n1 : k = 13
    ·have e2 : Hid (A = [35, 92, 114, 101, 116, 117, 114, 110]) := by unfold Hid; rw [hI.out, hnm, if_pos n1]
     have t1 : ((13 : Int) == (k : Int)) = true := by simp; omega
     have t2 : ((k : Int) == (13 : Int)) = true := by simp; omega
     clear n1 hI hnm
     go_wp2_with fail
     go_ret
     exact ⟨by rw [e2.out]; rfl, hB.out.trans ((Ba wr _).mono hB.out.size)⟩
    ·have e2 : Hid (A = chF k 4) := by unfold Hid; rw [hI.out, hnm, if_neg n1]
     have t1 : ((13 : Int) == (k : Int)) = false := by simp; omega
     have t2 : ((k : Int) == (13 : Int)) = false := by simp; omega
     clear n1 hI hnm
     go_wp2_with fail
     go_roundg (6 - 4)
     case measure => omega
     case rel => exact ⟨4, by go_num, by omega, rfl, hB.out.trans ((Ba wr _).mono hB.out.size), e2.out⟩
   ·have hix := index_ln4
    have hnm : chF k 4 = if k = 0 then [35, 92, 110, 117, 108, 108] else chF k 5 := rfl
    by_cases n1 : k = 0
    ·have e2 : Hid (A = [35, 92, 110, 117, 108, 108]) := by unfold Hid; rw [hI.out, hnm, if_pos n1]
     have t1 : ((0 : Int) == (k : Int)) = true := by simp; omega
     have t2 : ((k : Int) == (0 : Int)) = true := by simp; omega
     clear n1 hI hnm
     go_wp2_with fail
     go_ret
     exact ⟨by rw [e2.out]; rfl, hB.out.trans ((Ba wr _).mono hB.out.size)⟩
    ·have e2 : Hid (A = chF k 5) := by unfold Hid; rw [hI.out, hnm, if_neg n1]
     have t1 : ((0 : Int) == (k : Int)) = false := by simp; omega
     have t2 : ((k : Int) == (0 : Int)) = false := by simp; omega
     clear n1 hI hnm
     go_wp2_with fail
     go_roundg (6 - 5)
     case measure => omega
     case rel => exact ⟨5, by go_num, by omega, rfl, hB.out.trans ((Ba wr _).mono hB.out.size), e2.out⟩
   ·have hI5 : Hid (A = if 33 <= k /\ k <= 126 then [35, 92, k] else 35 :: 92 :: 120 :: hx k) := hI.out
    by_cases n1 : 33 <= k
    ·have q1 : 33 <= (k : Int) := by omega
     by_cases n2 : k <= 126
     ·have q2 : (k : Int) <= 126 := by omega
      have e2 : Hid (A = [35, 92, k]) := by unfold Hid; rw [hI5.out, if_pos ⟨n1, n2⟩]
      have he : Hid (bstr [35, 92, k] = (⟨#[35, 92]⟩ : ByteArray) ++ Utf8.encode (k : Int)) := by
       unfold Hid
       have := eN_low (n := k) (by omega)
       unfold eN at this
       rw [<- bstr_bs (Utf8.encode (k : Int)), this, show (⟨#[35, 92]⟩ : ByteArray) = bstr [35, 92] from rfl, bstr_app]; rfl
      have hsz : (Utf8.encode (k : Int)).size = 1 := by
       have := eN_low (n := k) (by omega)
       unfold eN at this
       rw [<- bs_length, this]; rfl
      have l1 : ¬ 9223372036854775807 < 2 + (Utf8.encode (k : Int)).size := by omega
      clear n1 n2 hI hI5
      go_wp2_with fail
      go_ret
      exact ⟨by rw [e2.out, he.out]; rfl, hB.out⟩
     ·have q2 : ¬ (k : Int) <= 126 := by omega
      have e2 : Hid (A = 35 :: 92 :: 120 :: hx k) := by unfold Hid; rw [hI5.out, if_neg (by omega)]
      have CH := hid (hexOf_any k wr (by have := HK.out; omega) (HD.out.below hB.out))
      have hx6 := hx_len 5 k (by have := HK.out; omega)
      obtain ⟨S, hS⟩ : ∃ S, S = bstr (hx k) := ⟨_, rfl⟩
      have hSz : S.size <= 6 := by rw [hS, bstr_size]; exact hx6
      rw [<- hS] at CH
      have he : Hid (bstr (35 :: 92 :: 120 :: hx k) = (⟨#[35, 92, 120]⟩ : ByteArray) ++ S) := by
       unfold Hid; rw [hS, show (⟨#[35, 92, 120]⟩ : ByteArray) = bstr [35, 92, 120] from rfl, bstr_app]; rfl
      have l1 : ¬ 9223372036854775807 < 3 + S.size := by omega
      clear n1 n2 hI hI5 hx6 hS hSz
      go_wp2_with (go_at_call 47; with_reducible refine CH.out.mono ?_; rintro e wb ⟨rfl, bb⟩; have HBb := hid (Bt hB.out bb); clear bb)
      go_ret
      exact ⟨by rw [e2.out, he.out]; rfl, HBb.out⟩
    ·have q1 : ¬ 33 <= (k : Int) := by omega
     have e2 : Hid (A = 35 :: 92 :: 120 :: hx k) := by unfold Hid; rw [hI5.out, if_neg (by omega)]
     have CH := hid (hexOf_any k wr (by have := HK.out; omega) (HD.out.below hB.out))
     have hx6 := hx_len 5 k (by have := HK.out; omega)
     obtain ⟨S, hS⟩ : ∃ S, S = bstr (hx k) := ⟨_, rfl⟩
     have hSz : S.size <= 6 := by rw [hS, bstr_size]; exact hx6
     rw [<- hS] at CH
     have he : Hid (bstr (35 :: 92 :: 120 :: hx k) = (⟨#[35, 92, 120]⟩ : ByteArray) ++ S) := by
      unfold Hid; rw [hS, show (⟨#[35, 92, 120]⟩ : ByteArray) = bstr [35, 92, 120] from rfl, bstr_app]; rfl
     have l1 : ¬ 9223372036854775807 < 3 + S.size := by omega
     clear n1 hI hI5 hx6 hS hSz
     go_wp2_with (go_at_call 47; with_reducible refine CH.out.mono ?_; rintro e wb ⟨rfl, bb⟩; have HBb := hid (Bt hB.out bb); clear bb)
     go_ret
     exact ⟨by rw [e2.out, he.out]; rfl, HBb.out⟩
end Go.Proofs.YtbkfinjajkjhaaaGreatDoor
