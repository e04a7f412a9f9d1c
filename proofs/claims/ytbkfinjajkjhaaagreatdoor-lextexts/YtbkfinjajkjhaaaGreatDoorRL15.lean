import Derived.Test.YtbkfinjajkjhaaaGreatDoorLM5
import Derived.Test.YtbkfinjajkjhaaaGreatDoorLX9
import Derived.Lib.ValidLaws
import Derived.Test.YtbkfinjajkjhaaaGreatDoorLX10
import Derived.Test.YtbkfinjajkjhaaaGreatDoorLV2
import Derived.Test.YtbkfinjajkjhaaaGreatDoorLShelf
import Derived.Test.YtbkfinjajkjhaaaGreatDoorRL10
import Derived.Lib.BufferRead
import Derived.Laws.BytesString
set_option linter.unusedVariables false
set_option linter.unusedSimpArgs false
set_option maxRecDepth 100000
namespace Go.Proofs.YtbkfinjajkjhaaaGreatDoor
open Go.RowKit
theorem decodeL_is {r : List Nat} (hd : Dg 256 r) : Lib.decodeL (r.map UInt8.ofNat) = decN r := decN_is hd
theorem valid_bad {l : List Nat} (hd : Dg 256 l) : ∀ (f k : Nat), l.length <= k + f -> Lib.validD ((l.drop k).map UInt8.ofNat) = (badA f l k).isNone
 | 0, k, h => by
  rw [List.drop_eq_nil_of_le (by omega)]; rfl
 | f + 1, k, h => by
  by_cases hk : l.length <= k
  ·rw [badA_end hk, List.drop_eq_nil_of_le hk]; rfl
  ·have hne : l.drop k ≠ [] := by intro e; have := congrArg List.length e; rw [List.length_drop] at this; simp at this; omega
   have hle := decN_le hne
   have hr := runeL_dec (hd.drop k)
   rw [Lib.validD_step _ (by simpa using hne), decodeL_is (hd.drop k)]
   by_cases he : decN (l.drop k) = (65533, 1)
   ·rw [if_pos he] at hr
    rw [badA_stop hk (by rw [hr]), he, if_pos ⟨rfl, rfl⟩]; rfl
   ·rw [if_neg he] at hr
    rw [badA_go hk (by rw [hr]; omega), hr, if_neg (fun e => he (Prod.ext e.1 e.2)), <- List.map_drop, List.drop_drop]
    exact valid_bad hd f (k + (decN (l.drop k)).2) (by omega)
theorem valid_is {l : List Nat} (hd : Dg 256 l) : Lib.validD (l.map UInt8.ofNat) = (badM l).isNone := by
 have := valid_bad hd l.length 0 (by omega)
 rw [List.drop_zero] at this
 exact this
theorem valid_vd {l : List Nat} (hd : Dg 256 l) : badM l = none ↔ Vd l := by
 have := Vd.bad hd l.length 0 (by omega) (Nat.zero_le _)
 rw [List.drop_zero] at this
 exact this
theorem has_fffd {r : List Nat} (hr : r ≠ []) (h : (decN r).1 = 65533) : hasB r [239, 191, 189] = decide ((decN r).2 ≠ 1) := by
 have hl : 0 < r.length := List.length_pos_iff.2 hr
 have key : hasB r [239, 191, 189] = true ↔ 2 < r.length /\ r.getD 0 0 = 239 /\ r.getD 1 0 = 191 /\ r.getD 2 0 = 189 := by
  unfold hasB
  rw [decide_eq_true_iff]
  match r, hr with
  | [a], _ => simp
  | [a, b], _ => simp
  | a :: b :: c :: t, _ => simp
 unfold decN at h ⊢
 rcases Lib.decodeN_shape r.length (r.getD 0 0) (r.getD 1 0) (r.getD 2 0) (r.getD 3 0) with ⟨h1, e⟩ | ⟨h0, h1, h2, h3, e⟩ | ⟨h0, h1, h2, h3, h4, h5, e⟩ | ⟨h0, h1, h2, h3, h4, h5, h6, e⟩ | e
 ·rw [e] at h; simp only at h; omega
 ·rw [e] at h; simp only at h; omega
 ·rw [e] at h ⊢
  simp only at h
  rw [show decide ((r.getD 0 0 % 16 * 4096 + r.getD 1 0 % 64 * 64 + r.getD 2 0 % 64, 3).2 ≠ 1) = true from rfl]
  exact key.2 ⟨h1, by omega, by omega, by omega⟩
 ·rw [e] at h; simp only at h; omega
 ·rw [e]
  rw [show decide (((65533, 1) : Nat × Nat).2 ≠ 1) = false from rfl]
  rw [<- Bool.not_eq_true, key]
  rintro ⟨k1, k2, k3, k4⟩
  rw [k2, k3, k4] at e
  unfold Lib.decodeN at e
  rw [if_neg (by omega), if_neg (by omega), if_pos ⟨by omega, ⟨by omega, by omega⟩, k1, by omega⟩, if_pos (by omega)] at e
  simp at e
def fffd : ByteArray := ⟨#[239, 191, 189]⟩
theorem prefix_at (s : ByteArray) (p : Nat) : Lib.hasPrefix (s.extract p s.size).data.toList fffd.data.toList = hasB ((bs s).drop p) [239, 191, 189] := by
 rw [<- prefix_is (l := (bs s).drop p) (t := [239, 191, 189]) ((bs_lt s).drop p) (by intro x hx; simp at hx; omega)]
 have h1 : Lib.bytesOf (((bs s).drop p).map (fun (x : Nat) => (x : Int))) = (s.extract p s.size).data.toList := by
  rw [Lib.ext_list]
  unfold Lib.bytesOf bs
  rw [List.map_map, List.map_drop, List.map_map]
  congr 1
  conv => rhs; rw [<- List.map_id s.data.toList]
  apply List.map_congr_left
  intro x _
  simp
 rw [h1]; rfl
theorem hasPrefix_any (s : ByteArray) (p : Nat) (w : World) : Calls Tryz.prog 59 #[.string (s.extract p s.size), .string fffd] w fun e w' => e = .returned (.bool (hasB ((bs s).drop p) [239, 191, 189])) /\ w' = w := by
 have h := Any.strings_HasPrefix Tryz.lays99 (s.extract p s.size) fffd w
 rw [prefix_at] at h
 exact h
set_option maxHeartbeats 4000000 in
theorem firstBad_any (s : ByteArray) (w : World) (hs : s.size <= 1000000) : Calls Tryz.prog 36 #[.string s] w fun e w' => e = .returned (.int .i64 ((badM (bs s)).getD s.size : Nat)) /\ Below w.heap.size w w' := by
 have hl := bs_length s
 have HL := hid hl
 obtain ⟨A, hA⟩ : ∃ A, A = (badM (bs s)).getD s.size := ⟨_, rfl⟩
 rw [<- hA]
 have HA : Hid (A = (badA s.size (bs s) 0).getD s.size) := by unfold Hid; rw [hA]; unfold badM; rw [hl]
 clear hA hl
 go_enter Tryz.func36, Tryz.ntmps36
 go_wp2_with fail
 go_loopg [4] s.size (fun g v wx => ∃ p f : Nat, p <= s.size /\ g = s.size - p /\ s.size <= p + f /\ wx = w.iter s p /\ Hid (A = (badA f (bs s) p).getD s.size))
 case atStart => exact ⟨0, s.size, Nat.zero_le _, rfl, by omega, rfl, HA.out⟩
 case round =>
  obtain ⟨p, f, hp, rfl, hf, rfl, hI⟩ := hrel
  clear HA
  by_cases hlt : p < s.size
  ·have hit : (w.iter s p).heap[w.heap.size]? = some (.stringIter s p) := World.iter_heap w s p
   have hnx := fun ty => Lib.run_next_any_at (P := Tryz.prog) (w.iter s p) w.heap.size s p ty hit hlt
   have hne : (bs s).drop p ≠ [] := by intro e; have := congrArg List.length e; rw [List.length_drop, HL.out] at this; simp at this; omega
   have hle := decN_le hne
   rw [List.length_drop, HL.out] at hle
   obtain ⟨f', rfl⟩ : ∃ f', f = f' + 1 := ⟨f - 1, by omega⟩
   have hnl : ¬ (bs s).length <= p := by rw [HL.out]; omega
   have hrd := runeL_dec ((bs_lt s).drop p)
   have hff := has_fffd hne
   have hwi : (w.iter s p).iterAt w.heap.size s (p + (decN ((bs s).drop p)).2) = w.iter s (p + (decN ((bs s).drop p)).2) := by
    have := World.iter_set w s p (p + (decN ((bs s).drop p)).2)
    simpa [World.iterAt] using this
   have CP : Hid (∀ W, Calls Tryz.prog 59 #[.string (s.extract p s.size), .string ⟨#[239, 191, 189]⟩] W fun e w' => e = .returned (.bool (hasB ((bs s).drop p) [239, 191, 189])) /\ w' = W) := fun W => hasPrefix_any s p W
   rw [decode_drop, hwi] at hnx
   have p0 : (0 : Int) <= (p : Int) := by omega
   have p1 : (p : Int) <= (s.size : Int) := by omega
   have HP0 : Hid (runeL ((bs s).drop p) = if decN ((bs s).drop p) = (65533, 1) then (0, 0) else decN ((bs s).drop p)) := hrd
   obtain ⟨r, hr⟩ : ∃ r, r = decN ((bs s).drop p) := ⟨_, rfl⟩
   rw [<- hr] at hnx hle HP0 hff
   obtain ⟨h, hh⟩ : ∃ h, h = hasB ((bs s).drop p) [239, 191, 189] := ⟨_, rfl⟩
   rw [<- hh] at CP hff
   have HF := hid hff
   clear hrd hwi hit hr hh hff hne
   by_cases h65 : r.1 = 65533
   ·have t1 : ((r.1 : Int) == 65533) = true := by simp; omega
    by_cases hone : r.2 = 1
    ·have hb : h = false := by rw [HF.out h65]; exact decide_eq_false (fun e => e hone)
     subst hb
     have e1 : Hid (A = p) := by
      unfold Hid; rw [hI.out, badA_stop hnl (by rw [HP0.out, if_pos (Prod.ext h65 hone)])]; rfl
     clear hI HF HP0 h65 hone hnl
     go_wp2_with (go_at_call 59; with_reducible refine (CP.out _).mono ?_; rintro e wb ⟨rfl, rfl⟩)
     go_ret
     exact ⟨by rw [e1.out]; rfl, Ba w _⟩
    ·have hb : h = true := by rw [HF.out h65]; exact decide_eq_true hone
     subst hb
     have e1 : Hid (A = (badA f' (bs s) (p + r.2)).getD s.size) := by
      have h3 := HP0.out
      rw [if_neg (fun e => hone (congrArg Prod.snd e))] at h3
      unfold Hid; rw [hI.out, badA_go hnl (by rw [h3]; omega), h3]
     clear hI HF HP0 h65 hone hnl
     go_wp2_with (go_at_call 59; with_reducible refine (CP.out _).mono ?_; rintro e wb ⟨rfl, rfl⟩)
     go_roundg (s.size - (p + r.2))
     case measure => omega
     case rel => exact ⟨p + r.2, f', by omega, rfl, by omega, rfl, e1.out⟩
   ·have t1 : ((r.1 : Int) == 65533) = false := by simp; omega
    have e1 : Hid (A = (badA f' (bs s) (p + r.2)).getD s.size) := by
     have h3 := HP0.out
     rw [if_neg (fun e => h65 (congrArg Prod.fst e))] at h3
     unfold Hid; rw [hI.out, badA_go hnl (by rw [h3]; omega), h3]
    clear hI HF HP0 h65 hnl CP
    go_wp2_with fail
    go_roundg (s.size - (p + r.2))
    case measure => omega
    case rel => exact ⟨p + r.2, f', by omega, rfl, by omega, rfl, e1.out⟩
  ·have hnx := fun ty => run_next_end (P := Tryz.prog) w s p ty hlt
   have e1 : Hid (A = s.size) := by unfold Hid; rw [hI.out, badA_end (by rw [HL.out]; omega)]; rfl
   clear hI
   go_wp2_with fail
   go_ret
   exact ⟨by rw [e1.out]; rfl, Ba w _⟩
def chkM (l : List Nat) : Int × Nat := if 65536 < l.length then (50, 0) else match badM l with | some p => (30, p) | none => (0, 0)
theorem bstr_nat {l : List Nat} (hd : Dg 256 l) : (bstr l).data.toList.map UInt8.toNat = l := bytes_back hd
set_option maxHeartbeats 4000000 in
theorem checked_any (ao : Option Addr) (n cap : Nat) (l : List Nat) (w : World) (R : BRow w ao n cap l) (hT : LTabs w) (hsm : n <= 1000000) : Calls Tryz.prog 20 #[.slice ao n cap] w fun e w' => e = .returned (.tuple #[.int .i64 (chkM l).1, .int .i64 ((chkM l).2 : Nat)]) /\ Below w.heap.size w w' := by
 have hlen := R.len
 obtain ⟨A, hA⟩ : ∃ A, A = chkM l := ⟨_, rfl⟩
 rw [<- hA]
 unfold chkM at hA
 by_cases hlong : 65536 < n
 ·have e1 : Hid (A = (50, 0)) := by unfold Hid; rw [hA, if_pos (by omega)]
  have n1 : (65536 : Int) < (n : Int) := by omega
  clear R hA hT
  go_enter Tryz.func20, Tryz.ntmps20
  go_wp2_with fail
  exact bodyPost_ret (v := .tuple #[.int .i64 50, .int .i64 0]) (by simp [results, Tryz.results20, go_sem]) rfl ⟨by rw [e1.out]; rfl, Below.refl _ _⟩
 ·rw [if_neg (by omega)] at hA
  have n1 : ¬ (65536 : Int) < (n : Int) := by omega
  have hz : (bstr l).size = n := by rw [bstr_size, hlen]
  have hv := bvalid_any ao (bstr l) cap w (by rw [hz, bstr_nat R.dg]; exact R) (by omega) hT.utf
  rw [hz, show (bstr l).data.toList = l.map UInt8.ofNat from rfl, valid_is R.dg] at hv
  have hconv := fun W (h : Below w.heap.size w W) => conv_any (R.below h)
  have hf := fun W => firstBad_any (bstr l) W (by omega)
  rw [bs_bstr R.dg, hz] at hf
  obtain ⟨s, hs⟩ : ∃ s, s = bstr l := ⟨_, rfl⟩
  rw [<- hs] at hconv hf
  have HC := hid hconv
  have HF := hid hf
  have HV := hid hv
  clear R hT hz hs hconv hf hv
  cases hb : badM l with
  | none =>
   rw [hb] at hA HV HF
   have e1 : Hid (A = (0, 0)) := hA
   clear hA hb HF HC
   go_enter Tryz.func20, Tryz.ntmps20
   go_wp2_with (go_at_call 35; with_reducible refine HV.out.mono ?_; rintro e wa ⟨rfl, ba⟩; have HB := hid ba; clear ba)
   exact bodyPost_ret (v := .tuple #[.int .i64 0, .int .i64 0]) (by simp [results, Tryz.results20, go_sem]) rfl ⟨by rw [e1.out]; rfl, HB.out⟩
  | some p =>
   rw [hb] at hA HV HF
   have e1 : Hid (A = (30, p)) := hA
   have HF2 : Hid (∀ W, Calls Tryz.prog 36 #[.string s] W fun e w' => e = .returned (.int .i64 (p : Nat)) /\ Below W.heap.size W w') := HF.out
   clear hA hb HF
   go_enter Tryz.func20, Tryz.ntmps20
   go_wp2_with fail
   go_at_call 35
   with_reducible refine HV.out.mono ?_
   rintro e wa ⟨rfl, ba⟩
   have HB := hid ba
   have hcv := HC.out wa ba
   clear ba HC
   go_wp2_with (go_at_call 36; with_reducible refine (HF2.out _).mono ?_; rintro e wb ⟨rfl, bb⟩; have HBB := hid bb; clear bb)
   exact bodyPost_ret (v := .tuple #[.int .i64 30, .int .i64 (p : Nat)]) (by simp [results, Tryz.results20, go_sem]) rfl ⟨by rw [e1.out], HB.out.trans (HBB.out.mono HB.out.size)⟩
def ansM (l : List Nat) : List Tok × Int × Int :=
 if 65536 < l.length then ([], 50, 0)
 else match badM l with
  | some p => ([], 30, (p : Nat))
  | none => match (toksM l).2 with
   | some p => ([], 31, (p : Nat))
   | none => ((toksM l).1, 0, 0)
def ToksPost (w : World) (l : List Nat) (e : Ending) (w' : World) : Prop :=
 ∃ ao n cap, e = .returned (.tuple #[.slice ao n cap, .int .i64 (ansM l).2.1, .int .i64 (ansM l).2.2]) /\ TRow w' ao n cap (ansM l).1 /\ Below w.heap.size w w'
theorem TOwn.own_lt {base : Nat} {w : World} {v : Value} {l : List Tok} (h : TOwn base w v l) : ∀ k, v.ownBlock = some k -> base <= k /\ k < w.heap.size := fun k hk => by
 rcases h.2 with ⟨rfl, _⟩ | ⟨g, cap, cur, rfl, h2, h3, _⟩
 ·cases hk
 ·cases hk; exact ⟨h2, (Array.getElem?_eq_some_iff.1 h3).1⟩
end Go.Proofs.YtbkfinjajkjhaaaGreatDoor
