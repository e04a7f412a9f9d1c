import Derived.Test.YtbkfinjajkjhaabGreatDoorTK1
import Derived.Test.YtbkfinjajkjhaabGreatDoorLShelf
import Derived.Test.YtbkfinjajkjhaabGreatDoorRL6
import Derived.Lib.BufferRead
import Derived.Laws.BytesString
import Derived.Test.YtbkfinjajkjhaabGreatDoorW15
import Derived.Lib.OthersKept
import Derived.Laws.RangeString
import Derived.Deep.DeepCutAuto
set_option linter.unusedVariables false
set_option linter.unusedSimpArgs false
set_option maxRecDepth 100000
namespace Go.Proofs.YtbkfinjajkjhaabGreatDoor
open Go.RowKit
abbrev BRow (w : World) (ao : Option Addr) (n cap : Nat) (l : List Nat) : Prop := Row .u8 256 w ao n cap l
def adv (ao : Option Addr) (cap k : Nat) : Option Addr := if cap = k then ao else ao.map (·.add k)
theorem Row.drop {B : Nat} {w : World} {ao : Option Addr} {n cap k : Nat} {l : List Nat} (R : Row .u8 B w ao n cap l) (hk : k <= n) : Row .u8 B w (adv ao cap k) (n - k) (cap - k) (l.drop k) := by
 have hf := R.fits
 refine ⟨by rw [List.length_drop, R.len], by omega, Nat.le_trans (Nat.sub_le _ _) R.most, fun e => ?_, R.dg.drop k, ?_⟩
 ·unfold adv at e
  split at e
  ·omega
  ·cases ao with
   | none => have := R.nil_ rfl; omega
   | some a => simp at e
 ·by_cases h0 : k < n
  ·obtain ⟨b, o, rfl, hb, hc⟩ := R.rd.some (by rw [R.len]; omega)
   refine .inr ⟨b, o + k, ?_, hb, fun i hi => ?_⟩
   ·unfold adv
    rw [if_neg (by omega)]
    simp only [Option.map_some, Addr.add]
    by_cases hk0 : k = 0
    ·subst hk0; simp
    ·rw [if_neg hk0]
   ·rw [List.length_drop] at hi
    have := hc (k + i) (by rw [R.len] at hi ⊢; omega)
    rw [List.getD_eq_getElem?_getD, List.getElem?_drop, <- List.getD_eq_getElem?_getD, Nat.add_assoc]
    exact this
  ·exact .inl (List.drop_eq_nil_of_le (by rw [R.len]; omega))
theorem elem_bytes : Tryz.prog.elem 22 = 5 := by simp [Program.elem, Tryz.underlying22]
theorem under_bytes : Tryz.prog.underlying 22 = some (.slice (Tryz.prog.elem 22)) := by rw [elem_bytes]; exact Tryz.underlying22
theorem slice_from {w : World} {ao : Option Addr} {n cap k : Nat} (h : k <= n) : (Instr.slice 22 (.slice ao n cap) (some (.int .i64 (k : Int))) none none).run Tryz.prog w = .ok (.slice (adv ao cap k) (n - k) (cap - k)) w := by
 rw [run_slice_l w 22 ao n cap under_bytes .i64 k (by omega) (by omega), elem_bytes, Tryz.sizeOf5]
 simp [Result.andThen, sliced, adv]
theorem sliceAt_from {w : World} {ao : Option Addr} {n cap k : Nat} (h : k <= n) : (Instr.sliceAt 22 (.slice ao n cap) (some (.int .i64 (k : Int))) none none).run Tryz.prog w = .ok (.slice (adv ao cap k) (n - k) (cap - k)) w := by
 rw [run_sliceAt_slice _ _ _ _ _ _ under_bytes]; exact slice_from h
theorem slice_part {w : World} {ao : Option Addr} {n cap k m : Nat} (h : k <= m) (h2 : m <= cap) : (Instr.slice 22 (.slice ao n cap) (some (.int .i64 (k : Int))) (some (.int .i64 (m : Int))) none).run Tryz.prog w = .ok (.slice (adv ao cap k) (m - k) (cap - k)) w := by
 rw [run_slice_lh w 22 ao n cap under_bytes .i64 .i64 k m (by omega) (by omega) (by omega), elem_bytes, Tryz.sizeOf5]
 simp [Result.andThen, sliced, adv]
theorem sliceAt_part {w : World} {ao : Option Addr} {n cap k m : Nat} (h : k <= m) (h2 : m <= cap) : (Instr.sliceAt 22 (.slice ao n cap) (some (.int .i64 (k : Int))) (some (.int .i64 (m : Int))) none).run Tryz.prog w = .ok (.slice (adv ao cap k) (m - k) (cap - k)) w := by
 rw [run_sliceAt_slice _ _ _ _ _ _ under_bytes]; exact slice_part h h2
theorem slice_front {w : World} {ao : Option Addr} {n cap m : Nat} (h2 : m <= cap) : (Instr.slice 22 (.slice ao n cap) none (some (.int .i64 (m : Int))) none).run Tryz.prog w = .ok (.slice (adv ao cap 0) m cap) w := by
 rw [run_slice_h w 22 ao n cap under_bytes .i64 m (by omega) (by omega), elem_bytes, Tryz.sizeOf5]
 simp [Result.andThen, sliced, adv]
theorem sliceAt_front {w : World} {ao : Option Addr} {n cap m : Nat} (h2 : m <= cap) : (Instr.sliceAt 22 (.slice ao n cap) none (some (.int .i64 (m : Int))) none).run Tryz.prog w = .ok (.slice (adv ao cap 0) m cap) w := by
 rw [run_sliceAt_slice _ _ _ _ _ _ under_bytes]; exact slice_front h2
theorem Row.part {B : Nat} {w : World} {ao : Option Addr} {n cap k m : Nat} {l : List Nat} (R : Row .u8 B w ao n cap l) (hk : k <= m) (hm : m <= n) : Row .u8 B w (adv ao cap k) (m - k) (cap - k) ((l.drop k).take (m - k)) :=
 (R.drop (Nat.le_trans hk hm)).take (by omega) (cap - k) (by have := R.fits; omega) (Nat.le_refl _)
theorem Row.front {B : Nat} {w : World} {ao : Option Addr} {n cap m : Nat} {l : List Nat} (R : Row .u8 B w ao n cap l) (hm : m <= n) : Row .u8 B w (adv ao cap 0) m cap (l.take m) := by
 have := R.part (k := 0) (Nat.zero_le _) hm
 simpa using this
theorem conv_any {w : World} {ao : Option Addr} {n cap : Nat} {l : List Nat} (R : BRow w ao n cap l) :
  (convert 22 9 (.slice ao n cap)).run Tryz.prog w = .ok (.string (bstr l)) w := by
 by_cases h0 : n = 0
 ·subst h0
  have hl : l = [] := List.length_eq_zero_iff.1 R.len
  subst hl
  rw [run_convert_bytes_string w _ _ 5 _ 0 cap Tryz.underlying22 Tryz.underlying5 Tryz.underlying9]
  cases ao <;> simp [Conv.bytesToString, loadCells]
  all_goals rfl
 ·obtain ⟨b, o, rfl, hb, hc⟩ := R.rd.some (by rw [R.len]; omega)
  exact conv_at R.len R.dg (fun i hi => hc i (by rw [R.len]; exact hi))
def lnC : List Value := [.string ⟨#[115, 112, 97, 99, 101]⟩, .int .i32 32, .string ⟨#[110, 101, 119, 108, 105, 110, 101]⟩, .int .i32 10, .string ⟨#[116, 97, 98]⟩, .int .i32 9, .string ⟨#[114, 101, 116, 117, 114, 110]⟩, .int .i32 13, .string ⟨#[110, 117, 108, 108]⟩, .int .i32 0]
theorem cellIn {w : World} {b i : Nat} {v : Value} (h : w.cell? ⟨b, i, none⟩ = some v) : b < w.heap.size := by
 rcases Nat.lt_or_ge b w.heap.size with h1 | h1
 ·exact h1
 ·have : w.heap[b]? = none := Array.getElem?_eq_none h1
  simp [World.cell?, this] at h
structure LTabs (w : World) : Prop where
 utf : Lib.Utf8Tabs 0 1 w
 mx : ∃ m, w.cell? ⟨2, 0, none⟩ = some (.int .i64 m)
 nm : ∀ j u, lnC[j]? = some u -> w.cell? ⟨3, j, none⟩ = some u
 es : ∃ t a, w.cell? ⟨5, 0, none⟩ = some (.iface t a)
 er : ∃ t a, w.cell? ⟨6, 0, none⟩ = some (.iface t a)
theorem LTabs.below {w w' : World} (h : LTabs w) (hb : Below w.heap.size w w') : LTabs w' := by
 refine ⟨Utf8Tabs_below h.utf hb, ?_, fun j u hj => ?_, ?_, ?_⟩
 ·obtain ⟨m, hm⟩ := h.mx; exact ⟨m, (hb.cell (p := ⟨2, 0, none⟩) (cellIn hm)).trans hm⟩
 ·have := h.nm j u hj; exact (hb.cell (p := ⟨3, j, none⟩) (cellIn this)).trans this
 ·obtain ⟨t, a, hm⟩ := h.es; exact ⟨t, a, (hb.cell (p := ⟨5, 0, none⟩) (cellIn hm)).trans hm⟩
 ·obtain ⟨t, a, hm⟩ := h.er; exact ⟨t, a, (hb.cell (p := ⟨6, 0, none⟩) (cellIn hm)).trans hm⟩
def dlmS : ByteArray := ⟨#[32, 9, 10, 13, 40, 41, 34, 59]⟩
def dlmI (c : Nat) : Int := Lib.indexByte dlmS.data.toList (UInt8.ofNat c)
set_option maxRecDepth 100000 in
theorem dlmI_is : ∀ c : Fin 256, (dlmB c.val = true -> 0 <= dlmI c.val) /\ (dlmB c.val = false -> dlmI c.val = -1) := by decide +kernel
theorem ext_index (s : ByteArray) (c : Nat) (w : World) : (callFunc 56 #[.string s, .int .u8 (c : Int)]).run Tryz.prog w = .ok (.value (.int .i64 (Lib.indexByte s.data.toList (UInt8.ofNat c)))) w := by
 rw [run_callFunc_extern Tryz.func56 (by kernel_rfl) (by kernel_rfl) (by kernel_rfl) (e := Extern.BytealgIndexByte.indexByte) (by kernel_rfl), Lib.run_indexByteString]
 rfl
theorem wordN_one (c : Nat) : wordN [c] = if dlmB c then 0 else 1 := by unfold wordN; split <;> rfl
theorem dlmB_high {c : Nat} (h : 128 <= c) : dlmB c = false := by
 unfold dlmB blkB
 simp
 omega
theorem dlmS_lt : ∀ j : Nat, ∀ h : j < dlmS.size, (dlmS[j]'h).toNat < 128 := by
 intro j h
 rw [<- bs_get dlmS j h]
 have hb : bs dlmS = [32, 9, 10, 13, 40, 41, 34, 59] := rfl
 have hall : ∀ x ∈ bs dlmS, x < 128 := by rw [hb]; decide
 have hl := bs_length dlmS
 rw [List.getD_eq_getElem?_getD, List.getElem?_eq_getElem (by rw [hl]; exact h)]
 exact hall _ (List.getElem_mem _)
theorem dlmS_ne : (dlmS.toList == []) = false /\ dlmS.toList.isEmpty = false := by
 have h : (dlmS.toList == []) = false := by rw [test_str]; exact decide_eq_false (by show ¬ bs dlmS = []; rw [show bs dlmS = [32, 9, 10, 13, 40, 41, 34, 59] from rfl]; simp)
 exact ⟨h, by rw [show dlmS.toList.isEmpty = (dlmS.toList == []) by cases dlmS.toList <;> rfl]; exact h⟩
def anyI (l : List Nat) : Int := if wordN l < l.length then (wordN l : Int) else -1
set_option maxHeartbeats 4000000 in
theorem indexAny_one (ao : Option Addr) (cap : Nat) (l : List Nat) (w : World) (R : BRow w ao 1 cap l) : Calls Tryz.prog 38 #[.slice ao 1 cap, .string dlmS] w fun e w' => e = .returned (.int .i64 (anyI l)) /\ Below w.heap.size w w' := by
 obtain ⟨b, o, rfl, hb, hc⟩ := R.rd.some (by rw [R.len]; omega)
 have hc0 := hc 0 (by rw [R.len]; omega)
 obtain ⟨c, hcc⟩ : ∃ c, c = l.getD 0 0 := ⟨_, rfl⟩
 have hl : l = [c] := by
  have h1 := R.len
  match l, h1 with
  | [a], _ => simp at hcc; rw [hcc]
 have hlt : c < 256 := R.dg c (by rw [hl]; simp)
 rw [<- hcc, Nat.add_zero] at hc0
 have hs0 := dlmS_ne.1
 have e119 := fun W => ext_index dlmS c W
 obtain ⟨k, hk⟩ : ∃ k, k = dlmI c := ⟨_, rfl⟩
 rw [show Lib.indexByte dlmS.data.toList (UInt8.ofNat c) = k from hk.symm] at e119
 obtain ⟨S, hS⟩ : ∃ S, dlmS = S := ⟨_, rfl⟩
 have hSz : S.size = 8 := by rw [<- hS]; rfl
 have hSl : Hid (∀ j : Nat, ∀ h : j < S.size, (S[j]'h).toNat < 128) := by rw [<- hS]; exact dlmS_lt
 have hem : S.toList.isEmpty = false := by rw [<- hS]; exact dlmS_ne.2
 rw [hS] at e119 hs0 ⊢
 obtain ⟨A, hA⟩ : ∃ A, A = anyI l := ⟨_, rfl⟩
 rw [<- hA]
 rw [hl] at hA
 unfold anyI at hA
 rw [wordN_one] at hA
 have hI := dlmI_is ⟨c, hlt⟩
 clear hc R hcc hl hS
 by_cases h128 : 128 <= c
 ·have h128' : (128 : Int) <= (c : Int) := by omega
  rw [dlmB_high h128] at hA
  have HA : Hid (A = -1) := hA
  clear hA hI hk e119
  have hB0 : Hid (Below w.heap.size w w) := Below.refl _ _
  go_enter Tryz.func38, Tryz.ntmps38
  go_wp2_with fail
  go_loopg [5, 29, 30] S.size (fun g v5 v29 v30 wx => ∃ (r : Int) (p : Nat), v5 = .int .i32 r /\ p <= S.size /\ g = S.size - p /\ wx = w.iter S p)
  case atStart => exact ⟨c, 0, rfl, Nat.zero_le _, rfl, rfl⟩
  case round =>
   obtain ⟨r, p, rfl, hp, rfl, rfl⟩ := hrel
   by_cases hlt : p < S.size
   ·have hx := hSl.out p hlt
    have hnx := fun ty => run_next_ascii (P := Tryz.prog) w S p ty hlt hx
    obtain ⟨x, hxx⟩ : ∃ x, (S[p]'hlt).toNat = x := ⟨_, rfl⟩
    rw [hxx] at hnx hx
    have t1 : ((x : Int) == 65533) = false := by simp; omega
    clear hxx
    go_wp2
    go_roundg (S.size - (p + 1))
    case measure => omega
    case rel => exact ⟨x, p + 1, rfl, by omega, rfl, rfl⟩
   ·have hnx := fun ty => run_next_end (P := Tryz.prog) w S p ty hlt
    go_wp2
    go_ret
    exact ⟨by rw [HA.out]; rfl, Ba w _⟩
 ·have h128' : ¬ (128 : Int) <= (c : Int) := by omega
  cases hd : dlmB c with
  | true =>
   rw [hd] at hA
   have HA : Hid (A = 0) := hA
   have k0 : (0 : Int) <= k := by rw [hk]; exact hI.1 hd
   clear hA hI hk hd
   go_enter Tryz.func38, Tryz.ntmps38
   go_wp2
   go_ret
   exact ⟨by rw [HA.out]; rfl, Below.refl _ _⟩
  | false =>
   rw [hd] at hA
   have HA : Hid (A = -1) := hA
   have k0 : k = -1 := by rw [hk]; exact hI.2 hd
   subst k0
   clear hA hI hk hd
   go_enter Tryz.func38, Tryz.ntmps38
   go_wp2
   go_ret
   exact ⟨by rw [HA.out]; rfl, Below.refl _ _⟩
end Go.Proofs.YtbkfinjajkjhaabGreatDoor
