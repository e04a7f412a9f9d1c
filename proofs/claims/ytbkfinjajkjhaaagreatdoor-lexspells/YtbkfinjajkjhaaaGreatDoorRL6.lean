import Derived.Test.YtbkfinjajkjhaaaGreatDoorG4
import Derived.Test.YtbkfinjajkjhaaaGreatDoorG2
import Derived.Lib.MapLaws
set_option linter.unusedVariables false
set_option linter.unusedSimpArgs false
set_option maxRecDepth 100000
namespace Go.Proofs.YtbkfinjajkjhaaaGreatDoor
open Go.RowKit
theorem bstr_bs (s : ByteArray) : bstr (bs s) = s := by
 apply ByteArray.ext
 unfold bstr bs
 simp only [List.map_map]
 have : (UInt8.ofNat ∘ UInt8.toNat) = id := by funext x; simp
 rw [this, List.map_id]
def runeL (t : List Nat) : Nat × Nat := runeD (bstr t) 0
def letM (t : List Nat) : Option Nat :=
 if t = [] then none else if (runeL t).2 = t.length then some (runeL t).1
 else if t = [115, 112, 97, 99, 101] then some 32 else if t = [110, 101, 119, 108, 105, 110, 101] then some 10
 else if t = [116, 97, 98] then some 9 else if t = [114, 101, 116, 117, 114, 110] then some 13 else if t = [110, 117, 108, 108] then some 0
 else if t.getD 0 0 = 120 then numH (t.drop 1) else none
theorem runeD_cp (s : ByteArray) (i : Nat) : (runeD s i).2 <= 4 := by
 unfold runeD
 split
 ·simp
 ·exact (decode_le s i).2
set_option maxHeartbeats 8000000 in
theorem rletter_any (s : ByteArray) (w : World) (hs : s.size <= 5000) : Calls Tryz.prog 91 #[.string s] w fun e w' => e = .returned (.int .i64 (plI (letM (bs s)))) /\ Below w.heap.size w w' := by
 have hl := bs_length s
 by_cases h1 : s.size = 0
 ·have e1 : bs s = [] := List.length_eq_zero_iff.1 (by omega)
  have e0 : letM (bs s) = none := by unfold letM; rw [if_pos e1]
  have e2 : s = ⟨#[]⟩ := bs_ext (by rw [e1]; rfl)
  subst e2
  rw [e0]
  clear e0 hl e1
  go_enter Tryz.func91, Tryz.ntmps91
  go_wp2_with fail
  go_ret
  exact ⟨rfl, Below.refl _ _⟩
 obtain ⟨R, hR⟩ : ∃ R, R = letM (bs s) := ⟨_, rfl⟩
 rw [<- hR]
 have HR := hid hR
 have h0 : 0 < s.size := by omega
 have hne : bs s ≠ [] := by intro e; rw [e] at hl; simp at hl; omega
 have f0 : (s.toList == []) = false := by
  rw [test_str]; apply decide_eq_false; exact hne
 have CR : Hid (Calls Tryz.prog 34 #[.string s, .int .i64 0] w (RunePost s 0 w)) := rune_any s 0 w h0 (by omega)
 unfold RunePost at CR
 have hru : runeD s 0 = runeL (bs s) := by unfold runeL; rw [bstr_bs]
 have hcp := runeD_cp s 0
 have HRU := hid hru
 have HL := hid hl
 obtain ⟨rn, hrn⟩ : ∃ r, r = runeD s 0 := ⟨_, rfl⟩
 rw [<- hrn] at CR HRU hcp
 have HB := hid (bs_get s 0 h0)
 have h3' : (0 : Int) < (s.size : Int) := by omega
 have f1 := test_str s [115, 112, 97, 99, 101]
 have f2 := test_str s [110, 101, 119, 108, 105, 110, 101]
 have f3 := test_str s [116, 97, 98]
 have f4 := test_str s [114, 101, 116, 117, 114, 110]
 have f5 := test_str s [110, 117, 108, 108]
 clear hl hR hrn hru
 have CN : Hid (∀ wx, Calls Tryz.prog 90 #[.string (s.extract 1 s.size)] wx fun e w' => e = .returned (.int .i64 (plI (numH ((bs s).drop 1)))) /\ Below wx.heap.size wx w') := fun wx => by
  have := rnumber_any (s.extract 1 s.size) wx (by rw [ByteArray.size_extract]; omega)
  rw [bs_extract] at this
  exact this
 by_cases g1 : rn.2 = s.size
 ·have e0 : Hid (R = some rn.1) := by unfold Hid; rw [HR.out]; unfold letM; rw [if_neg hne, <- HRU.out, HL.out, if_pos g1]
  have t1 : ((rn.2 : Int) == (s.size : Int)) = true := by simp; omega
  clear f1 f2 f3 f4 f5 hne g1
  go_enter Tryz.func91, Tryz.ntmps91
  go_wp2_with (go_at_call 34; with_reducible refine CR.out.mono ?_; rintro e wa ⟨rfl, q, rfl⟩)
  go_ret
  exact ⟨by rw [e0.out]; rfl, Bd w q⟩
 ·have t1 : ((rn.2 : Int) == (s.size : Int)) = false := by simp; omega
  have e9 : Hid (R = if bs s = [115, 112, 97, 99, 101] then some 32 else if bs s = [110, 101, 119, 108, 105, 110, 101] then some 10
 else if bs s = [116, 97, 98] then some 9 else if bs s = [114, 101, 116, 117, 114, 110] then some 13 else if bs s = [110, 117, 108, 108] then some 0
 else if (bs s).getD 0 0 = 120 then numH ((bs s).drop 1) else none) := by unfold Hid; rw [HR.out]; unfold letM; rw [if_neg hne, <- HRU.out, HL.out, if_neg g1]
  clear hne g1 HR
  by_cases n1 : bs s = [115, 112, 97, 99, 101]
  ·have e0 : Hid (R = some 32) := by unfold Hid; rw [e9.out, if_pos n1]
   rw [show decide (bs s = List.map UInt8.toNat [115, 112, 97, 99, 101]) = true from decide_eq_true n1] at f1
   clear f2 f3 f4 f5 n1 e9
   go_enter Tryz.func91, Tryz.ntmps91
   go_wp2_with (go_at_call 34; with_reducible refine CR.out.mono ?_; rintro e wa ⟨rfl, q, rfl⟩)
   go_ret
   exact ⟨by rw [e0.out]; rfl, Bd w q⟩
  rw [show decide (bs s = List.map UInt8.toNat [115, 112, 97, 99, 101]) = false from decide_eq_false n1] at f1
  rw [if_neg n1] at e9
  clear n1
  by_cases n1 : bs s = [110, 101, 119, 108, 105, 110, 101]
  ·have e0 : Hid (R = some 10) := by unfold Hid; rw [e9.out, if_pos n1]
   rw [show decide (bs s = List.map UInt8.toNat [110, 101, 119, 108, 105, 110, 101]) = true from decide_eq_true n1] at f2
   clear f3 f4 f5 n1 e9
   go_enter Tryz.func91, Tryz.ntmps91
   go_wp2_with (go_at_call 34; with_reducible refine CR.out.mono ?_; rintro e wa ⟨rfl, q, rfl⟩)
   go_ret
   exact ⟨by rw [e0.out]; rfl, Bd w q⟩
  rw [show decide (bs s = List.map UInt8.toNat [110, 101, 119, 108, 105, 110, 101]) = false from decide_eq_false n1] at f2
  rw [if_neg n1] at e9
  clear n1
  by_cases n1 : bs s = [116, 97, 98]
  ·have e0 : Hid (R = some 9) := by unfold Hid; rw [e9.out, if_pos n1]
   rw [show decide (bs s = List.map UInt8.toNat [116, 97, 98]) = true from decide_eq_true n1] at f3
   clear f4 f5 n1 e9
   go_enter Tryz.func91, Tryz.ntmps91
   go_wp2_with (go_at_call 34; with_reducible refine CR.out.mono ?_; rintro e wa ⟨rfl, q, rfl⟩)
   go_ret
   exact ⟨by rw [e0.out]; rfl, Bd w q⟩
  rw [show decide (bs s = List.map UInt8.toNat [116, 97, 98]) = false from decide_eq_false n1] at f3
  rw [if_neg n1] at e9
  clear n1
  by_cases n1 : bs s = [114, 101, 116, 117, 114, 110]
  ·have e0 : Hid (R = some 13) := by unfold Hid; rw [e9.out, if_pos n1]
   rw [show decide (bs s = List.map UInt8.toNat [114, 101, 116, 117, 114, 110]) = true from decide_eq_true n1] at f4
   clear f5 n1 e9
   go_enter Tryz.func91, Tryz.ntmps91
   go_wp2_with (go_at_call 34; with_reducible refine CR.out.mono ?_; rintro e wa ⟨rfl, q, rfl⟩)
   go_ret
   exact ⟨by rw [e0.out]; rfl, Bd w q⟩
  rw [show decide (bs s = List.map UInt8.toNat [114, 101, 116, 117, 114, 110]) = false from decide_eq_false n1] at f4
  rw [if_neg n1] at e9
  clear n1
  by_cases n1 : bs s = [110, 117, 108, 108]
  ·have e0 : Hid (R = some 0) := by unfold Hid; rw [e9.out, if_pos n1]
   rw [show decide (bs s = List.map UInt8.toNat [110, 117, 108, 108]) = true from decide_eq_true n1] at f5
   clear n1 e9
   go_enter Tryz.func91, Tryz.ntmps91
   go_wp2_with (go_at_call 34; with_reducible refine CR.out.mono ?_; rintro e wa ⟨rfl, q, rfl⟩)
   go_ret
   exact ⟨by rw [e0.out]; rfl, Bd w q⟩
  rw [show decide (bs s = List.map UInt8.toNat [110, 117, 108, 108]) = false from decide_eq_false n1] at f5
  rw [if_neg n1] at e9
  clear n1
  rw [HB.out] at e9
  by_cases n1 : (s[0]'h0).toNat = 120
  ·have t2 : (((s[0]'h0).toNat : Int) == 120) = true := by simp; omega
   have e0 : Hid (R = numH ((bs s).drop 1)) := by unfold Hid; rw [e9.out, if_pos n1]
   have s1 : (1 : Int) <= (s.size : Int) := by omega
   clear e9 n1
   go_enter Tryz.func91, Tryz.ntmps91
   go_wp2_with (first
    | (go_at_call 34; with_reducible refine CR.out.mono ?_; rintro e wa ⟨rfl, q, rfl⟩)
    | (go_at_call 90; with_reducible refine (CN.out _).mono ?_; rintro e wb ⟨rfl, bb⟩))
   go_ret
   exact ⟨by rw [e0.out, List.drop_one]; rfl, Bt (Bd w q) bb⟩
  ·have t2 : (((s[0]'h0).toNat : Int) == 120) = false := by simp; omega
   have e0 : Hid (R = none) := by unfold Hid; rw [e9.out, if_neg n1]
   clear e9 n1
   go_enter Tryz.func91, Tryz.ntmps91
   go_wp2_with (go_at_call 34; with_reducible refine CR.out.mono ?_; rintro e wa ⟨rfl, q, rfl⟩)
   go_ret
   exact ⟨by rw [e0.out]; rfl, Bd w q⟩
theorem map_back (s : ByteArray) (i : Nat) : ((bs s).drop i).map UInt8.ofNat = s.data.toList.drop i := by
 unfold bs
 rw [<- List.map_drop, List.map_map]
 have : (UInt8.ofNat ∘ UInt8.toNat) = id := by funext x; simp
 rw [this, List.map_id]
theorem runeD_drop (s : ByteArray) (i : Nat) : runeD s i = runeL ((bs s).drop i) := by
 have h : Utf8.decode (bstr ((bs s).drop i)) 0 = Utf8.decode s i := by
  unfold bstr
  rw [map_back]
  exact Lib.decodeL_drop s i
 unfold runeL runeD
 rw [h]
theorem runeL_le {t : List Nat} (h : t ≠ []) : (runeL t).2 <= t.length := by
 unfold runeL runeD
 split
 ·simp
 ·have := Lib.decodeL_le (t.map UInt8.ofNat) (by simpa using h)
  rw [List.length_map] at this
  exact this
def charM (r : List Nat) : Option (Nat × Nat) :=
 if r.length <= 2 then none
 else (letM ((r.drop 2).take ((runeL (r.drop 2)).2 + wordN (r.drop (2 + (runeL (r.drop 2)).2))))).map (fun n => (n, 2 + (runeL (r.drop 2)).2 + wordN (r.drop (2 + (runeL (r.drop 2)).2))))
def tkV (k n : Int) (t : ByteArray) (f o : Int) : Value := .agg #[.int .i64 k, .int .i64 n, .string t, .int .i64 f, .int .i64 o]
def RTok (w : World) (p : Nat) (r : Option (Int × Int × ByteArray × Nat)) (e : Ending) (w' : World) : Prop :=
 ∃ k n t f o, e = .returned (.tuple #[tkV k n t f o, .bool r.isSome]) /\ (∀ x, r = some x -> k = x.1 /\ n = x.2.1 /\ t = x.2.2.1 /\ o = ((p + x.2.2.2 : Nat) : Int)) /\ Below w.heap.size w w'
theorem RTok.no {w w' : World} {p : Nat} {k n : Int} {t : ByteArray} {f o : Int} (h : Below w.heap.size w w') : RTok w p none (.returned (.tuple #[tkV k n t f o, .bool false])) w' := ⟨k, n, t, f, o, rfl, fun x h => (by cases h), h⟩
theorem RTok.yes {w w' : World} {p : Nat} {k n : Int} {t : ByteArray} {f o : Int} {q : Nat} (ho : o = ((p + q : Nat) : Int)) (h : Below w.heap.size w w') : RTok w p (some (k, n, t, q)) (.returned (.tuple #[tkV k n t f o, .bool true])) w' := ⟨k, n, t, f, o, rfl, fun x h => (by cases h; exact ⟨rfl, rfl, rfl, ho⟩), h⟩
def TkBox (g : Nat) (w : World) : Prop := w.heap[g]? = some (.cells #[.int .i64 0, .int .i64 0, .string ⟨#[]⟩, .int .i64 0, .int .i64 0] 31 (0, 0))
theorem TkBox.new (w : World) : TkBox w.heap.size (w.alloc (.cells #[.int .i64 0, .int .i64 0, .string ⟨#[]⟩, .int .i64 0, .int .i64 0] 31)) := blk_new _ _ _
theorem TkBox.on {g : Nat} {w w' : World} (h : TkBox g w) (hb : Below w.heap.size w w') : TkBox g w' := (hb.block g (Array.getElem?_eq_some_iff.1 h).1).trans h
theorem TkBox.facts {g : Nat} {w : World} (h : TkBox g w) : (w.cell? ⟨g, 0, none⟩ = some (.int .i64 0) /\ w.cell? ⟨g, 1, none⟩ = some (.int .i64 0) /\ w.cell? ⟨g, 2, none⟩ = some (.string ⟨#[]⟩) /\ w.cell? ⟨g, 3, none⟩ = some (.int .i64 0) /\ w.cell? ⟨g, 4, none⟩ = some (.int .i64 0)) /\ w.frozen? ⟨g, 0, none⟩ = false /\ w.frozen? ⟨g, 1, none⟩ = false /\ w.frozen? ⟨g, 2, none⟩ = false /\ w.frozen? ⟨g, 3, none⟩ = false /\ w.frozen? ⟨g, 4, none⟩ = false :=
 ⟨⟨blk_cell h 0, blk_cell h 1, blk_cell h 2, blk_cell h 3, blk_cell h 4⟩, blk_free h 0, blk_free h 1, blk_free h 2, blk_free h 3, blk_free h 4⟩
theorem below_set5 {B g : Nat} {w w' : World} (h : Below B w w') (hg : B <= g) (a b c d e : Value) : Below B w (((((w'.setCell ⟨g, 0, none⟩ a).setCell ⟨g, 1, none⟩ b).setCell ⟨g, 2, none⟩ c).setCell ⟨g, 3, none⟩ d).setCell ⟨g, 4, none⟩ e) :=
 ((((h.setCell (p := ⟨g, 0, none⟩) hg _).setCell (p := ⟨g, 1, none⟩) hg _).setCell (p := ⟨g, 2, none⟩) hg _).setCell (p := ⟨g, 3, none⟩) hg _).setCell (p := ⟨g, 4, none⟩) hg _
set_option maxHeartbeats 8000000 in
theorem rchar_any (s : ByteArray) (p : Nat) (w : World) (hs : s.size <= 5000) (hp : p <= s.size) : Calls Tryz.prog 66 #[.string s, .int .i64 p] w (RTok w p ((charM ((bs s).drop p)).map (fun x => (12, ((x.1 : Nat) : Int), ⟨#[]⟩, x.2)))) := by
 have hl := bs_length s
 by_cases h1 : s.size <= p + 2
 ·have e0 : charM ((bs s).drop p) = none := by unfold charM; rw [if_pos (by rw [List.length_drop, hl]; omega)]
  rw [e0]
  have h1' : (s.size : Int) <= (p : Int) + 2 := by omega
  clear e0 hl
  go_enter Tryz.func66, Tryz.ntmps66
  go_wp2_with fail
  exact bodyPost_ret (v := .tuple #[tkV 0 0 ⟨#[]⟩ 0 0, .bool false]) (by simp [results, Tryz.results66, go_sem, tkV]) rfl (RTok.no (Ba w _))
 ·have hne : (bs s).drop (p + 2) ≠ [] := by intro e; have := congrArg List.length e; rw [List.length_drop, hl] at this; simp at this; omega
  obtain ⟨rn, hrn⟩ : ∃ r, r = runeL ((bs s).drop (p + 2)) := ⟨_, rfl⟩
  have hk := runeL_le hne
  rw [<- hrn, List.length_drop, hl] at hk
  have CR : Hid (∀ wx, Calls Tryz.prog 34 #[.string s, .int .i64 ((p : Int) + 2)] wx fun e w' => e = .returned (.tuple #[.int .i64 (rn.1 : Nat), .int .i64 (rn.2 : Nat)]) /\ Below wx.heap.size wx w') := fun wx => by
   have h := rune_any s (p + 2) wx (by omega) (by omega)
   unfold RunePost at h
   rw [runeD_drop, <- hrn] at h
   rw [show ((p : Int) + 2) = ((p + 2 : Nat) : Int) by omega]
   exact h.mono fun e w' ⟨h1, q, h2⟩ => ⟨h1, by rw [h2]; exact Bd wx q⟩
  obtain ⟨E, hE⟩ : ∃ E, E = p + 2 + rn.2 + wordN ((bs s).drop (p + 2 + rn.2)) := ⟨_, rfl⟩
  have hwl := wordN_le ((bs s).drop (p + 2 + rn.2))
  rw [List.length_drop, hl] at hwl
  have CW : Hid (∀ wx, Calls Tryz.prog 68 #[.string s, .int .i64 ((p : Int) + 2 + (rn.2 : Int))] wx fun e w' => e = .returned (.int .i64 (E : Int)) /\ w' = wx) := fun wx => by
   have h := rword_any s (p + 2 + rn.2) wx (by omega) (by omega)
   rw [<- hE] at h
   rw [show ((p : Int) + 2 + (rn.2 : Int)) = ((p + 2 + rn.2 : Nat) : Int) by omega]
   exact h
  have hE1 : p + 2 <= E := by omega
  have hE2 : E <= s.size := by omega
  obtain ⟨L, hL⟩ : ∃ L, L = letM (((bs s).drop (p + 2)).take (E - (p + 2))) := ⟨_, rfl⟩
  have CL : Hid (∀ wx, Calls Tryz.prog 91 #[.string (s.extract (p + 2) E)] wx fun e w' => e = .returned (.int .i64 (plI L)) /\ Below wx.heap.size wx w') := fun wx => by
   have h := rletter_any (s.extract (p + 2) E) wx (by rw [ByteArray.size_extract]; omega)
   rw [bs_ext_at, <- hL] at h
   exact h
  have eC : charM ((bs s).drop p) = L.map (fun n => (n, E - p)) := by
   unfold charM
   rw [if_neg (by rw [List.length_drop, hl]; omega), List.drop_drop, List.drop_drop, <- hrn, show p + (2 + rn.2) = p + 2 + rn.2 by omega]
   have e1 : rn.2 + wordN ((bs s).drop (p + 2 + rn.2)) = E - (p + 2) := by omega
   have e2 : 2 + rn.2 + wordN ((bs s).drop (p + 2 + rn.2)) = E - p := by omega
   rw [e1, e2, <- hL]
  rw [eC]
  have q0 : ¬ ((s.size : Int) <= (p : Int) + 2) := by omega
  have q1 : (p : Int) + 2 <= (E : Int) := by omega
  have q2 : (E : Int) <= (s.size : Int) := by omega
  have q3 : (0 : Int) <= (p : Int) + 2 := by omega
  have q4 : (rn.2 : Int) <= 5000 := by omega
  clear hL hE eC hwl hk hrn hne hl
  cases L with
  | none =>
   unfold plI at CL
   go_enter Tryz.func66, Tryz.ntmps66
   go_wp2_with (first
    | (go_at_call 34; with_reducible refine (CR.out _).mono ?_; rintro e wa ⟨rfl, ba⟩)
    | (go_at_call 68; with_reducible refine (CW.out _).mono ?_; rintro e wb ⟨rfl, rfl⟩)
    | (go_at_call 91; with_reducible refine (CL.out _).mono ?_; rintro e wc ⟨rfl, bc⟩; have HX := hid (((TkBox.new w).on ba).on bc); have HBW := hid (Bt (Ba w _) (Bt ba bc)); obtain ⟨⟨c0, c1, c2, c3, c4⟩, f0, f1, f2, f3, f4⟩ := HX.out.facts; clear ba bc))
   exact bodyPost_ret (v := .tuple #[tkV 12 (-1) ⟨#[]⟩ p E, .bool false]) (by simp [results, Tryz.results66, go_sem, tkV, c0, c1, c2, c3, c4]) rfl (RTok.no (below_set5 HBW.out (Nat.le_refl _) _ _ _ _ _))
  | some n =>
   unfold plI at CL
   go_enter Tryz.func66, Tryz.ntmps66
   go_wp2_with (first
    | (go_at_call 34; with_reducible refine (CR.out _).mono ?_; rintro e wa ⟨rfl, ba⟩)
    | (go_at_call 68; with_reducible refine (CW.out _).mono ?_; rintro e wb ⟨rfl, rfl⟩)
    | (go_at_call 91; with_reducible refine (CL.out _).mono ?_; rintro e wc ⟨rfl, bc⟩; have HX := hid (((TkBox.new w).on ba).on bc); have HBW := hid (Bt (Ba w _) (Bt ba bc)); obtain ⟨⟨c0, c1, c2, c3, c4⟩, f0, f1, f2, f3, f4⟩ := HX.out.facts; clear ba bc))
   exact bodyPost_ret (v := .tuple #[tkV 12 n ⟨#[]⟩ p E, .bool true]) (by simp [results, Tryz.results66, go_sem, tkV, c0, c1, c2, c3, c4]) rfl (RTok.yes (by show (E : Int) = ((p + (E - p) : Nat) : Int); omega) (below_set5 HBW.out (Nat.le_refl _) _ _ _ _ _))
end Go.Proofs.YtbkfinjajkjhaaaGreatDoor
