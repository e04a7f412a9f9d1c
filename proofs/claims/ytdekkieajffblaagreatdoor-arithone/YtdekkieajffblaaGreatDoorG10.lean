import Derived.Test.YtdekkieajffblaaGreatDoorG5
import Derived.Lib.ValidLaws
import Derived.Lib.RuneCount
import Derived.Laws.BitsAllLaws
import Derived.Shelf.Small.Utf8
import Derived.Shelf.Utf8.RuneCount
import Derived.Shelf.Unicode.ValidAny
import Derived.Test.YtdekkieajffblaaGreatDoorProg
set_option linter.unusedVariables false
set_option linter.unusedSimpArgs false
namespace Go.Proofs.YtdekkieajffblaaGreatDoor
open Go.RowKit
def letB (n : Int) : Bool := decide (0 <= n) && decide (n <= 1114111) && (decide (n < 55296) || decide (57343 < n))
theorem letB_valid (n : Int) : letB n = Utf8.valid n := by
 unfold letB Utf8.valid
 rw [Bool.eq_iff_iff]
 simp only [Bool.and_eq_true, Bool.or_eq_true, decide_eq_true_eq]
 omega
end Go.Proofs.YtdekkieajffblaaGreatDoor
namespace Go.Proofs
open Go.Shelf
def Tryz.lays119_ren : Go.Shelf.Ren := ⟨fun | 119 => 147 | n => n, fun | 21 => 21 | 4 => 4 | n => n, fun | n => n⟩
theorem Tryz.lays119 : Go.Proofs.Lays.n119 Tryz.prog Tryz.lays119_ren := {
 mixed := by kernel_rfl
 f119 := Tryz.func147.trans (congrArg some (by kernel_rfl))
 t4 := Tryz.underlying4
 a4 := Tryz.isAgg4
 z4 := Tryz.sizeOf4
 v4 := Tryz.zeroValue4
 t21 := Tryz.underlying21
 a21 := Tryz.isAgg21
 z21 := Tryz.sizeOf21
 v21 := Tryz.zeroValue21 }
def Tryz.lays195_ren : Go.Shelf.Ren := ⟨fun | 195 => 152 | n => n, fun | 9 => 9 | 3 => 3 | 0 => 0 | 4 => 4 | n => n, fun | n => n⟩
theorem Tryz.lays195 : Go.Proofs.Lays.n195 Tryz.prog Tryz.lays195_ren := {
 mixed := by kernel_rfl
 f195 := Tryz.func152.trans (congrArg some (by kernel_rfl))
 t0 := Tryz.underlying0
 a0 := Tryz.isAgg0
 z0 := Tryz.sizeOf0
 v0 := Tryz.zeroValue0
 t3 := Tryz.underlying3
 a3 := Tryz.isAgg3
 z3 := Tryz.sizeOf3
 v3 := Tryz.zeroValue3
 t4 := Tryz.underlying4
 a4 := Tryz.isAgg4
 z4 := Tryz.sizeOf4
 v4 := Tryz.zeroValue4
 t9 := Tryz.underlying9
 a9 := Tryz.isAgg9
 z9 := Tryz.sizeOf9
 v9 := Tryz.zeroValue9 }
def Tryz.lays196_ren : Go.Shelf.Ren := ⟨fun | 196 => 135 | 259 => 148 | n => n, fun | 9 => 9 | 4 => 4 | 3 => 3 | 5 => 5 | 12 => 12 | 119 => 184 | 0 => 0 | 46 => 115 | 139 => 187 | 138 => 186 | 53 => 31 | n => n, fun | 3 => 1 | 4 => 2 | n => n⟩
theorem Tryz.lays196 : Go.Proofs.Lays.n196 Tryz.prog Tryz.lays196_ren := {
 mixed := by kernel_rfl
 f196 := Tryz.func135.trans (congrArg some (by kernel_rfl))
 f259 := Tryz.func148.trans (congrArg some (by kernel_rfl))
 t0 := Tryz.underlying0
 a0 := Tryz.isAgg0
 z0 := Tryz.sizeOf0
 v0 := Tryz.zeroValue0
 t3 := Tryz.underlying3
 a3 := Tryz.isAgg3
 z3 := Tryz.sizeOf3
 v3 := Tryz.zeroValue3
 t4 := Tryz.underlying4
 a4 := Tryz.isAgg4
 z4 := Tryz.sizeOf4
 v4 := Tryz.zeroValue4
 t5 := Tryz.underlying5
 a5 := Tryz.isAgg5
 z5 := Tryz.sizeOf5
 v5 := Tryz.zeroValue5
 t9 := Tryz.underlying9
 a9 := Tryz.isAgg9
 z9 := Tryz.sizeOf9
 v9 := Tryz.zeroValue9
 t12 := Tryz.underlying12
 a12 := Tryz.isAgg12
 z12 := Tryz.sizeOf12
 v12 := Tryz.zeroValue12
 t46 := Tryz.underlying115
 a46 := Tryz.isAgg115
 z46 := Tryz.sizeOf115
 v46 := Tryz.zeroValue115
 t53 := Tryz.underlying31
 a53 := Tryz.isAgg31
 z53 := Tryz.sizeOf31
 v53 := Tryz.zeroValue31
 t119 := Tryz.underlying184
 a119 := Tryz.isAgg184
 z119 := Tryz.sizeOf184
 t138 := Tryz.underlying186
 a138 := Tryz.isAgg186
 z138 := Tryz.sizeOf186
 v138 := Tryz.zeroValue186
 t139 := Tryz.underlying187
 a139 := Tryz.isAgg187
 z139 := Tryz.sizeOf187
 v139 := Tryz.zeroValue187
 g3 := by kernel_rfl
 g4 := by kernel_rfl }
end Go.Proofs
namespace Go.Proofs.YtdekkieajffblaaGreatDoor
open Go.RowKit
def Tabs (w : World) : Prop := Lib.Utf8Tabs (Tryz.lays196_ren.g 3) (Tryz.lays196_ren.g 4) w
theorem Tabs.below {w w' : World} (h : Tabs w) (hb : Below w.heap.size w w') : Tabs w' := Utf8Tabs_below h hb
def atomB (k : Int) : Bool := decide (k = 1) || decide (k = 2) || decide (k = 3) || decide (k = 4) || decide (k = 6) || decide (k = 10) || decide (k = 11)
def numB (k n : Int) : Bool := if k = 2 then decide (n = 0) || decide (n = 1) else if k = 4 then letB n else if k = 13 then decide (0 <= n) && decide (n <= 2) else decide (n = 0)
def countB (k : Int) (c : Nat) : Bool := if k = 7 \/ k = 13 then decide (c = 2) else if k = 8 then decide (c <= 1024) else if k = 15 \/ k = 16 then true else decide (c = 0)
def textB (k : Int) (t : ByteArray) : Bool :=
 if k = 3 then printedB t else if k = 5 then Lib.validD t.data.toList && decide (Lib.runeCount t <= 1024) else if k = 6 then decide (t.size ≠ 0) && Lib.validD t.data.toList
 else if k = 9 then decide (t.size <= 1024) else if k = 12 \/ k = 15 then Lib.validD t.data.toList else decide (t.size = 0)
set_option maxHeartbeats 1000000 in
theorem atom_any (k : Int) (w : World) : Calls Tryz.prog 140 #[.int .i64 k] w fun e w' => e = .returned (.bool (atomB k)) /\ w' = w := by
 unfold atomB
 go_enter Tryz.func140, Tryz.ntmps140
 go_wp2
 all_goals (go_ret; refine ⟨?_, rfl⟩; simp_all)
theorem isLetter_any (n : Int) (w : World) : Calls Tryz.prog 150 #[.int .i64 n] w fun e w' => e = .returned (.bool (letB n)) /\ w' = w := by
 by_cases h1 : 0 <= n
 ·by_cases h2 : n <= 1114111
  ·have hv : ∀ wx, Calls Tryz.prog 147 #[.int .i32 n] wx fun e w' => e = .returned (.bool (letB n)) /\ w' = wx := fun wx => by
    refine (Any.utf8_ValidRune Tryz.lays119 n wx).mono ?_
    rintro e w' ⟨rfl, hw⟩
    refine ⟨?_, hw⟩
    congr 2
    unfold letB Lib.validRune
    rw [Bool.eq_iff_iff]
    simp only [Bool.and_eq_true, Bool.or_eq_true, decide_eq_true_eq]
    omega
   have HV := hid hv
   clear hv
   generalize letB n = L at *
   go_enter Tryz.func150, Tryz.ntmps150
   go_wp2_with (go_at_call 147; refine (HV.out _).mono ?_; rintro e wz ⟨rfl, hwz⟩; rw [hwz])
   go_ret
   exact ⟨rfl, rfl⟩
  ·have hl : letB n = false := by unfold letB; simp [h2]
   rw [hl]
   go_enter Tryz.func150, Tryz.ntmps150
   go_wp2
   go_ret
   exact ⟨by simp [h2], rfl⟩
 ·have hl : letB n = false := by unfold letB; simp [h1]
  rw [hl]
  go_enter Tryz.func150, Tryz.ntmps150
  go_wp2
  go_ret
  exact ⟨by simp [h1], rfl⟩
theorem numB_2 (n : Int) : numB 2 n = (decide (n = 0) || decide (n = 1)) := rfl
theorem numB_4 (n : Int) : numB 4 n = letB n := rfl
theorem numB_13 (n : Int) : numB 13 n = (decide (0 <= n) && decide (n <= 2)) := rfl
theorem numB_o {k : Int} (n : Int) (h1 : k ≠ 2) (h2 : k ≠ 4) (h3 : k ≠ 13) : numB k n = decide (n = 0) := by unfold numB; simp [h1, h2, h3]
theorem ret_b {a b : Bool} (h : a = b) : Ending.returned (.bool a) = .returned (.bool b) := by rw [h]
theorem beq_dec (a b : Int) : (a == b) = decide (a = b) := by rw [Bool.eq_iff_iff]; simp
set_option maxHeartbeats 1000000 in
theorem goodNum_any (k n : Int) (w : World) : Calls Tryz.prog 137 #[.int .i64 k, .int .i64 n] w fun e w' => e = .returned (.bool (numB k n)) /\ w' = w := by
 by_cases h2 : k = 2
 ·subst h2
  rw [numB_2]
  by_cases hn : n = 0
  ·subst hn
   go_enter Tryz.func137, Tryz.ntmps137
   go_wp2
   go_ret
   exact ⟨rfl, rfl⟩
  ·have e1 : (n == 0) = false := by simp [hn]
   go_enter Tryz.func137, Tryz.ntmps137
   go_wp2
   go_ret
   exact ⟨ret_b (by rw [beq_dec]; simp [hn]), rfl⟩
 ·by_cases h4 : k = 4
  ·subst h4
   rw [numB_4]
   have HL := hid (isLetter_any n)
   generalize letB n = L at *
   go_enter Tryz.func137, Tryz.ntmps137
   go_wp2_with (go_at_call 150; refine (HL.out _).mono ?_; rintro e wz ⟨rfl, hwz⟩; rw [hwz])
   go_ret
   exact ⟨rfl, rfl⟩
  ·by_cases h13 : k = 13
   ·subst h13
    rw [numB_13]
    by_cases hn : 0 <= n
    ·go_enter Tryz.func137, Tryz.ntmps137
     go_wp2
     go_ret
     exact ⟨ret_b (by simp [hn]), rfl⟩
    ·have e1 : decide (0 <= n) = false := by simp [hn]
     go_enter Tryz.func137, Tryz.ntmps137
     go_wp2
     go_ret
     exact ⟨ret_b (by simp [e1]), rfl⟩
   ·rw [numB_o n h2 h4 h13]
    have e1 : (k == 2) = false := by simp [h2]
    have e2 : (k == 4) = false := by simp [h4]
    have e3 : (k == 13) = false := by simp [h13]
    go_enter Tryz.func137, Tryz.ntmps137
    go_wp2
    go_ret
    exact ⟨ret_b (beq_dec n 0), rfl⟩
theorem countB_2 {k : Int} (c : Nat) (h : k = 7 \/ k = 13) : countB k c = decide (c = 2) := by unfold countB; rw [if_pos h]
theorem countB_8 (c : Nat) : countB 8 c = decide (c <= 1024) := rfl
theorem countB_t {k : Int} (c : Nat) (h : k = 15 \/ k = 16) : countB k c = true := by
 rcases h with rfl | rfl <;> rfl
theorem countB_o {k : Int} (c : Nat) (h1 : k ≠ 7) (h2 : k ≠ 13) (h3 : k ≠ 8) (h4 : k ≠ 15) (h5 : k ≠ 16) : countB k c = decide (c = 0) := by unfold countB; simp [h1, h2, h3, h4, h5]
theorem beq_nat (a b : Nat) : ((a : Int) == (b : Int)) = decide (a = b) := by rw [Bool.eq_iff_iff, beq_iff_eq, decide_eq_true_eq]; omega
set_option maxHeartbeats 1000000 in
theorem goodCount_any (k : Int) (c : Nat) (hc : c <= maxLen) (w : World) : Calls Tryz.prog 139 #[.int .i64 k, .int .i64 c] w fun e w' => e = .returned (.bool (countB k c)) /\ w' = w := by
 unfold maxLen at hc
 by_cases h1 : k = 7
 ·rw [countB_2 c (.inl h1)]
  subst h1
  go_enter Tryz.func139, Tryz.ntmps139
  go_wp2
  go_ret
  exact ⟨ret_b (beq_nat c 2), rfl⟩
 ·by_cases h2 : k = 13
  ·rw [countB_2 c (.inr h2)]
   subst h2
   go_enter Tryz.func139, Tryz.ntmps139
   go_wp2
   go_ret
   exact ⟨ret_b (beq_nat c 2), rfl⟩
  ·have e1 : (k == 7) = false := by simp [h1]
   have e2 : (k == 13) = false := by simp [h2]
   by_cases h3 : k = 8
   ·subst h3
    rw [countB_8]
    go_enter Tryz.func139, Tryz.ntmps139
    go_wp2
    go_ret
    exact ⟨ret_b (by rw [Bool.eq_iff_iff]; simp <;> omega), rfl⟩
   ·have e3 : (k == 8) = false := by simp [h3]
    by_cases h4 : k = 15
    ·rw [countB_t c (.inl h4)]
     subst h4
     go_enter Tryz.func139, Tryz.ntmps139
     go_wp2
     go_ret
     exact ⟨rfl, rfl⟩
    ·by_cases h5 : k = 16
     ·rw [countB_t c (.inr h5)]
      subst h5
      go_enter Tryz.func139, Tryz.ntmps139
      go_wp2
      go_ret
      exact ⟨rfl, rfl⟩
     ·have e4 : (k == 15) = false := by simp [h4]
      have e5 : (k == 16) = false := by simp [h5]
      rw [countB_o c h1 h2 h3 h4 h5]
      go_enter Tryz.func139, Tryz.ntmps139
      go_wp2
      go_ret
      exact ⟨ret_b (beq_nat c 0), rfl⟩
theorem valid_any (t : ByteArray) (w : World) (ht : t.size <= maxLen) (hT : Tabs w) : Calls Tryz.prog 135 #[.string t] w fun e w' => e = .returned (.bool (Lib.validD t.data.toList)) /\ Below w.heap.size w w' :=
 Any.utf8_ValidString Tryz.lays196 t w (by unfold maxLen at ht; exact ht) hT
theorem Bi (w : World) (s : ByteArray) (pos : Nat) : Below w.heap.size w (w.iter s pos) := Ba w _
theorem count_any (t : ByteArray) (w : World) (ht : t.size <= 1000000) : Calls Tryz.prog 152 #[.string t] w fun e w' => e = .returned (.int .i64 (Lib.runeCount t)) /\ Below w.heap.size w w' :=
 (Any.utf8_RuneCountInString Tryz.lays195 t w (by omega)).mono fun e w' ⟨h1, pos, h2⟩ => ⟨h1, h2 ▸ Bi w t pos⟩
theorem textB_3 (t : ByteArray) : textB 3 t = printedB t := rfl
theorem textB_5 (t : ByteArray) : textB 5 t = (Lib.validD t.data.toList && decide (Lib.runeCount t <= 1024)) := rfl
theorem textB_6 (t : ByteArray) : textB 6 t = (decide (t.size ≠ 0) && Lib.validD t.data.toList) := rfl
theorem textB_9 (t : ByteArray) : textB 9 t = decide (t.size <= 1024) := rfl
theorem textB_v {k : Int} (t : ByteArray) (h : k = 12 \/ k = 15) : textB k t = Lib.validD t.data.toList := by rcases h with rfl | rfl <;> rfl
theorem textB_o {k : Int} (t : ByteArray) (h1 : k ≠ 3) (h2 : k ≠ 5) (h3 : k ≠ 6) (h4 : k ≠ 9) (h5 : k ≠ 12) (h6 : k ≠ 15) : textB k t = decide (t.size = 0) := by unfold textB; simp [h1, h2, h3, h4, h5, h6]
theorem empty_dec (t : ByteArray) : decide (t = ByteArray.empty) = decide (t.size = 0) := by
 rw [Bool.eq_iff_iff, decide_eq_true_eq, decide_eq_true_eq]
 constructor
 ·rintro rfl; rfl
 ·intro h
  refine bs_ext ?_
  have h1 : bs t = [] := List.length_eq_zero_iff.1 (by rw [bs_length]; exact h)
  have h2 : bs ByteArray.empty = [] := List.length_eq_zero_iff.1 (by rw [bs_length]; rfl)
  rw [h1, h2]
set_option maxHeartbeats 1000000 in
theorem goodText_any (k : Int) (t : ByteArray) (w : World) (ht : t.size <= 1000000) (hT : Tabs w) : Calls Tryz.prog 138 #[.int .i64 k, .string t] w fun e w' => e = .returned (.bool (textB k t)) /\ Below w.heap.size w w' := by
 have htm : t.size <= maxLen := by unfold maxLen; omega
 by_cases h1 : k = 3
 ·subst h1
  rw [textB_3]
  have HP := hid (isPrinted_any t)
  generalize printedB t = L at *
  go_enter Tryz.func138, Tryz.ntmps138
  go_wp2_with (go_at_call 151; refine (HP.out _ htm).mono ?_; rintro e wz ⟨rfl, hwz⟩)
  go_ret
  exact ⟨rfl, hwz⟩
 ·have e1 : (k == 3) = false := by simp [h1]
  have HV := hid (valid_any t w htm hT)
  by_cases h2 : k = 5
  ·subst h2
   rw [textB_5]
   generalize Lib.validD t.data.toList = V at *
   have HC := hid (fun w => count_any t w ht)
   have hcl := Lib.runeCount_le t
   generalize Lib.runeCount t = C at *
   cases V
   ·go_enter Tryz.func138, Tryz.ntmps138
    go_wp2_with (go_at_call 135; refine HV.out.mono ?_; rintro e wz ⟨rfl, hwz⟩)
    go_ret
    exact ⟨rfl, hwz⟩
   ·go_enter Tryz.func138, Tryz.ntmps138
    go_wp2_with (first | (go_at_call 135; refine HV.out.mono ?_; rintro e wz ⟨rfl, hwz⟩) | (go_at_call 152; refine (HC.out _).mono ?_; rintro e wy ⟨rfl, hwy⟩))
    go_ret
    exact ⟨ret_b (by rw [Bool.eq_iff_iff]; simp <;> omega), Bt hwz hwy⟩
  ·have e2 : (k == 5) = false := by simp [h2]
   by_cases h3 : k = 6
   ·subst h3
    rw [textB_6]
    generalize Lib.validD t.data.toList = V at *
    by_cases h0 : t.size = 0
    ·have hem : t.toList.isEmpty = true := by rw [empty_iff]; simp [h0]
     go_enter Tryz.func138, Tryz.ntmps138
     go_wp2_with fail
     go_ret
     exact ⟨ret_b (by simp [h0]), Below.refl _ _⟩
    ·have hem : t.toList.isEmpty = false := by rw [empty_iff]; simp [h0]
     go_enter Tryz.func138, Tryz.ntmps138
     go_wp2_with (go_at_call 135; refine HV.out.mono ?_; rintro e wz ⟨rfl, hwz⟩)
     go_ret
     exact ⟨ret_b (by simp [h0]), hwz⟩
   ·have e3 : (k == 6) = false := by simp [h3]
    by_cases h4 : k = 9
    ·subst h4
     rw [textB_9]
     go_enter Tryz.func138, Tryz.ntmps138
     go_wp2
     go_ret
     exact ⟨ret_b (by rw [Bool.eq_iff_iff]; simp <;> omega), Below.refl _ _⟩
    ·have e4 : (k == 9) = false := by simp [h4]
     by_cases h5 : k = 12
     ·rw [textB_v t (.inl h5)]
      subst h5
      generalize Lib.validD t.data.toList = V at *
      go_enter Tryz.func138, Tryz.ntmps138
      go_wp2_with (go_at_call 135; refine HV.out.mono ?_; rintro e wz ⟨rfl, hwz⟩)
      go_ret
      exact ⟨rfl, hwz⟩
     ·by_cases h6 : k = 15
      ·rw [textB_v t (.inr h6)]
       subst h6
       generalize Lib.validD t.data.toList = V at *
       go_enter Tryz.func138, Tryz.ntmps138
       go_wp2_with (go_at_call 135; refine HV.out.mono ?_; rintro e wz ⟨rfl, hwz⟩)
       go_ret
       exact ⟨rfl, hwz⟩
      ·have e5 : (k == 12) = false := by simp [h5]
       have e6 : (k == 15) = false := by simp [h6]
       rw [textB_o t h1 h2 h3 h4 h5 h6]
       have hem := empty_iff t
       go_enter Tryz.func138, Tryz.ntmps138
       go_wp2
       go_ret
       exact ⟨ret_b (empty_dec t), Below.refl _ _⟩
def NVal (k n : Int) (t : ByteArray) (ak : Option Addr) (nk ck : Nat) : Value := .agg #[.int .i64 k, .int .i64 n, .string t, .slice ak nk ck]
def placeB (n : Nat) (p : Int) : Bool := decide (0 <= p) && decide (p < n)
def placesB (l : List Int) (n : Nat) : Bool := l.all (placeB n)
def nodeB (n : Nat) (d : Nd) : Bool := decide (1 <= d.kind) && decide (d.kind <= 17) && numB d.kind d.num && textB d.kind d.text && countB d.kind d.kids.length && placesB d.kids n
def goodG (ns : List Nd) (rs : List Int) : Bool := ns.all (nodeB ns.length) && placesB rs ns.length
theorem all_take_succ {α : Type} [Inhabited α] (p : α -> Bool) {l : List α} {k : Nat} (h : k < l.length) : (l.take (k + 1)).all p = ((l.take k).all p && p (l.getD k default)) := by
 rw [List.take_succ_eq_append_getElem h, List.all_append, List.getD_eq_getElem?_getD, List.getElem?_eq_getElem h]; simp
theorem all_false {α : Type} (p : α -> Bool) {l : List α} {k : Nat} (h : (l.take k).all p = false) : l.all p = false := by
 rw [List.all_eq_false] at h ⊢
 obtain ⟨x, hx, h2⟩ := h
 exact ⟨x, List.mem_of_mem_take hx, h2⟩
set_option maxHeartbeats 1000000 in
theorem arePlaces_any (ao : Option Addr) (n cap : Nat) (l : List Int) (nodes : Nat) (hnodes : nodes <= 1000000) (w : World) (R : IRow w ao n cap l) :
  Calls Tryz.prog 121 #[.slice ao n cap, .int .i64 nodes] w fun e w' => e = .returned (.bool (placesB l nodes)) /\ w' = w := by
 have HR := hid R
 have hf := R.fits
 have hm := R.most
 unfold maxLen at hm
 clear R
 go_enter Tryz.func121, Tryz.ntmps121
 go_wp2
 go_loopw [9] (fun i wr => ∃ m : Nat, m <= n /\ i = .int .i64 m /\ Hid ((l.take m).all (placeB nodes) = true /\ wr = w)) (fun i _ => n - (intOf i).toNat)
 case atStart => exact ⟨0, Nat.zero_le _, rfl, rfl, rfl⟩
 case round =>
  obtain ⟨m, hmn, rfl, hI⟩ := hrel
  by_cases hlt : m < n
  ·obtain ⟨b, o, rfl, hl, hc⟩ := HR.out.some (by omega)
   have hc1 := hc m hlt
   have hbd := HR.out.get hlt
   obtain ⟨p, hp⟩ : ∃ p, p = l.getD m 0 := ⟨_, rfl⟩
   rw [<- hp] at hc1 hbd
   obtain ⟨hb1, hb2⟩ := hbd
   have hw := hI.out.2
   rw [<- hw] at hc1
   have hst : Hid ((l.take (m + 1)).all (placeB nodes) = placeB nodes p) := by
    unfold Hid
    rw [all_take_succ (placeB nodes) (by rw [HR.out.len]; exact hlt), hI.out.1, Bool.true_and, hp]; rfl
   have HW := hid hw
   clear hc hp hI hw
   by_cases h1 : 0 <= p
   ·have e1 : decide (p < 0) = false := by simp; omega
    by_cases h2 : p < nodes
    ·go_wp2
     exact ⟨⟨m + 1, by omega, by go_num, by rw [hst.out]; unfold placeB; rw [decide_eq_true h1, decide_eq_true h2]; rfl, HW.out⟩, by simp [intOf] <;> omega⟩
    ·have e2 : decide ((nodes : Int) <= p) = true := by simp; omega
     go_wp2
     go_ret
     refine ⟨ret_b ?_, HW.out⟩
     have := all_false (placeB nodes) (l := l) (k := m + 1) (by rw [hst.out]; simp [placeB, h2])
     unfold placesB; rw [this]
   ·have e1 : decide (p < 0) = true := by simp; omega
    go_wp2
    go_ret
    refine ⟨ret_b ?_, HW.out⟩
    have := all_false (placeB nodes) (l := l) (k := m + 1) (by rw [hst.out]; simp [placeB]; omega)
    unfold placesB; rw [this]
  ·obtain rfl : m = n := by omega
   go_wp2
   go_ret
   refine ⟨ret_b ?_, hI.out.2⟩
   have := hI.out.1
   rw [List.take_of_length_le (by rw [HR.out.len]; omega)] at this
   unfold placesB; rw [this]
theorem nodeB_eq (n : Nat) (k m : Int) (t : ByteArray) (l : List Int) : nodeB n ⟨k, m, t, l⟩ = (decide (1 <= k) && decide (k <= 17) && numB k m && textB k t && countB k l.length && placesB l n) := rfl
set_option maxHeartbeats 2000000 in
theorem goodNode_any (k m : Int) (t : ByteArray) (ak : Option Addr) (nk ck : Nat) (l : List Int) (nodes : Nat) (hnodes : nodes <= 1000000) (w : World) (R : IRow w ak nk ck l) (ht : t.size <= 1000000) (hT : Tabs w) :
  Calls Tryz.prog 120 #[NVal k m t ak nk ck, .int .i64 nodes] w fun e w' => e = .returned (.bool (nodeB nodes ⟨k, m, t, l⟩)) /\ Below w.heap.size w w' := by
 rw [nodeB_eq, R.len]
 have hb := Ba w (.cells #[.int .i64 k, .int .i64 m, .string t, .slice ak nk ck] 75)
 have hblk := blk_new w #[.int .i64 k, .int .i64 m, .string t, .slice ak nk ck] 75
 have HR := hid (R.below hb)
 have HT := hid (hT.below hb)
 have hf := R.fits
 have hmx := R.most
 unfold maxLen at hmx
 unfold NVal
 clear R hT
 by_cases h1 : 1 <= k
 ·by_cases h2 : k <= 17
  ·go_enter Tryz.func120, Tryz.ntmps120
   go_wp2_with fail
   obtain ⟨g, hg⟩ : ∃ g, g = w.heap.size := ⟨_, rfl⟩
   rw [<- hg] at hblk
   rw [<- hg]
   generalize w.alloc (.cells #[.int .i64 k, .int .i64 m, .string t, .slice ak nk ck] 75) = W0 at *
   have c0 : W0.cell? ⟨g, 0, none⟩ = some (.int .i64 k) := blk_cell hblk 0
   have c1 : W0.cell? ⟨g, 1, none⟩ = some (.int .i64 m) := blk_cell hblk 1
   have c2 : W0.cell? ⟨g, 2, none⟩ = some (.string t) := blk_cell hblk 2
   have c3 : W0.cell? ⟨g, 3, none⟩ = some (.slice ak nk ck) := blk_cell hblk 3
   have hlt : g < W0.heap.size := (Array.getElem?_eq_some_iff.1 hblk).1
   have HB := hid hb
   clear hg hblk hb
   refine (goodNum_any k m _).mono ?_
   rintro e wz ⟨rfl, hwz⟩
   rw [hwz]
   clear hwz
   cases hnum : numB k m
   ·go_wp2_with fail
    go_ret
    exact ⟨ret_b (by simp [hnum]), HB.out⟩
   ·go_wp2_with fail
    refine (goodText_any k t _ ht HT.out).mono ?_
    rintro e w1 ⟨rfl, b1⟩
    have k0 : w1.cell? ⟨g, 0, none⟩ = some (.int .i64 k) := (b1.cell (p := ⟨g, 0, none⟩) hlt).trans c0
    have k3 : w1.cell? ⟨g, 3, none⟩ = some (.slice ak nk ck) := (b1.cell (p := ⟨g, 3, none⟩) hlt).trans c3
    have HR1 := hid (HR.out.below b1)
    have HB1 := hid (Bt HB.out b1)
    clear c0 c1 c2 c3 b1
    cases htx : textB k t
    ·go_wp2_with fail
     go_ret
     exact ⟨ret_b (by simp [htx]), HB1.out⟩
    ·go_wp2_with fail
     refine (goodCount_any k nk (by unfold maxLen; omega) _).mono ?_
     rintro e wz ⟨rfl, hwz⟩
     rw [hwz]
     clear hwz
     cases hcn : countB k nk
     ·go_wp2_with fail
      go_ret
      exact ⟨ret_b (by simp [hcn]), HB1.out⟩
     ·go_wp2_with fail
      refine (arePlaces_any ak nk ck l nodes hnodes _ HR1.out).mono ?_
      rintro e wz ⟨rfl, hwz⟩
      rw [hwz]
      clear hwz
      go_wp2_with fail
      go_ret
      exact ⟨ret_b (by simp [h1, h2, hnum, htx, hcn]), HB1.out⟩
  ·have e2 : decide (k <= 17) = false := by simp [h2]
   go_enter Tryz.func120, Tryz.ntmps120
   go_wp2_with fail
   go_ret
   exact ⟨ret_b (by simp [h2]), hb⟩
 ·have e1 : decide (1 <= k) = false := by simp [h1]
  go_enter Tryz.func120, Tryz.ntmps120
  go_wp2_with fail
  go_ret
  exact ⟨ret_b (by simp [h1]), hb⟩
end Go.Proofs.YtdekkieajffblaaGreatDoor
