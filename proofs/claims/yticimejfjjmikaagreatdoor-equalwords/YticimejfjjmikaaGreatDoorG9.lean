import Derived.Test.YticimejfjjmikaaGreatDoorG3
import Derived.Shelf.Small.Utf8
import Derived.Shelf.Utf8.RuneCount
import Derived.Shelf.Unicode.ValidAny
import Derived.Test.YticimejfjjmikaaGreatDoorProg
set_option linter.unusedVariables false
set_option linter.unusedSimpArgs false
namespace Go.Proofs.YticimejfjjmikaaGreatDoor
open Go.RowKit
theorem decode_le (s : ByteArray) (i : Nat) : 1 <= (Utf8.decode s i).2 /\ (Utf8.decode s i).2 <= 4:=by
 rw [decode_eq]
 repeat' split
 all_goals simp
def utfN (s : ByteArray) : Int:=if Lib.validD s.data.toList then (Lib.runeCount s : Int) else -1
structure Uv (s : ByteArray) (p c fuel : Nat) : Prop where
 v : Lib.validD s.data.toList = Lib.validD (s.data.toList.drop p)
 c : c + Lib.runeCountFrom s fuel p = Lib.runeCount s
 f : s.size <= p + fuel
theorem Uv.bad {s : ByteArray} {p c fuel : Nat} (h : Uv s p c fuel) (hp : p < s.size) (hb : (runeD s p).2 = 0) : utfN s = -1:=by
 have hd : Utf8.decode s p = (65533,1):=by
  unfold runeD at hb
  split at hb
  ·assumption
  ·have:=(decode_le s p).1;omega
 unfold utfN
 rw [h.v,Lib.validD_step _ (by intro e;have:=congrArg List.length e;simp at this;have h2 : s.data.size = s.size:=rfl;omega),Lib.decodeL_drop,hd]
 simp
theorem Uv.next {s : ByteArray} {p c fuel : Nat} (h : Uv s p c (fuel + 1)) (hp : p < s.size) (hb : (runeD s p).2 ≠ 0) : Uv s (p + (runeD s p).2) (c + 1) fuel /\ 1 <= (runeD s p).2 /\ (runeD s p).2 <= 4:=by
 have hne : ¬ Utf8.decode s p = (65533,1):=by
  intro e;unfold runeD at hb;rw [if_pos e] at hb;exact hb rfl
 have e : runeD s p = Utf8.decode s p:=by unfold runeD;rw [if_neg hne]
 rw [e]
 have hl:=decode_le s p
 refine ⟨⟨?_,?_,?_⟩,hl⟩
 ·rw [h.v, Lib.validD_step _ (by intro e; have := congrArg List.length e; simp at this; have h2 : s.data.size = s.size := rfl; omega), Lib.decodeL_drop, if_neg, List.drop_drop]
  intro h2
  exact hne (Prod.ext h2.1 h2.2)
 ·have := h.c
  unfold Lib.runeCountFrom at this
  rw [if_pos hp] at this
  omega
 ·have:=h.f;omega
theorem Uv.end_ {s : ByteArray} {p c fuel : Nat} (h : Uv s p c fuel) (hp : ¬ p < s.size) : utfN s = c:=by
 unfold utfN
 rw [h.v,List.drop_eq_nil_of_le (by have h2 : s.data.size = s.size:=rfl;simp;omega)]
 have:=h.c
 rw [Lib.runeCountFrom_end s fuel p hp] at this
 rw [if_pos Lib.validD_nil];omega
set_option maxHeartbeats 1000000 in
theorem utf_any (s : ByteArray) (w : World) (hs : s.size <= 1000000) : Calls Tryz.prog 82 #[.string s] w fun e w'=>e = .returned (.int .i64 (utfN s)) /\ ∃ k,w' = w.drewN k:=by
 go_enter Tryz.func82,Tryz.ntmps82
 go_wp2
 go_loopw [3,4] (fun n i wr=>∃ p c fuel : Nat,i = .int .i64 p /\ n = .int .i64 c /\ c <= p /\ p <= s.size + 4 /\ Hid (Uv s p c fuel /\ ∃ k,wr = w.drewN k)) (fun _ i _=>s.size + 4 - (intOf i).toNat)
 case atStart=>exact ⟨0,0,s.size,rfl,rfl,Nat.le_refl _,by omega,⟨rfl,by simp [Lib.runeCount],by omega⟩,0,rfl⟩
 case round =>
  obtain ⟨p,c,fuel,rfl,rfl,hcp,hps,hI⟩:=hrel
  by_cases hlt : p < s.size
  ·have HC := hid (rune_any s p wr hlt hs)
   obtain ⟨f,rfl⟩ : ∃ f,fuel = f + 1:=⟨fuel - 1,by have:=hI.out.1.f;omega⟩
   have HN : Hid ((runeD s p).2 ≠ 0 -> Uv s (p + (runeD s p).2) (c + 1) f /\ 1 <= (runeD s p).2 /\ (runeD s p).2 <= 4):=hI.out.1.next hlt
   have HBAD : Hid ((runeD s p).2 = 0 -> utfN s = -1):=hI.out.1.bad hlt
   obtain ⟨k,hk⟩ : ∃ k,k = (runeD s p).2:=⟨_,rfl⟩
   unfold RunePost at HC
   rw [<- hk] at HC HN HBAD
   clear hk
   generalize (runeD s p).1 = r at *
   by_cases hk0 : k = 0
   ·subst hk0
    have hU:=hid (HBAD.out rfl)
    go_wp2_with (go_at_call 141;refine HC.out.mono ?_;rintro e w2 ⟨rfl,k2,hw2⟩;rw [hw2])
    go_ret
    obtain ⟨k1,hw⟩:=hI.out.2
    exact ⟨by rw [hU.out];rfl,k1 + k2,by rw [hw,World.drewN_drewN]⟩
   ·obtain ⟨hU, hk1, hk4⟩ := HN.out hk0
    have HU:=hid hU
    have ek : ((k : Int) == 0) = false:=by simp;omega
    clear hU
    go_wp2_with (go_at_call 141;refine HC.out.mono ?_;rintro e w2 ⟨rfl,k2,hw2⟩;rw [hw2])
    obtain ⟨k1,hw⟩:=hI.out.2
    refine ⟨⟨p + k,c + 1,f,by congr 1,by congr 1,by omega,by omega,HU.out,k1 + k2,by rw [hw,World.drewN_drewN]⟩,by simp [intOf] <;> omega⟩
  ·have hU := hid (hI.out.1.end_ hlt)
   go_wp2
   go_ret
   exact ⟨by rw [hU.out];rfl,hI.out.2⟩
end Go.Proofs.YticimejfjjmikaaGreatDoor
namespace Go.Proofs
open Go.Shelf
def Tryz.lays119_ren : Go.Shelf.Ren:=⟨fun | 119=>192 | n=>n,fun | 21=>21 | 4=>4 | n=>n,fun | n=>n⟩
theorem Tryz.lays119 : Go.Proofs.Lays.n119 Tryz.prog Tryz.lays119_ren:={
 mixed:=by kernel_rfl
 f119:=Tryz.func192.trans (congrArg some (by kernel_rfl))
 t4:=Tryz.underlying4
 a4:=Tryz.isAgg4
 z4:=Tryz.sizeOf4
 v4:=Tryz.zeroValue4
 t21:=Tryz.underlying21
 a21:=Tryz.isAgg21
 z21:=Tryz.sizeOf21
 v21:=Tryz.zeroValue21 }
def Tryz.lays195_ren : Go.Shelf.Ren:=⟨fun | 195=>173 | n=>n,fun | 9=>9 | 3=>3 | 0=>0 | 4=>4 | n=>n,fun | n=>n⟩
theorem Tryz.lays195 : Go.Proofs.Lays.n195 Tryz.prog Tryz.lays195_ren:={
 mixed:=by kernel_rfl
 f195:=Tryz.func173.trans (congrArg some (by kernel_rfl))
 t0:=Tryz.underlying0
 a0:=Tryz.isAgg0
 z0:=Tryz.sizeOf0
 v0:=Tryz.zeroValue0
 t3:=Tryz.underlying3
 a3:=Tryz.isAgg3
 z3:=Tryz.sizeOf3
 v3:=Tryz.zeroValue3
 t4:=Tryz.underlying4
 a4:=Tryz.isAgg4
 z4:=Tryz.sizeOf4
 v4:=Tryz.zeroValue4
 t9:=Tryz.underlying9
 a9:=Tryz.isAgg9
 z9:=Tryz.sizeOf9
 v9:=Tryz.zeroValue9 }
def Tryz.lays196_ren : Go.Shelf.Ren:=⟨fun | 196=>166 | 259=>193 | n=>n,fun | 9=>9 | 4=>4 | 3=>3 | 5=>5 | 12=>12 | 119=>240 | 0=>0 | 46=>197 | 139=>243 | 138=>242 | 53=>43 | n=>n,fun | 3=>0 | 4=>1 | n=>n⟩
theorem Tryz.lays196 : Go.Proofs.Lays.n196 Tryz.prog Tryz.lays196_ren:={
 mixed:=by kernel_rfl
 f196:=Tryz.func166.trans (congrArg some (by kernel_rfl))
 f259:=Tryz.func193.trans (congrArg some (by kernel_rfl))
 t0:=Tryz.underlying0
 a0:=Tryz.isAgg0
 z0:=Tryz.sizeOf0
 v0:=Tryz.zeroValue0
 t3:=Tryz.underlying3
 a3:=Tryz.isAgg3
 z3:=Tryz.sizeOf3
 v3:=Tryz.zeroValue3
 t4:=Tryz.underlying4
 a4:=Tryz.isAgg4
 z4:=Tryz.sizeOf4
 v4:=Tryz.zeroValue4
 t5:=Tryz.underlying5
 a5:=Tryz.isAgg5
 z5:=Tryz.sizeOf5
 v5:=Tryz.zeroValue5
 t9:=Tryz.underlying9
 a9:=Tryz.isAgg9
 z9:=Tryz.sizeOf9
 v9:=Tryz.zeroValue9
 t12:=Tryz.underlying12
 a12:=Tryz.isAgg12
 z12:=Tryz.sizeOf12
 v12:=Tryz.zeroValue12
 t46:=Tryz.underlying197
 a46:=Tryz.isAgg197
 z46:=Tryz.sizeOf197
 v46:=Tryz.zeroValue197
 t53:=Tryz.underlying43
 a53:=Tryz.isAgg43
 z53:=Tryz.sizeOf43
 v53:=Tryz.zeroValue43
 t119:=Tryz.underlying240
 a119:=Tryz.isAgg240
 z119:=Tryz.sizeOf240
 t138:=Tryz.underlying242
 a138:=Tryz.isAgg242
 z138:=Tryz.sizeOf242
 v138:=Tryz.zeroValue242
 t139:=Tryz.underlying243
 a139:=Tryz.isAgg243
 z139:=Tryz.sizeOf243
 v139:=Tryz.zeroValue243
 g3:=by kernel_rfl
 g4:=by kernel_rfl }
end Go.Proofs
namespace Go.Proofs.YticimejfjjmikaaGreatDoor
open Go.RowKit
def Tabs (w : World) : Prop:=Lib.Utf8Tabs (Tryz.lays196_ren.g 3) (Tryz.lays196_ren.g 4) w
theorem Tabs.below {w w' : World} (h : Tabs w) (hb : Below w.heap.size w w') : Tabs w':=Utf8Tabs_below h hb
def atomB (k : Int) : Bool:=decide (k = 1) || decide (k = 2) || decide (k = 3) || decide (k = 4) || decide (k = 6) || decide (k = 10) || decide (k = 11)
def numB (k n : Int) : Bool:=if k = 2 then decide (n = 0) || decide (n = 1) else if k = 4 then letB n else if k = 13 then decide (0 <= n) && decide (n <= 2) else decide (n = 0)
def countB (k : Int) (c : Nat) : Bool:=if k = 7 \/ k = 13 then decide (c = 2) else if k = 8 then decide (c <= 1024) else if k = 15 \/ k = 16 then true else decide (c = 0)
def textB (k : Int) (t : ByteArray) : Bool :=
 if k = 3 then printedB t else if k = 5 then Lib.validD t.data.toList && decide (Lib.runeCount t <= 1024) else if k = 6 then decide (t.size ≠ 0) && Lib.validD t.data.toList
 else if k = 9 then decide (t.size <= 1024) else if k = 12 \/ k = 15 then Lib.validD t.data.toList else decide (t.size = 0)
set_option maxHeartbeats 1000000 in
theorem atom_any (k : Int) (w : World) : Calls Tryz.prog 171 #[.int .i64 k] w fun e w'=>e = .returned (.bool (atomB k)) /\ w' = w:=by
 unfold atomB
 go_enter Tryz.func171,Tryz.ntmps171
 go_wp2
 all_goals (go_ret;refine ⟨?_,rfl⟩;simp_all)
set_option maxHeartbeats 1000000 in
theorem ratom_any (k : Int) (w : World) : Calls Tryz.prog 25 #[.int .i64 k] w fun e w'=>e = .returned (.bool (atomB k)) /\ w' = w:=by
 unfold atomB
 go_enter Tryz.func25,Tryz.ntmps25
 go_wp2
 all_goals (go_ret;refine ⟨?_,rfl⟩;simp_all)
theorem isLetter_any (n : Int) (w : World) : Calls Tryz.prog 195 #[.int .i64 n] w fun e w'=>e = .returned (.bool (letB n)) /\ w' = w:=by
 by_cases h1 : 0 <= n
 ·by_cases h2 : n <= 1114111
  ·have hv : ∀ wx, Calls Tryz.prog 192 #[.int .i32 n] wx fun e w' => e = .returned (.bool (letB n)) /\ w' = wx := fun wx => by
    refine (Any.utf8_ValidRune Tryz.lays119 n wx).mono ?_
    rintro e w' ⟨rfl,hw⟩
    refine ⟨?_,hw⟩
    congr 2
    unfold letB Lib.validRune
    rw [Bool.eq_iff_iff]
    simp only [Bool.and_eq_true,Bool.or_eq_true,decide_eq_true_eq]
    omega
   have HV:=hid hv
   clear hv
   generalize letB n = L at *
   go_enter Tryz.func195,Tryz.ntmps195
   go_wp2_with (go_at_call 192;refine (HV.out _).mono ?_;rintro e wz ⟨rfl,hwz⟩;rw [hwz])
   go_ret
   exact ⟨rfl,rfl⟩
  ·have hl : letB n = false := by unfold letB; simp [h2]
   rw [hl]
   go_enter Tryz.func195,Tryz.ntmps195
   go_wp2
   go_ret
   exact ⟨by simp [h2],rfl⟩
 ·have hl : letB n = false := by unfold letB; simp [h1]
  rw [hl]
  go_enter Tryz.func195,Tryz.ntmps195
  go_wp2
  go_ret
  exact ⟨by simp [h1],rfl⟩
theorem numB_2 (n : Int) : numB 2 n = (decide (n = 0) || decide (n = 1)):=rfl
theorem numB_4 (n : Int) : numB 4 n = letB n:=rfl
theorem numB_13 (n : Int) : numB 13 n = (decide (0 <= n) && decide (n <= 2)):=rfl
theorem numB_o {k : Int} (n : Int) (h1 : k ≠ 2) (h2 : k ≠ 4) (h3 : k ≠ 13) : numB k n = decide (n = 0):=by unfold numB;simp [h1,h2,h3]
theorem ret_b {a b : Bool} (h : a = b) : Ending.returned (.bool a) = .returned (.bool b):=by rw [h]
theorem beq_dec (a b : Int) : (a == b) = decide (a = b):=by rw [Bool.eq_iff_iff];simp
set_option maxHeartbeats 1000000 in
theorem goodNum_any (k n : Int) (w : World) : Calls Tryz.prog 168 #[.int .i64 k,.int .i64 n] w fun e w'=>e = .returned (.bool (numB k n)) /\ w' = w:=by
 by_cases h2 : k = 2
 ·subst h2
  rw [numB_2]
  by_cases hn : n = 0
  ·subst hn
   go_enter Tryz.func168,Tryz.ntmps168
   go_wp2
   go_ret
   exact ⟨rfl,rfl⟩
  ·have e1 : (n == 0) = false := by simp [hn]
   go_enter Tryz.func168,Tryz.ntmps168
   go_wp2
   go_ret
   exact ⟨ret_b (by rw [beq_dec];simp [hn]),rfl⟩
 ·by_cases h4 : k = 4
  ·subst h4
   rw [numB_4]
   have HL:=hid (isLetter_any n)
   generalize letB n = L at *
   go_enter Tryz.func168,Tryz.ntmps168
   go_wp2_with (go_at_call 195;refine (HL.out _).mono ?_;rintro e wz ⟨rfl,hwz⟩;rw [hwz])
   go_ret
   exact ⟨rfl,rfl⟩
  ·by_cases h13 : k = 13
   ·subst h13
    rw [numB_13]
    by_cases hn : 0 <= n
    ·go_enter Tryz.func168, Tryz.ntmps168
     go_wp2
     go_ret
     exact ⟨ret_b (by simp [hn]),rfl⟩
    ·have e1 : decide (0 <= n) = false := by simp [hn]
     go_enter Tryz.func168,Tryz.ntmps168
     go_wp2
     go_ret
     exact ⟨ret_b (by simp [e1]),rfl⟩
   ·rw [numB_o n h2 h4 h13]
    have e1 : (k == 2) = false:=by simp [h2]
    have e2 : (k == 4) = false:=by simp [h4]
    have e3 : (k == 13) = false:=by simp [h13]
    go_enter Tryz.func168,Tryz.ntmps168
    go_wp2
    go_ret
    exact ⟨ret_b (beq_dec n 0),rfl⟩
theorem countB_2 {k : Int} (c : Nat) (h : k = 7 \/ k = 13) : countB k c = decide (c = 2):=by unfold countB;rw [if_pos h]
theorem countB_8 (c : Nat) : countB 8 c = decide (c <= 1024):=rfl
theorem countB_t {k : Int} (c : Nat) (h : k = 15 \/ k = 16) : countB k c = true:=by
 rcases h with rfl | rfl <;> rfl
theorem countB_o {k : Int} (c : Nat) (h1 : k ≠ 7) (h2 : k ≠ 13) (h3 : k ≠ 8) (h4 : k ≠ 15) (h5 : k ≠ 16) : countB k c = decide (c = 0):=by unfold countB;simp [h1,h2,h3,h4,h5]
theorem beq_nat (a b : Nat) : ((a : Int) == (b : Int)) = decide (a = b):=by rw [Bool.eq_iff_iff,beq_iff_eq,decide_eq_true_eq];omega
set_option maxHeartbeats 1000000 in
theorem goodCount_any (k : Int) (c : Nat) (hc : c <= maxLen) (w : World) : Calls Tryz.prog 170 #[.int .i64 k,.int .i64 c] w fun e w'=>e = .returned (.bool (countB k c)) /\ w' = w:=by
 unfold maxLen at hc
 by_cases h1 : k = 7
 ·rw [countB_2 c (.inl h1)]
  subst h1
  go_enter Tryz.func170,Tryz.ntmps170
  go_wp2
  go_ret
  exact ⟨ret_b (beq_nat c 2),rfl⟩
 ·by_cases h2 : k = 13
  ·rw [countB_2 c (.inr h2)]
   subst h2
   go_enter Tryz.func170,Tryz.ntmps170
   go_wp2
   go_ret
   exact ⟨ret_b (beq_nat c 2),rfl⟩
  ·have e1 : (k == 7) = false := by simp [h1]
   have e2 : (k == 13) = false:=by simp [h2]
   by_cases h3 : k = 8
   ·subst h3
    rw [countB_8]
    go_enter Tryz.func170,Tryz.ntmps170
    go_wp2
    go_ret
    exact ⟨ret_b (by rw [Bool.eq_iff_iff];simp <;> omega),rfl⟩
   ·have e3 : (k == 8) = false := by simp [h3]
    by_cases h4 : k = 15
    ·rw [countB_t c (.inl h4)]
     subst h4
     go_enter Tryz.func170,Tryz.ntmps170
     go_wp2
     go_ret
     exact ⟨rfl,rfl⟩
    ·by_cases h5 : k = 16
     ·rw [countB_t c (.inr h5)]
      subst h5
      go_enter Tryz.func170,Tryz.ntmps170
      go_wp2
      go_ret
      exact ⟨rfl,rfl⟩
     ·have e4 : (k == 15) = false := by simp [h4]
      have e5 : (k == 16) = false:=by simp [h5]
      rw [countB_o c h1 h2 h3 h4 h5]
      go_enter Tryz.func170,Tryz.ntmps170
      go_wp2
      go_ret
      exact ⟨ret_b (beq_nat c 0),rfl⟩
theorem valid_any (t : ByteArray) (w : World) (ht : t.size <= maxLen) (hT : Tabs w) : Calls Tryz.prog 166 #[.string t] w fun e w'=>e = .returned (.bool (Lib.validD t.data.toList)) /\ Below w.heap.size w w' :=
 Any.utf8_ValidString Tryz.lays196 t w (by unfold maxLen at ht;exact ht) hT
theorem Bi (w : World) (s : ByteArray) (pos : Nat) : Below w.heap.size w (w.iter s pos):=Ba w _
theorem count_any (t : ByteArray) (w : World) (ht : t.size <= 1000000) : Calls Tryz.prog 173 #[.string t] w fun e w'=>e = .returned (.int .i64 (Lib.runeCount t)) /\ Below w.heap.size w w' :=
 (Any.utf8_RuneCountInString Tryz.lays195 t w (by omega)).mono fun e w' ⟨h1,pos,h2⟩=>⟨h1,h2 ▸ Bi w t pos⟩
theorem textB_3 (t : ByteArray) : textB 3 t = printedB t:=rfl
theorem textB_5 (t : ByteArray) : textB 5 t = (Lib.validD t.data.toList && decide (Lib.runeCount t <= 1024)):=rfl
theorem textB_6 (t : ByteArray) : textB 6 t = (decide (t.size ≠ 0) && Lib.validD t.data.toList):=rfl
theorem textB_9 (t : ByteArray) : textB 9 t = decide (t.size <= 1024):=rfl
theorem textB_v {k : Int} (t : ByteArray) (h : k = 12 \/ k = 15) : textB k t = Lib.validD t.data.toList:=by rcases h with rfl | rfl <;> rfl
theorem textB_o {k : Int} (t : ByteArray) (h1 : k ≠ 3) (h2 : k ≠ 5) (h3 : k ≠ 6) (h4 : k ≠ 9) (h5 : k ≠ 12) (h6 : k ≠ 15) : textB k t = decide (t.size = 0):=by unfold textB;simp [h1,h2,h3,h4,h5,h6]
theorem empty_dec (t : ByteArray) : decide (t = ByteArray.empty) = decide (t.size = 0):=by
 rw [Bool.eq_iff_iff,decide_eq_true_eq,decide_eq_true_eq]
 constructor
 ·rintro rfl;rfl
 ·intro h
  refine bs_ext ?_
  have h1 : bs t = []:=List.length_eq_zero_iff.1 (by rw [bs_length];exact h)
  have h2 : bs ByteArray.empty = []:=List.length_eq_zero_iff.1 (by rw [bs_length];rfl)
  rw [h1,h2]
set_option maxHeartbeats 1000000 in
theorem goodText_any (k : Int) (t : ByteArray) (w : World) (ht : t.size <= 1000000) (hT : Tabs w) : Calls Tryz.prog 169 #[.int .i64 k,.string t] w fun e w'=>e = .returned (.bool (textB k t)) /\ Below w.heap.size w w':=by
 have htm : t.size <= maxLen:=by unfold maxLen;omega
 by_cases h1 : k = 3
 ·subst h1
  rw [textB_3]
  have HP:=hid (isPrinted_any t)
  generalize printedB t = L at *
  go_enter Tryz.func169,Tryz.ntmps169
  go_wp2_with (go_at_call 196;refine (HP.out _ htm).mono ?_;rintro e wz ⟨rfl,hwz⟩)
  go_ret
  exact ⟨rfl,hwz⟩
 ·have e1 : (k == 3) = false := by simp [h1]
  have HV:=hid (valid_any t w htm hT)
  by_cases h2 : k = 5
  ·subst h2
   rw [textB_5]
   generalize Lib.validD t.data.toList = V at *
   have HC:=hid (fun w=>count_any t w ht)
   have hcl:=Lib.runeCount_le t
   generalize Lib.runeCount t = C at *
   cases V
   ·go_enter Tryz.func169, Tryz.ntmps169
    go_wp2_with (go_at_call 166;refine HV.out.mono ?_;rintro e wz ⟨rfl,hwz⟩)
    go_ret
    exact ⟨rfl,hwz⟩
   ·go_enter Tryz.func169, Tryz.ntmps169
    go_wp2_with (first | (go_at_call 166;refine HV.out.mono ?_;rintro e wz ⟨rfl,hwz⟩) | (go_at_call 173;refine (HC.out _).mono ?_;rintro e wy ⟨rfl,hwy⟩))
    go_ret
    exact ⟨ret_b (by rw [Bool.eq_iff_iff];simp <;> omega),Bt hwz hwy⟩
  ·have e2 : (k == 5) = false := by simp [h2]
   by_cases h3 : k = 6
   ·subst h3
    rw [textB_6]
    generalize Lib.validD t.data.toList = V at *
    by_cases h0 : t.size = 0
    ·have hem : t.toList.isEmpty = true := by rw [empty_iff]; simp [h0]
     go_enter Tryz.func169,Tryz.ntmps169
     go_wp2_with fail
     go_ret
     exact ⟨ret_b (by simp [h0]),Below.refl _ _⟩
    ·have hem : t.toList.isEmpty = false := by rw [empty_iff]; simp [h0]
     go_enter Tryz.func169,Tryz.ntmps169
     go_wp2_with (go_at_call 166;refine HV.out.mono ?_;rintro e wz ⟨rfl,hwz⟩)
     go_ret
     exact ⟨ret_b (by simp [h0]),hwz⟩
   ·have e3 : (k == 6) = false := by simp [h3]
    by_cases h4 : k = 9
    ·subst h4
     rw [textB_9]
     go_enter Tryz.func169,Tryz.ntmps169
     go_wp2
     go_ret
     exact ⟨ret_b (by rw [Bool.eq_iff_iff];simp <;> omega),Below.refl _ _⟩
    ·have e4 : (k == 9) = false := by simp [h4]
     by_cases h5 : k = 12
     ·rw [textB_v t (.inl h5)]
      subst h5
      generalize Lib.validD t.data.toList = V at *
      go_enter Tryz.func169,Tryz.ntmps169
      go_wp2_with (go_at_call 166;refine HV.out.mono ?_;rintro e wz ⟨rfl,hwz⟩)
      go_ret
      exact ⟨rfl,hwz⟩
     ·by_cases h6 : k = 15
      ·rw [textB_v t (.inr h6)]
       subst h6
       generalize Lib.validD t.data.toList = V at *
       go_enter Tryz.func169,Tryz.ntmps169
       go_wp2_with (go_at_call 166;refine HV.out.mono ?_;rintro e wz ⟨rfl,hwz⟩)
       go_ret
       exact ⟨rfl,hwz⟩
      ·have e5 : (k == 12) = false := by simp [h5]
       have e6 : (k == 15) = false:=by simp [h6]
       rw [textB_o t h1 h2 h3 h4 h5 h6]
       have hem:=empty_iff t
       go_enter Tryz.func169,Tryz.ntmps169
       go_wp2
       go_ret
       exact ⟨ret_b (empty_dec t),Below.refl _ _⟩
def NVal (k n : Int) (t : ByteArray) (ak : Option Addr) (nk ck : Nat) : Value:=.agg #[.int .i64 k,.int .i64 n,.string t,.slice ak nk ck]
set_option maxHeartbeats 1000000 in
theorem rnum_any (k n : Int) (t : ByteArray) (ak : Option Addr) (nk ck : Nat) (w : World) : Calls Tryz.prog 42 #[NVal k n t ak nk ck] w fun e w'=>e = .returned (.bool (numB k n)) /\ Below w.heap.size w w':=by
 unfold NVal
 have hb:=Ba w (.cells #[.int .i64 k,.int .i64 n,.string t,.slice ak nk ck] 54)
 by_cases h2 : k = 2
 ·subst h2
  rw [numB_2]
  by_cases hn : n = 0
  ·subst hn
   go_enter Tryz.func42,Tryz.ntmps42
   go_wp2
   go_ret
   exact ⟨rfl,hb⟩
  ·have e1 : (n == 0) = false := by simp [hn]
   go_enter Tryz.func42,Tryz.ntmps42
   go_wp2
   go_ret
   exact ⟨ret_b (by rw [beq_dec];simp [hn]),hb⟩
 ·by_cases h4 : k = 4
  ·subst h4
   rw [numB_4]
   have HL:=hid (letter_any n)
   generalize letB n = L at *
   go_enter Tryz.func42,Tryz.ntmps42
   go_wp2_with (go_at_call 83;refine (HL.out _).mono ?_;rintro e wz ⟨rfl,hwz⟩;rw [hwz])
   go_ret
   exact ⟨rfl,hb⟩
  ·by_cases h13 : k = 13
   ·subst h13
    rw [numB_13]
    by_cases hn : 0 <= n
    ·go_enter Tryz.func42, Tryz.ntmps42
     go_wp2
     go_ret
     exact ⟨ret_b (by simp [hn]),hb⟩
    ·have e1 : decide (0 <= n) = false := by simp [hn]
     go_enter Tryz.func42,Tryz.ntmps42
     go_wp2
     go_ret
     exact ⟨ret_b (by simp [e1]),hb⟩
   ·rw [numB_o n h2 h4 h13]
    have e1 : (k == 2) = false:=by simp [h2]
    have e2 : (k == 4) = false:=by simp [h4]
    have e3 : (k == 13) = false:=by simp [h13]
    go_enter Tryz.func42,Tryz.ntmps42
    go_wp2
    go_ret
    exact ⟨ret_b (beq_dec n 0),hb⟩
set_option maxHeartbeats 1000000 in
theorem rkids_any (k n : Int) (t : ByteArray) (ak : Option Addr) (c ck : Nat) (hc1 : c <= ck) (hc : ck <= maxLen) (w : World) : Calls Tryz.prog 43 #[NVal k n t ak c ck] w fun e w'=>e = .returned (.bool (countB k c)) /\ Below w.heap.size w w':=by
 unfold maxLen at hc
 unfold NVal
 have hb:=Ba w (.cells #[.int .i64 k,.int .i64 n,.string t,.slice ak c ck] 54)
 by_cases h1 : k = 7
 ·rw [countB_2 c (.inl h1)]
  subst h1
  go_enter Tryz.func43,Tryz.ntmps43
  go_wp2
  go_ret
  exact ⟨ret_b (beq_nat c 2),hb⟩
 ·by_cases h2 : k = 13
  ·rw [countB_2 c (.inr h2)]
   subst h2
   go_enter Tryz.func43,Tryz.ntmps43
   go_wp2
   go_ret
   exact ⟨ret_b (beq_nat c 2),hb⟩
  ·have e1 : (k == 7) = false := by simp [h1]
   have e2 : (k == 13) = false:=by simp [h2]
   by_cases h3 : k = 8
   ·subst h3
    rw [countB_8]
    go_enter Tryz.func43,Tryz.ntmps43
    go_wp2
    go_ret
    exact ⟨ret_b (by rw [Bool.eq_iff_iff];simp <;> omega),hb⟩
   ·have e3 : (k == 8) = false := by simp [h3]
    by_cases h4 : k = 15
    ·rw [countB_t c (.inl h4)]
     subst h4
     go_enter Tryz.func43,Tryz.ntmps43
     go_wp2
     go_ret
     exact ⟨rfl,hb⟩
    ·by_cases h5 : k = 16
     ·rw [countB_t c (.inr h5)]
      subst h5
      go_enter Tryz.func43,Tryz.ntmps43
      go_wp2
      go_ret
      exact ⟨rfl,hb⟩
     ·have e4 : (k == 15) = false := by simp [h4]
      have e5 : (k == 16) = false:=by simp [h5]
      rw [countB_o c h1 h2 h3 h4 h5]
      go_enter Tryz.func43,Tryz.ntmps43
      go_wp2
      go_ret
      exact ⟨ret_b (beq_nat c 0),hb⟩
theorem count_pos {t : ByteArray} (h : t.size ≠ 0) : 0 < Lib.runeCount t:=by
 unfold Lib.runeCount
 obtain ⟨f,hf⟩ : ∃ f,t.size = f + 1:=⟨t.size - 1,by omega⟩
 rw [hf]
 unfold Lib.runeCountFrom
 rw [if_pos (by omega)];omega
theorem count_zero {t : ByteArray} (h : t.size = 0) : Lib.runeCount t = 0:=by
 have:=Lib.runeCount_le t;omega
theorem valid_zero {t : ByteArray} (h : t.size = 0) : Lib.validD t.data.toList = true:=by
 have : t.data.toList = []:=List.length_eq_zero_iff.1 h
 rw [this];rfl
theorem utfN_bd (t : ByteArray) (h : t.size <= 1000000) : -1 <= utfN t /\ utfN t <= 1000000:=by
 have:=Lib.runeCount_le t
 unfold utfN;split <;> omega
theorem text5 (t : ByteArray) : textB 5 t = (decide (0 <= utfN t) && decide (utfN t <= 1024)):=by
 rw [textB_5,Bool.eq_iff_iff];unfold utfN
 cases Lib.validD t.data.toList <;> simp <;> omega
theorem text6 (t : ByteArray) : textB 6 t = decide (0 < utfN t):=by
 rw [textB_6,Bool.eq_iff_iff];unfold utfN
 by_cases h : t.size = 0
 ·rw [valid_zero h,count_zero h];simp [h]
 ·have := count_pos h
  cases Lib.validD t.data.toList <;> simp [h] <;> omega
theorem textV {k : Int} (t : ByteArray) (h : k = 12 \/ k = 15) : textB k t = decide (0 <= utfN t):=by
 rw [textB_v t h,Bool.eq_iff_iff];unfold utfN
 cases Lib.validD t.data.toList <;> simp <;> omega
set_option maxHeartbeats 2000000 in
theorem rtext3_any (n : Int) (t : ByteArray) (ak : Option Addr) (nk ck : Nat) (w : World) (ht : t.size <= 5000) : Calls Tryz.prog 41 #[NVal 3 n t ak nk ck] w fun e w'=>e = .returned (.bool (printedB t)) /\ Below w.heap.size w w':=by
 unfold NVal
 have hb:=Ba w (.cells #[.int .i64 3,.int .i64 n,.string t,.slice ak nk ck] 54)
 have hblk:=blk_new w #[.int .i64 3,.int .i64 n,.string t,.slice ak nk ck] 54
 have hsz:=size_alloc w (.cells #[.int .i64 3,.int .i64 n,.string t,.slice ak nk ck] 54)
 go_enter Tryz.func41,Tryz.ntmps41
 go_wp2_with fail
 obtain ⟨g,hg⟩ : ∃ g,g = w.heap.size:=⟨_,rfl⟩
 rw [<- hg] at hblk hsz
 rw [<- hg]
 generalize w.alloc (.cells #[.int .i64 3,.int .i64 n,.string t,.slice ak nk ck] 54) = W0 at *
 have HBK:=hid hblk
 have HB:=hid hb
 clear hblk hg hsz hb
 refine (rparse_any t 10 _ ht).mono ?_
 rintro e w1 ⟨x,en,rfl,b1,hP⟩
 obtain ⟨sg,ao,m,cap,l,rfl,R,hm,he1,he2,hE⟩ : ∃ sg ao m cap l,x = .agg #[.bool sg,.slice ao m cap] /\ Row .u32 B32 w1 ao m cap l /\ m <= 40 /\ -100 <= en /\ en <= 100 /\ ∀ s,bs s = printL sg (val B32 l) -> (decide (en = 0) && decide (s = t)) = printedB t:=by
  have e10 : (10 : Int).toNat = 10:=rfl
  rcases hP with ⟨h,_⟩ | ⟨_,hd,rfl,rfl⟩ | ⟨_,hd,hA⟩
  ·exact absurd ⟨by omega,by omega⟩ h
  ·refine ⟨false, none, 0, 0, [], rfl, Row.nil _ _ _ _, by omega, by omega, by omega, fun s hs => ?_⟩
   unfold printedB;rw [hd];rfl
  ·rcases ans_int hA with ⟨hb, rfl, ao, n, cap, l, rfl, R, g, hv_, hn⟩ | ⟨hb, rfl⟩
   ·refine ⟨_, ao, n, cap, l, rfl, R, hn, by omega, by omega, fun s hbs => ?_⟩
    unfold printedB
    rw [hv_] at hbs
    rw [e10] at hbs
    have hnb : hv 10 (cutS (bs t)).2 < B32 ^ 40:=by unfold Big at hb;rw [e10] at hb;omega
    rw [hd,<- hbs]
    simp only [Bool.true_and,hnb,decide_true]
    rw [Bool.eq_iff_iff,decide_eq_true_eq,decide_eq_true_eq]
    exact ⟨fun h=>by rw [h],fun h=>bs_ext h.symm⟩
   ·obtain ⟨sx, ax, nx, cx, lx, hx, Rx, _⟩ := hA.form'
    rcases hA with ⟨h1,_⟩ | ⟨_,_,h3⟩
    ·exact absurd hb h1
    ·refine ⟨false, none, 0, 0, [], h3, Row.nil _ _ _ _, by omega, by omega, by omega, fun s hs => ?_⟩
     unfold printedB
     have hnb : ¬ hv 10 (cutS (bs t)).2 < B32 ^ 40:=by unfold Big at hb;rw [e10] at hb;omega
     simp only [hnb,decide_false,Bool.and_false,Bool.false_and]
     rfl
 have b2:=Ba w1 (.cells #[.bool sg,.slice ao m cap] 104)
 have R2:=hid (R.below b2)
 have HB2:=hid (Bt (Bt HB.out b1) b2)
 have HK2:=hid (((Bt b1 b2).block g (Array.getElem?_eq_some_iff.1 HBK.out).1).trans HBK.out)
 have HE:=hid hE
 clear R b1 b2 hE hP HB HBK
 go_wp2_with fail
 generalize w1.alloc (.cells #[.bool sg,.slice ao m cap] 104) = w2 at *
 refine (rprint_all sg ao m cap l 10 w2 R2.out hm).mono ?_
 rintro e w3 ⟨s,ep,rfl,hpr,b3⟩
 obtain ⟨hbs,rfl⟩:=hpr.is
 have hfin:=hid (HE.out s hbs)
 have c2:=blk_cell ((b3.block g (Array.getElem?_eq_some_iff.1 HK2.out).1).trans HK2.out) 2
 have c2' : w3.cell? ⟨g,2,none⟩ = some (.string t):=c2
 have HB3:=hid (Bt HB2.out b3)
 clear hpr hbs b3 c2 HE HK2 R2
 by_cases h0 : en = 0
 ·subst h0
  go_wp2
  go_ret
  refine ⟨ret_b ?_,HB3.out⟩
  have:=hfin.out
  rw [<- this,str_eq];simp
 ·have e0 : (en == 0) = false := by simp [h0]
  go_wp2
  go_ret
  refine ⟨ret_b ?_,HB3.out⟩
  have:=hfin.out
  rw [<- this];simp [h0]
set_option maxHeartbeats 1000000 in
theorem rtext_any (k n : Int) (t : ByteArray) (ak : Option Addr) (nk ck : Nat) (w : World) (ht : t.size <= 5000) : Calls Tryz.prog 41 #[NVal k n t ak nk ck] w fun e w'=>e = .returned (.bool (textB k t)) /\ Below w.heap.size w w':=by
 by_cases h1 : k = 3
 ·subst h1;rw [textB_3];exact rtext3_any n t ak nk ck w ht
 ·unfold NVal
  have hb:=Ba w (.cells #[.int .i64 k,.int .i64 n,.string t,.slice ak nk ck] 54)
  have e1 : (k == 3) = false:=by simp [h1]
  have HU:=hid (fun w=>utf_any t w (by omega))
  obtain ⟨hu1,hu2⟩:=utfN_bd t (by omega)
  by_cases h2 : k = 5
  ·subst h2
   rw [text5]
   generalize utfN t = U at *
   by_cases hU : 0 <= U
   ·go_enter Tryz.func41, Tryz.ntmps41
    go_wp2_with (go_at_call 82;refine (HU.out _).mono ?_;rintro e wz ⟨rfl,kz,hwz⟩;rw [hwz])
    go_ret
    exact ⟨ret_b (by simp [hU]),Bt hb (Bd _ _)⟩
   ·have eU : decide (0 <= U) = false := by simp [hU]
    go_enter Tryz.func41,Tryz.ntmps41
    go_wp2_with (go_at_call 82;refine (HU.out _).mono ?_;rintro e wz ⟨rfl,kz,hwz⟩;rw [hwz])
    go_ret
    exact ⟨ret_b (by simp [eU]),Bt hb (Bd _ _)⟩
  ·have e2 : (k == 5) = false := by simp [h2]
   by_cases h3 : k = 6
   ·subst h3
    rw [text6]
    generalize utfN t = U at *
    go_enter Tryz.func41,Tryz.ntmps41
    go_wp2_with (go_at_call 82;refine (HU.out _).mono ?_;rintro e wz ⟨rfl,kz,hwz⟩;rw [hwz])
    go_ret
    exact ⟨rfl,Bt hb (Bd _ _)⟩
   ·have e3 : (k == 6) = false := by simp [h3]
    by_cases h4 : k = 9
    ·subst h4
     rw [textB_9]
     go_enter Tryz.func41,Tryz.ntmps41
     go_wp2
     go_ret
     exact ⟨ret_b (by rw [Bool.eq_iff_iff];simp <;> omega),hb⟩
    ·have e4 : (k == 9) = false := by simp [h4]
     by_cases h5 : k = 12
     ·rw [textV t (.inl h5)]
      subst h5
      generalize utfN t = U at *
      go_enter Tryz.func41,Tryz.ntmps41
      go_wp2_with (go_at_call 82;refine (HU.out _).mono ?_;rintro e wz ⟨rfl,kz,hwz⟩;rw [hwz])
      go_ret
      exact ⟨rfl,Bt hb (Bd _ _)⟩
     ·by_cases h6 : k = 15
      ·rw [textV t (.inr h6)]
       subst h6
       generalize utfN t = U at *
       go_enter Tryz.func41,Tryz.ntmps41
       go_wp2_with (go_at_call 82;refine (HU.out _).mono ?_;rintro e wz ⟨rfl,kz,hwz⟩;rw [hwz])
       go_ret
       exact ⟨rfl,Bt hb (Bd _ _)⟩
      ·have e5 : (k == 12) = false := by simp [h5]
       have e6 : (k == 15) = false:=by simp [h6]
       rw [textB_o t h1 h2 h3 h4 h5 h6]
       go_enter Tryz.func41,Tryz.ntmps41
       go_wp2
       go_ret
       exact ⟨ret_b (empty_iff t),hb⟩
end Go.Proofs.YticimejfjjmikaaGreatDoor
