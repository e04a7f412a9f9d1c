import Derived.Test.YtbkfinjajkjhaaaGreatDoorW14
import Derived.Test.YtbkfinjajkjhaaaGreatDoorW42
import Derived.Lib.ValidLaws
import Derived.Lib.RuneCount
import Derived.Laws.BitsAllLaws
set_option linter.unusedVariables false
set_option linter.unusedSimpArgs false
namespace Go.Proofs.YtbkfinjajkjhaaaGreatDoor
open Go.RowKit
theorem Tr.tail {a : Nat} {t : List Nat} (h : Tr (a :: t)) : Tr t := by
 cases t with
 | nil => exact .inl rfl
 | cons c t =>
  rcases h with h | h
  ·cases h
  ·refine .inr ?_
   simpa using h
theorem digits_unique {B : Nat} (hB : 1 < B) : ∀ {D D' : List Nat}, Dg B D -> Dg B D' -> Tr D -> Tr D' -> val B D = val B D' -> D = D'
 | [], [], _, _, _, _, _ => rfl
 | [], b :: t', _, _, _, h4, h => by
  have := h4.ne_zero (B := B) (by omega) (by simp)
  exact absurd h.symm this
 | a :: t, [], _, _, h3, _, h => by
  have := h3.ne_zero (B := B) (by omega) (by simp)
  exact absurd h this
 | a :: t, b :: t', h1, h2, h3, h4, h => by
  have ha : a < B := h1 a (by simp)
  have hb : b < B := h2 b (by simp)
  rw [val_cons, val_cons] at h
  have e1 : a = b := by
   have := congrArg (· % B) h
   simp only [Nat.add_mul_mod_self_left] at this
   rwa [Nat.mod_eq_of_lt ha, Nat.mod_eq_of_lt hb] at this
  subst e1
  have e2 : val B t = val B t' := Nat.eq_of_mul_eq_mul_left (show 0 < B by omega) (by omega)
  rw [digits_unique hB (fun x hx => h1 x (by simp [hx])) (fun x hx => h2 x (by simp [hx])) h3.tail h4.tail e2]
theorem bs_ext {s t : ByteArray} (h : bs s = bs t) : s = t := by
 cases s with | mk a => cases t with | mk b =>
 have : a.toList = b.toList := map_toNat_inj h
 rw [Array.toList_inj.1 this]
def Printed (neg : Bool) (v : Nat) (radix : Int) (s : ByteArray) (en : Int) : Prop :=
 (¬ (2 <= radix /\ radix <= 36) /\ bs s = [] /\ en = 1) \/
 ((2 <= radix /\ radix <= 36) /\ en = 0 /\ ∃ D, Dg radix.toNat D /\ Tr D /\ val radix.toNat D = v /\ bs s = (if D = [] then [48] else (if neg then [45] else []) ++ (D.map chr).reverse))
def PrPost (w : World) (neg : Bool) (v : Nat) (radix : Int) (e : Ending) (w' : World) : Prop := ∃ s en, e = .returned (.tuple #[.string s, .int .i64 en]) /\ Printed neg v radix s en /\ Below w.heap.size w w'
set_option maxHeartbeats 2000000 in
theorem print_all (neg : Bool) (ao : Option Addr) (n cap : Nat) (l : List Nat) (radix : Int) (w : World) (R : Row .u32 B32 w ao n cap l) (g1 : goodB neg l = true) :
  Calls Tryz.prog 88 #[.agg #[.bool neg, .slice ao n cap], .int .i64 radix] w (PrPost w neg (val B32 l) radix) := by
 by_cases hr : 2 <= radix /\ radix <= 36
 ·obtain ⟨rx, rfl⟩ := Int.eq_ofNat_of_zero_le (by omega : 0 <= radix)
  by_cases h0 : n = 0
  ·subst h0
   have HC : Hid (∀ wx, Calls Tryz.prog 103 #[.int .i64 rx] wx fun e w' => e = .returned (.bool true) /\ w' = wx) := fun wx => (isRadix_any rx wx).mono fun e w' ⟨h1, h2⟩ => ⟨by rw [h1]; simp; omega, h2⟩
   have hl : l = [] := List.length_eq_zero_iff.1 R.len
   subst hl
   have HR := hid R
   have G1 := hid g1
   have HRX := hid hr
   clear R g1 hr
   go_enter Tryz.func88, Tryz.ntmps88
   go_wp2_with fail
   refine (HC.out _).mono ?_
   rintro e wx ⟨rfl, hwx⟩
   rw [hwx]
   clear hwx
   go_wp2_with fail
   refine (good_any neg ao 0 cap [] _ (HR.out.below (Ba _ _))).mono ?_
   rintro e w1 ⟨rfl, hb1⟩
   rw [G1.out]
   have X1 := hid ((Box.new 55 w neg ao 0 cap).on hb1)
   have HB1 := hid (Bt (Ba w (.cells #[.bool neg, .slice ao 0 cap] 55)) hb1)
   obtain ⟨c0, c1⟩ := X1.out.c
   clear hb1
   go_wp2
   go_ret2
   exact ⟨_, _, rfl, .inr ⟨HRX.out, rfl, [], Dg.nil _, Tr.nil, rfl, by rw [if_pos rfl]; rfl⟩, HB1.out⟩
  ·refine (print_any neg ao n cap l rx w R g1 (by omega) (by omega) h0).mono fun e w' ⟨s, D, h1, h2, h3, h4, h5, h6⟩ => ⟨s, 0, h1, .inr ⟨hr, rfl, D, h2, h3, h4, ?_⟩, h6⟩
   have hD : D ≠ [] := by
    intro e
    subst e
    have := (goodB_tr g1).ne_zero (B := B32) (by decide) (fun e => h0 (by rw [<- R.len, e]; rfl))
    exact this h4.symm
   rw [h5, if_neg hD]
 ·have HC : Hid (∀ wx, Calls Tryz.prog 103 #[.int .i64 radix] wx fun e w' => e = .returned (.bool false) /\ w' = wx) := fun wx => (isRadix_any radix wx).mono fun e w' ⟨h1, h2⟩ => ⟨by rw [h1]; simp; omega, h2⟩
  have HR := hid hr
  clear hr R g1
  go_enter Tryz.func88, Tryz.ntmps88
  go_wp2_with (go_at_call 103; refine (HC.out _).mono ?_; rintro e wx ⟨rfl, hwx⟩; rw [hwx]; clear hwx)
  go_ret2
  exact ⟨_, _, rfl, .inl ⟨HR.out, rfl, rfl⟩, Ba _ _⟩
def letB (n : Int) : Bool := decide (0 <= n) && decide (n <= 1114111) && (decide (n < 55296) || decide (57343 < n))
theorem letB_valid (n : Int) : letB n = Utf8.valid n := by
 unfold letB Utf8.valid
 rw [Bool.eq_iff_iff]
 simp only [Bool.and_eq_true, Bool.or_eq_true, decide_eq_true_eq]
 omega
def runeD (s : ByteArray) (i : Nat) : Nat × Nat := if Utf8.decode s i = (65533, 1) then (0, 0) else Utf8.decode s i
def byteAt (s : ByteArray) (i : Nat) : Nat := (s.get! i).toNat
theorem byteAt_lt (s : ByteArray) (i : Nat) : byteAt s i < 256 := UInt8.toNat_lt _
theorem decode_eq (s : ByteArray) (i : Nat) : Utf8.decode s i =
  (if byteAt s i < 128 then (byteAt s i, 1)
  else if byteAt s i / 32 == 6 && (decide (i + 1 < s.size) && byteAt s (i + 1) / 64 == 2) then
   (if byteAt s i % 32 * 64 + byteAt s (i + 1) % 64 >= 128 then (byteAt s i % 32 * 64 + byteAt s (i + 1) % 64, 2) else (65533, 1))
  else if byteAt s i / 16 == 14 && (decide (i + 1 < s.size) && byteAt s (i + 1) / 64 == 2) && (decide (i + 2 < s.size) && byteAt s (i + 2) / 64 == 2) then
   (if decide (byteAt s i % 16 * 4096 + byteAt s (i + 1) % 64 * 64 + byteAt s (i + 2) % 64 >= 2048) && Utf8.valid (byteAt s i % 16 * 4096 + byteAt s (i + 1) % 64 * 64 + byteAt s (i + 2) % 64 : Nat) then (byteAt s i % 16 * 4096 + byteAt s (i + 1) % 64 * 64 + byteAt s (i + 2) % 64, 3) else (65533, 1))
  else if byteAt s i / 8 == 30 && (decide (i + 1 < s.size) && byteAt s (i + 1) / 64 == 2) && (decide (i + 2 < s.size) && byteAt s (i + 2) / 64 == 2) && (decide (i + 3 < s.size) && byteAt s (i + 3) / 64 == 2) then
   (if decide (byteAt s i % 8 * 262144 + byteAt s (i + 1) % 64 * 4096 + byteAt s (i + 2) % 64 * 64 + byteAt s (i + 3) % 64 >= 65536) && Utf8.valid (byteAt s i % 8 * 262144 + byteAt s (i + 1) % 64 * 4096 + byteAt s (i + 2) % 64 * 64 + byteAt s (i + 3) % 64 : Nat) then (byteAt s i % 8 * 262144 + byteAt s (i + 1) % 64 * 4096 + byteAt s (i + 2) % 64 * 64 + byteAt s (i + 3) % 64, 4) else (65533, 1))
  else (65533, 1)) := by
 rfl
set_option maxRecDepth 100000
theorem Ans.intL {w : World} {x : Value} {en : Int} {neg : Bool} {v : Nat} (h : Ans w x en neg v) : (¬ Big v /\ en = 0 /\ IsInt w x (sgn neg v)) \/ (Big v /\ en = 10 /\ IsInt w x 0) := by
 rcases h with ⟨h1, h2, l, h3, h4, h5⟩ | ⟨h1, h2, rfl⟩
 ·refine .inl ⟨h1, h2, ?_⟩
  rw [<- h5] at h1 ⊢
  exact is_mk h3 h4 h1
 ·exact .inr ⟨h1, h2, zero_is w⟩
theorem ppost_is {w w' : World} {s : List Nat} {radix : Int} {e : Ending} (h : ParsePost w s radix e w') (hr : 2 <= radix /\ radix <= 36) : ∃ sx ao n cap en z, e = .returned (.tuple #[.agg #[.bool sx, .slice ao n cap], .int .i64 en]) /\ Below w.heap.size w w' /\ IsInt w' (.agg #[.bool sx, .slice ao n cap]) z /\
  ((digitsB radix (cutS s).2 = false /\ en = 12) \/ (digitsB radix (cutS s).2 = true /\ Big (hv radix.toNat (cutS s).2) /\ en = 10) \/ (digitsB radix (cutS s).2 = true /\ ¬ Big (hv radix.toNat (cutS s).2) /\ en = 0 /\ z = sgn (cutS s).1 (hv radix.toNat (cutS s).2))) := by
 obtain ⟨x, en, rfl, hb, h⟩ := h
 rcases h with ⟨h1, _⟩ | ⟨_, h2, rfl, h3⟩ | ⟨_, h2, h3⟩
 ·exact absurd hr h1
 ·exact ⟨false, none, 0, 0, en, 0, rfl, hb, zero_is _, .inl ⟨h2, h3⟩⟩
 ·rcases h3.intL with ⟨k1, k2, k3⟩ | ⟨k1, k2, k3⟩
  ·obtain ⟨sx, ao, n, cap, l, rfl, _⟩ := k3.open_
   exact ⟨sx, ao, n, cap, en, _, rfl, hb, k3, .inr (.inr ⟨h2, k1, k2, rfl⟩)⟩
  ·obtain ⟨sx, ao, n, cap, l, rfl, _⟩ := k3.open_
   exact ⟨sx, ao, n, cap, en, _, rfl, hb, k3, .inr (.inl ⟨h2, k1, k2⟩)⟩
theorem hvf_lt (b : Nat) : ∀ (l : List Nat) (a : Nat), (∀ c ∈ l, dgt c < b) -> l.foldl (fun a c => a * b + dgt c) a < (a + 1) * b ^ l.length
 | [], a, _ => by simp
 | c :: l, a, h => by
  have h1 := hvf_lt b l (a * b + dgt c) (fun c' h' => h c' (.tail _ h'))
  have h2 := h c (.head _)
  have h3 : (a * b + dgt c + 1) * b ^ l.length <= (a + 1) * b * b ^ l.length := Nat.mul_le_mul_right _ (by rw [Nat.add_mul]; omega)
  rw [List.foldl_cons, List.length_cons, Nat.pow_succ, Nat.mul_comm (b ^ l.length) b, <- Nat.mul_assoc]
  omega
def numH (t : List Nat) : Option Nat := if (1 <= t.length /\ t.length <= 6) /\ digitsB 16 t = true /\ letB (hv 16 t : Nat) = true then some (hv 16 t) else none
def bstr (l : List Nat) : ByteArray := ⟨(l.map UInt8.ofNat).toArray⟩
theorem bytes_back {l : List Nat} (hd : Dg 256 l) : (l.map UInt8.ofNat).map UInt8.toNat = l := by
 rw [List.map_map]
 conv => rhs; rw [<- List.map_id l]
 apply List.map_congr_left
 intro x hx
 have := hd x hx
 simp only [Function.comp, id]
 rw [UInt8.toNat_ofNat']
 omega
theorem bs_bstr {l : List Nat} (hd : Dg 256 l) : bs (bstr l) = l := by
 unfold bs bstr; simpa using bytes_back hd
theorem bstr_size (l : List Nat) : (bstr l).size = l.length := by simp [bstr, ByteArray.size]
theorem test_str (s : ByteArray) (c : List UInt8) : (s.toList == c) = decide (bs s = c.map UInt8.toNat) := by
 rw [Lib.toList_data]
 unfold bs
 rw [Bool.eq_iff_iff]
 simp only [beq_iff_eq, decide_eq_true_eq]
 constructor
 ·rintro rfl; rfl
 ·intro h
  exact (List.map_inj_right (fun a b hab => UInt8.toNat_inj.1 hab)).1 h
theorem conv_at {w : World} {b o n cap : Nat} {l : List Nat} (hl : l.length = n) (hd : Dg 256 l) (hc : ∀ i, i < n -> w.cell? ⟨b, o + i, none⟩ = some (.int .u8 (l.getD i 0 : Nat))) :
  (convert 22 9 (.slice (some ⟨b, o, none⟩) n cap)).run Tryz.prog w = .ok (.string (bstr l)) w := by
 have := run_convert_bytes_back (P := Tryz.prog) w 22 9 5 ⟨b, o, none⟩ cap (l.map UInt8.ofNat) Tryz.underlying22 Tryz.underlying5 Tryz.underlying9 (fun j hj => by
  rw [List.length_map, hl] at hj
  have h1 := hc j hj
  have h2 : (l.map UInt8.ofNat)[j].toNat = l.getD j 0 := by
   rw [List.getElem_map, List.getD_eq_getElem?_getD, List.getElem?_eq_getElem (by omega), UInt8.toNat_ofNat']
   have := hd l[j] (List.getElem_mem _)
   simp only [Option.getD_some]
   omega
  rw [h2]
  unfold Addr.add
  by_cases h0 : j = 0
  ·subst h0; simpa using h1
  ·rw [if_neg h0]; exact h1)
 rw [List.length_map, hl] at this
 exact this
def te (l : List Nat) (i : Nat) : Nat :=
 if i < l.length then (if l.getD i 0 = 92 then te l (i + 2) else if l.getD i 0 = 34 then i else te l (i + 1)) else l.length
termination_by l.length - i
set_option maxHeartbeats 4000000 in
theorem textEnd_any (ao : Option Addr) (n cap : Nat) (l : List Nat) (w : World) (R : Row .u8 256 w ao n cap l) (hsm : n <= 1099511627776) :
  Calls Tryz.prog 80 #[.slice ao n cap] w fun e w' => e = .returned (.int .i64 (te l 1 : Nat)) /\ w' = w := by
 have hn := R.len
 have hf := R.fits
 have hm := R.most
 unfold maxLen at hm
 have HR := hid R
 clear R
 go_enter Tryz.func80, Tryz.ntmps80
 go_wp2
 go_loop [3] (fun i => ∃ q : Nat, 1 <= q /\ q <= n + 1 + 1 /\ i = .int .i64 q /\ Hid (te l 1 = te l q)) (fun i => n + 2 - (intOf i).toNat)
 case atStart => exact ⟨1, by omega, by omega, rfl, rfl⟩
 case round =>
  obtain ⟨q, h1, hq, rfl, hT⟩ := hrel
  by_cases hlt : q < n
  ·obtain ⟨b, o, rfl, hlb, hcc⟩ := HR.out.rd.some (by omega)
   have hc1 := hcc q (by omega)
   obtain ⟨c, hc⟩ : ∃ c, c = l.getD q 0 := ⟨_, rfl⟩
   have hcb : c < 256 := by rw [hc, List.getD_eq_getElem?_getD, List.getElem?_eq_getElem (by omega)]; exact HR.out.dg _ (List.getElem_mem _)
   have hte : Hid (te l q = if c = 92 then te l (q + 2) else if c = 34 then q else te l (q + 1)) := by unfold Hid; rw [te, if_pos (by omega), <- hc]
   rw [<- hc] at hc1
   clear hcc hc
   by_cases e1 : c = 92
   ·have e1' : ((c : Int) == 92) = true := by simp [e1]
    go_wp2
    exact ⟨⟨q + 2, by omega, by omega, by go_num, hT.out.trans (hte.out.trans (if_pos e1))⟩, by simp [intOf] <;> omega⟩
   ·have e1' : ((c : Int) == 92) = false := by simp; omega
    by_cases e2 : c = 34
    ·have e2' : ((c : Int) == 34) = true := by simp [e2]
     go_wp2
     go_ret
     rw [hT.out, hte.out, if_neg e1, if_pos e2]
     exact ⟨rfl, rfl⟩
    ·have e2' : ((c : Int) == 34) = false := by simp; omega
     go_wp2
     exact ⟨⟨q + 1, by omega, by omega, by go_num, hT.out.trans (hte.out.trans ((if_neg e1).trans (if_neg e2)))⟩, by simp [intOf] <;> omega⟩
  ·go_wp2
   go_ret
   rw [hT.out, te, if_neg (by omega), hn]
   exact ⟨rfl, rfl⟩
def rm (l : List Nat) (op : Int) (i : Nat) : Nat :=
 if i + 2 <= l.length then
  (if l.getD i 0 = 35 /\ l.getD (i + 1) 0 = 124 then (if op + 1 = 0 then i + 2 else rm l (op + 1) (i + 2))
   else if l.getD i 0 = 124 /\ l.getD (i + 1) 0 = 35 then (if op - 1 = 0 then i + 2 else rm l (op - 1) (i + 2))
   else if op = 0 then i + 1 else rm l op (i + 1))
 else 0
termination_by l.length - i
theorem pair_test {x y : Nat} (hx : x < 256) (hy : y < 256) (c : List UInt8) {a b : Nat} (hc : c.map UInt8.toNat = [a, b]) : ((bstr [x, y]).toList == c) = decide (x = a /\ y = b) := by
 have d1 : Dg 256 [x, y] := by intro z hz; simp at hz; omega
 rw [test_str, bs_bstr d1, hc]
 simp
set_option maxHeartbeats 4000000 in
theorem remarkSize_any (ao : Option Addr) (n cap : Nat) (l : List Nat) (w : World) (R : Row .u8 256 w ao n cap l) (hsm : n <= 1099511627776) :
  Calls Tryz.prog 78 #[.slice ao n cap] w fun e w' => e = .returned (.int .i64 (rm l 0 0 : Nat)) /\ w' = w := by
 have hn := R.len
 have hf := R.fits
 have hm := R.most
 unfold maxLen at hm
 have HR := hid R
 clear R
 go_enter Tryz.func78, Tryz.ntmps78
 go_wp2
 go_loop [3, 4] (fun o i => ∃ q : Nat, ∃ op : Int, q <= n /\ i = .int .i64 q /\ o = .int .i64 op /\ -(q : Int) <= op /\ op <= q /\ Hid (rm l 0 0 = rm l op q)) (fun _ i => n + 2 - (intOf i).toNat)
 case atStart => exact ⟨0, 0, by omega, rfl, rfl, by omega, by omega, rfl⟩
 case round =>
  obtain ⟨q, op, hq, rfl, rfl, h1, h2, hT⟩ := hrel
  by_cases hlt : q + 2 <= n
  ·obtain ⟨b, o, rfl, hlb, hcc⟩ := HR.out.rd.some (by omega)
   have hx0 := hcc q (by omega)
   have hx1 := hcc (q + 1) (by omega)
   obtain ⟨x, hx⟩ : ∃ c, c = l.getD q 0 := ⟨_, rfl⟩
   obtain ⟨y, hy⟩ : ∃ c, c = l.getD (q + 1) 0 := ⟨_, rfl⟩
   have hxb : x < 256 := by rw [hx, List.getD_eq_getElem?_getD, List.getElem?_eq_getElem (by omega)]; exact HR.out.dg _ (List.getElem_mem _)
   have hyb : y < 256 := by rw [hy, List.getD_eq_getElem?_getD, List.getElem?_eq_getElem (by omega)]; exact HR.out.dg _ (List.getElem_mem _)
   have hrm : Hid (rm l op q = if x = 35 /\ y = 124 then (if op + 1 = 0 then q + 2 else rm l (op + 1) (q + 2)) else if x = 124 /\ y = 35 then (if op - 1 = 0 then q + 2 else rm l (op - 1) (q + 2)) else if op = 0 then q + 1 else rm l op (q + 1)) := by unfold Hid; rw [rm, if_pos (by omega), <- hx, <- hy]
   rw [<- hx] at hx0
   rw [<- hy] at hx1
   have hcv : (convert 22 9 (.slice (some ⟨b, o + q, none⟩) 2 (cap - q))).run Tryz.prog w = .ok (.string (bstr [x, y])) w := conv_at rfl (by intro z hz; simp at hz; omega) (fun i hi => by
    have : i = 0 \/ i = 1 := by omega
    rcases this with rfl | rfl
    ·exact hx0
    ·exact hx1)
   clear hcc hx hy hx0 hx1
   have t1 := pair_test hxb hyb [35, 124] (a := 35) (b := 124) rfl
   have t2 := pair_test hxb hyb [124, 35] (a := 124) (b := 35) rfl
   generalize bstr [x, y] = S at *
   by_cases e1 : x = 35 /\ y = 124
   ·rw [decide_eq_true e1] at t1
    clear t2
    have hr1 := hid (hrm.out.trans (if_pos e1))
    clear hrm e1
    by_cases e0 : op + 1 = 0
    ·have e0' : (op + 1 == 0) = true := by simp [e0]
     go_wp2
     go_ret
     rw [hT.out, hr1.out, if_pos e0]
     exact ⟨rfl, rfl⟩
    ·have e0' : (op + 1 == 0) = false := by simp [e0]
     go_wp2
     exact ⟨⟨q + 2, op + 1, by omega, by go_num, rfl, by omega, by omega, hT.out.trans (hr1.out.trans (if_neg e0))⟩, by simp [intOf] <;> omega⟩
   ·rw [decide_eq_false e1] at t1
    by_cases e2 : x = 124 /\ y = 35
    ·rw [decide_eq_true e2] at t2
     have hr1 := hid (hrm.out.trans ((if_neg e1).trans (if_pos e2)))
     clear hrm e1 e2
     by_cases e0 : op - 1 = 0
     ·have e0' : (op - 1 == 0) = true := by simp [e0]
      go_wp2
      go_ret
      rw [hT.out, hr1.out, if_pos e0]
      exact ⟨rfl, rfl⟩
     ·have e0' : (op - 1 == 0) = false := by simp [e0]
      go_wp2
      exact ⟨⟨q + 2, op - 1, by omega, by go_num, rfl, by omega, by omega, hT.out.trans (hr1.out.trans (if_neg e0))⟩, by simp [intOf] <;> omega⟩
    ·rw [decide_eq_false e2] at t2
     have hr1 := hid (hrm.out.trans ((if_neg e1).trans (if_neg e2)))
     clear hrm e1 e2
     by_cases e0 : op = 0
     ·have e0' : (op == 0) = true := by simp [e0]
      go_wp2
      go_ret
      rw [hT.out, hr1.out, if_pos e0]
      exact ⟨rfl, rfl⟩
     ·have e0' : (op == 0) = false := by simp [e0]
      go_wp2
      exact ⟨⟨q + 1, op, by omega, by go_num, rfl, by omega, by omega, hT.out.trans (hr1.out.trans (if_neg e0))⟩, by simp [intOf] <;> omega⟩
  ·go_wp2
   go_ret
   rw [hT.out, rm, if_neg (by omega)]
   exact ⟨rfl, rfl⟩
end Go.Proofs.YtbkfinjajkjhaaaGreatDoor
