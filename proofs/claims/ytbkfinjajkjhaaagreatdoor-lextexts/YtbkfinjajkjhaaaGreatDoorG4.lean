import Derived.Test.YtbkfinjajkjhaaaGreatDoorW42
import Derived.Test.YtbkfinjajkjhaaaGreatDoorG3
import Derived.Test.YtbkfinjajkjhaaaGreatDoorW14
set_option linter.unusedVariables false
set_option linter.unusedSimpArgs false
set_option maxRecDepth 100000
namespace Go.Proofs.YtbkfinjajkjhaaaGreatDoor
open Go.RowKit
theorem Ans.intL {w : World} {x : Value} {en : Int} {neg : Bool} {v : Nat} (h : Ans w x en neg v) : (¬ Big v /\ en = 0 /\ IsInt w x (sgn neg v)) \/ (Big v /\ en = 10 /\ IsInt w x 0) := by
 rcases h with ⟨h1, h2, l, h3, h4, h5⟩ | ⟨h1, h2, rfl⟩
 ·refine .inl ⟨h1, h2, ?_⟩
  rw [<- h5] at h1 ⊢
  exact is_mk h3 h4 h1
 ·exact .inr ⟨h1, h2, zero_is w⟩
theorem ppost_is {w w' : World} {s : List Nat} {radix : Int} {e : Ending} (h : ParsePost w s radix e w') (hr : 2 <= radix /\ radix <= 36) : ∃ sx ao n cap en z, e = .returned (.tuple #[.agg #[.bool sx, .slice ao n cap], .int .i64 en]) /\ Below w.heap.size w w' /\ IsInt w' (.agg #[.bool sx, .slice ao n cap]) z /\
  ((digitsB radix (cutS s).2 = false /\ en = 12) \/ (digitsB radix (cutS s).2 = true /\ Big (hv radix.toNat (cutS s).2) /\ en = 10) \/ (digitsB radix (cutS s).2 = true /\ ¬ Big (hv radix.toNat (cutS s).2) /\ en = 0 /\ z = sgn (cutS s).1 (hv radix.toNat (cutS s).2))) := by
 obtain ⟨x, en, rfl, hb, h⟩ := h
 rcases h with ⟨h1, _⟩ | ⟨_, h2, rfl, h3⟩ | ⟨_, h2, h3⟩
 ·exact absurd hr h1
 ·exact ⟨false, none, 0, 0, en, 0, rfl, hb, zero_is _, .inl ⟨h2, h3⟩⟩
 ·rcases h3.intL with ⟨k1, k2, k3⟩ | ⟨k1, k2, k3⟩
  ·obtain ⟨sx, ao, n, cap, l, rfl, _⟩ := k3.open_
   exact ⟨sx, ao, n, cap, en, _, rfl, hb, k3, .inr (.inr ⟨h2, k1, k2, rfl⟩)⟩
  ·obtain ⟨sx, ao, n, cap, l, rfl, _⟩ := k3.open_
   exact ⟨sx, ao, n, cap, en, _, rfl, hb, k3, .inr (.inl ⟨h2, k1, k2⟩)⟩
theorem hvf_lt (b : Nat) : ∀ (l : List Nat) (a : Nat), (∀ c ∈ l, dgt c < b) -> l.foldl (fun a c => a * b + dgt c) a < (a + 1) * b ^ l.length
 | [], a, _ => by simp
 | c :: l, a, h => by
  have h1 := hvf_lt b l (a * b + dgt c) (fun c' h' => h c' (.tail _ h'))
  have h2 := h c (.head _)
  have h3 : (a * b + dgt c + 1) * b ^ l.length <= (a + 1) * b * b ^ l.length := Nat.mul_le_mul_right _ (by rw [Nat.add_mul]; omega)
  rw [List.foldl_cons, List.length_cons, Nat.pow_succ, Nat.mul_comm (b ^ l.length) b, <- Nat.mul_assoc]
  omega
def numH (t : List Nat) : Option Nat := if (1 <= t.length /\ t.length <= 6) /\ digitsB 16 t = true /\ letB (hv 16 t : Nat) = true then some (hv 16 t) else none
def bstr (l : List Nat) : ByteArray := ⟨(l.map UInt8.ofNat).toArray⟩
theorem bytes_back {l : List Nat} (hd : Dg 256 l) : (l.map UInt8.ofNat).map UInt8.toNat = l := by
 rw [List.map_map]
 conv => rhs; rw [<- List.map_id l]
 apply List.map_congr_left
 intro x hx
 have := hd x hx
 simp only [Function.comp, id]
 rw [UInt8.toNat_ofNat']
 omega
theorem bs_bstr {l : List Nat} (hd : Dg 256 l) : bs (bstr l) = l := by
 unfold bs bstr; simpa using bytes_back hd
theorem bstr_size (l : List Nat) : (bstr l).size = l.length := by simp [bstr, ByteArray.size]
theorem test_str (s : ByteArray) (c : List UInt8) : (s.toList == c) = decide (bs s = c.map UInt8.toNat) := by
 rw [Lib.toList_data]
 unfold bs
 rw [Bool.eq_iff_iff]
 simp only [beq_iff_eq, decide_eq_true_eq]
 constructor
 ·rintro rfl; rfl
 ·intro h
  exact (List.map_inj_right (fun a b hab => UInt8.toNat_inj.1 hab)).1 h
theorem conv_at {w : World} {b o n cap : Nat} {l : List Nat} (hl : l.length = n) (hd : Dg 256 l) (hc : ∀ i, i < n -> w.cell? ⟨b, o + i, none⟩ = some (.int .u8 (l.getD i 0 : Nat))) :
  (convert 22 9 (.slice (some ⟨b, o, none⟩) n cap)).run Tryz.prog w = .ok (.string (bstr l)) w := by
 have := run_convert_bytes_back (P := Tryz.prog) w 22 9 5 ⟨b, o, none⟩ cap (l.map UInt8.ofNat) Tryz.underlying22 Tryz.underlying5 Tryz.underlying9 (fun j hj => by
  rw [List.length_map, hl] at hj
  have h1 := hc j hj
  have h2 : (l.map UInt8.ofNat)[j].toNat = l.getD j 0 := by
   rw [List.getElem_map, List.getD_eq_getElem?_getD, List.getElem?_eq_getElem (by omega), UInt8.toNat_ofNat']
   have := hd l[j] (List.getElem_mem _)
   simp only [Option.getD_some]
   omega
  rw [h2]
  unfold Addr.add
  by_cases h0 : j = 0
  ·subst h0; simpa using h1
  ·rw [if_neg h0]; exact h1)
 rw [List.length_map, hl] at this
 exact this
def te (l : List Nat) (i : Nat) : Nat :=
 if i < l.length then (if l.getD i 0 = 92 then te l (i + 2) else if l.getD i 0 = 34 then i else te l (i + 1)) else l.length
termination_by l.length - i
set_option maxHeartbeats 4000000 in
theorem textEnd_any (ao : Option Addr) (n cap : Nat) (l : List Nat) (w : World) (R : Row .u8 256 w ao n cap l) (hsm : n <= 1099511627776) :
  Calls Tryz.prog 80 #[.slice ao n cap] w fun e w' => e = .returned (.int .i64 (te l 1 : Nat)) /\ w' = w := by
 have hn := R.len
 have hf := R.fits
 have hm := R.most
 unfold maxLen at hm
 have HR := hid R
 clear R
 go_enter Tryz.func80, Tryz.ntmps80
 go_wp2
 go_loop [3] (fun i => ∃ q : Nat, 1 <= q /\ q <= n + 1 + 1 /\ i = .int .i64 q /\ Hid (te l 1 = te l q)) (fun i => n + 2 - (intOf i).toNat)
 case atStart => exact ⟨1, by omega, by omega, rfl, rfl⟩
 case round =>
  obtain ⟨q, h1, hq, rfl, hT⟩ := hrel
  by_cases hlt : q < n
  ·obtain ⟨b, o, rfl, hlb, hcc⟩ := HR.out.rd.some (by omega)
   have hc1 := hcc q (by omega)
   obtain ⟨c, hc⟩ : ∃ c, c = l.getD q 0 := ⟨_, rfl⟩
   have hcb : c < 256 := by rw [hc, List.getD_eq_getElem?_getD, List.getElem?_eq_getElem (by omega)]; exact HR.out.dg _ (List.getElem_mem _)
   have hte : Hid (te l q = if c = 92 then te l (q + 2) else if c = 34 then q else te l (q + 1)) := by unfold Hid; rw [te, if_pos (by omega), <- hc]
   rw [<- hc] at hc1
   clear hcc hc
   by_cases e1 : c = 92
   ·have e1' : ((c : Int) == 92) = true := by simp [e1]
    go_wp2
    exact ⟨⟨q + 2, by omega, by omega, by go_num, hT.out.trans (hte.out.trans (if_pos e1))⟩, by simp [intOf] <;> omega⟩
   ·have e1' : ((c : Int) == 92) = false := by simp; omega
    by_cases e2 : c = 34
    ·have e2' : ((c : Int) == 34) = true := by simp [e2]
     go_wp2
     go_ret
     rw [hT.out, hte.out, if_neg e1, if_pos e2]
     exact ⟨rfl, rfl⟩
    ·have e2' : ((c : Int) == 34) = false := by simp; omega
     go_wp2
     exact ⟨⟨q + 1, by omega, by omega, by go_num, hT.out.trans (hte.out.trans ((if_neg e1).trans (if_neg e2)))⟩, by simp [intOf] <;> omega⟩
  ·go_wp2
   go_ret
   rw [hT.out, te, if_neg (by omega), hn]
   exact ⟨rfl, rfl⟩
def rm (l : List Nat) (op : Int) (i : Nat) : Nat :=
 if i + 2 <= l.length then
  (if l.getD i 0 = 35 /\ l.getD (i + 1) 0 = 124 then (if op + 1 = 0 then i + 2 else rm l (op + 1) (i + 2))
   else if l.getD i 0 = 124 /\ l.getD (i + 1) 0 = 35 then (if op - 1 = 0 then i + 2 else rm l (op - 1) (i + 2))
   else if op = 0 then i + 1 else rm l op (i + 1))
 else 0
termination_by l.length - i
theorem pair_test {x y : Nat} (hx : x < 256) (hy : y < 256) (c : List UInt8) {a b : Nat} (hc : c.map UInt8.toNat = [a, b]) : ((bstr [x, y]).toList == c) = decide (x = a /\ y = b) := by
 have d1 : Dg 256 [x, y] := by intro z hz; simp at hz; omega
 rw [test_str, bs_bstr d1, hc]
 simp
set_option maxHeartbeats 4000000 in
theorem remarkSize_any (ao : Option Addr) (n cap : Nat) (l : List Nat) (w : World) (R : Row .u8 256 w ao n cap l) (hsm : n <= 1099511627776) :
  Calls Tryz.prog 78 #[.slice ao n cap] w fun e w' => e = .returned (.int .i64 (rm l 0 0 : Nat)) /\ w' = w := by
 have hn := R.len
 have hf := R.fits
 have hm := R.most
 unfold maxLen at hm
 have HR := hid R
 clear R
 go_enter Tryz.func78, Tryz.ntmps78
 go_wp2
 go_loop [3, 4] (fun o i => ∃ q : Nat, ∃ op : Int, q <= n /\ i = .int .i64 q /\ o = .int .i64 op /\ -(q : Int) <= op /\ op <= q /\ Hid (rm l 0 0 = rm l op q)) (fun _ i => n + 2 - (intOf i).toNat)
 case atStart => exact ⟨0, 0, by omega, rfl, rfl, by omega, by omega, rfl⟩
 case round =>
  obtain ⟨q, op, hq, rfl, rfl, h1, h2, hT⟩ := hrel
  by_cases hlt : q + 2 <= n
  ·obtain ⟨b, o, rfl, hlb, hcc⟩ := HR.out.rd.some (by omega)
   have hx0 := hcc q (by omega)
   have hx1 := hcc (q + 1) (by omega)
   obtain ⟨x, hx⟩ : ∃ c, c = l.getD q 0 := ⟨_, rfl⟩
   obtain ⟨y, hy⟩ : ∃ c, c = l.getD (q + 1) 0 := ⟨_, rfl⟩
   have hxb : x < 256 := by rw [hx, List.getD_eq_getElem?_getD, List.getElem?_eq_getElem (by omega)]; exact HR.out.dg _ (List.getElem_mem _)
   have hyb : y < 256 := by rw [hy, List.getD_eq_getElem?_getD, List.getElem?_eq_getElem (by omega)]; exact HR.out.dg _ (List.getElem_mem _)
   have hrm : Hid (rm l op q = if x = 35 /\ y = 124 then (if op + 1 = 0 then q + 2 else rm l (op + 1) (q + 2)) else if x = 124 /\ y = 35 then (if op - 1 = 0 then q + 2 else rm l (op - 1) (q + 2)) else if op = 0 then q + 1 else rm l op (q + 1)) := by unfold Hid; rw [rm, if_pos (by omega), <- hx, <- hy]
   rw [<- hx] at hx0
   rw [<- hy] at hx1
   have hcv : (convert 22 9 (.slice (some ⟨b, o + q, none⟩) 2 (cap - q))).run Tryz.prog w = .ok (.string (bstr [x, y])) w := conv_at rfl (by intro z hz; simp at hz; omega) (fun i hi => by
    have : i = 0 \/ i = 1 := by omega
    rcases this with rfl | rfl
    ·exact hx0
    ·exact hx1)
   clear hcc hx hy hx0 hx1
   have t1 := pair_test hxb hyb [35, 124] (a := 35) (b := 124) rfl
   have t2 := pair_test hxb hyb [124, 35] (a := 124) (b := 35) rfl
   generalize bstr [x, y] = S at *
   by_cases e1 : x = 35 /\ y = 124
   ·rw [decide_eq_true e1] at t1
    clear t2
    have hr1 := hid (hrm.out.trans (if_pos e1))
    clear hrm e1
    by_cases e0 : op + 1 = 0
    ·have e0' : (op + 1 == 0) = true := by simp [e0]
     go_wp2
     go_ret
     rw [hT.out, hr1.out, if_pos e0]
     exact ⟨rfl, rfl⟩
    ·have e0' : (op + 1 == 0) = false := by simp [e0]
     go_wp2
     exact ⟨⟨q + 2, op + 1, by omega, by go_num, rfl, by omega, by omega, hT.out.trans (hr1.out.trans (if_neg e0))⟩, by simp [intOf] <;> omega⟩
   ·rw [decide_eq_false e1] at t1
    by_cases e2 : x = 124 /\ y = 35
    ·rw [decide_eq_true e2] at t2
     have hr1 := hid (hrm.out.trans ((if_neg e1).trans (if_pos e2)))
     clear hrm e1 e2
     by_cases e0 : op - 1 = 0
     ·have e0' : (op - 1 == 0) = true := by simp [e0]
      go_wp2
      go_ret
      rw [hT.out, hr1.out, if_pos e0]
      exact ⟨rfl, rfl⟩
     ·have e0' : (op - 1 == 0) = false := by simp [e0]
      go_wp2
      exact ⟨⟨q + 2, op - 1, by omega, by go_num, rfl, by omega, by omega, hT.out.trans (hr1.out.trans (if_neg e0))⟩, by simp [intOf] <;> omega⟩
    ·rw [decide_eq_false e2] at t2
     have hr1 := hid (hrm.out.trans ((if_neg e1).trans (if_neg e2)))
     clear hrm e1 e2
     by_cases e0 : op = 0
     ·have e0' : (op == 0) = true := by simp [e0]
      go_wp2
      go_ret
      rw [hT.out, hr1.out, if_pos e0]
      exact ⟨rfl, rfl⟩
     ·have e0' : (op == 0) = false := by simp [e0]
      go_wp2
      exact ⟨⟨q + 1, op, by omega, by go_num, rfl, by omega, by omega, hT.out.trans (hr1.out.trans (if_neg e0))⟩, by simp [intOf] <;> omega⟩
  ·go_wp2
   go_ret
   rw [hT.out, rm, if_neg (by omega)]
   exact ⟨rfl, rfl⟩
theorem decode_le (s : ByteArray) (i : Nat) : 1 <= (Utf8.decode s i).2 /\ (Utf8.decode s i).2 <= 4 := by
 rw [decode_eq]
 repeat' split
 all_goals simp
def utfN (s : ByteArray) : Int := if Lib.validD s.data.toList then (Lib.runeCount s : Int) else -1
structure Uv (s : ByteArray) (p c fuel : Nat) : Prop where
 v : Lib.validD s.data.toList = Lib.validD (s.data.toList.drop p)
 c : c + Lib.runeCountFrom s fuel p = Lib.runeCount s
 f : s.size <= p + fuel
theorem Uv.bad {s : ByteArray} {p c fuel : Nat} (h : Uv s p c fuel) (hp : p < s.size) (hb : (runeD s p).2 = 0) : utfN s = -1 := by
 have hd : Utf8.decode s p = (65533, 1) := by
  unfold runeD at hb
  split at hb
  ·assumption
  ·have := (decode_le s p).1; omega
 unfold utfN
 rw [h.v, Lib.validD_step _ (by intro e; have := congrArg List.length e; simp at this; have h2 : s.data.size = s.size := rfl; omega), Lib.decodeL_drop, hd]
 simp
theorem Uv.next {s : ByteArray} {p c fuel : Nat} (h : Uv s p c (fuel + 1)) (hp : p < s.size) (hb : (runeD s p).2 ≠ 0) : Uv s (p + (runeD s p).2) (c + 1) fuel /\ 1 <= (runeD s p).2 /\ (runeD s p).2 <= 4 := by
 have hne : ¬ Utf8.decode s p = (65533, 1) := by
  intro e; unfold runeD at hb; rw [if_pos e] at hb; exact hb rfl
 have e : runeD s p = Utf8.decode s p := by unfold runeD; rw [if_neg hne]
 rw [e]
 have hl := decode_le s p
 refine ⟨⟨?_, ?_, ?_⟩, hl⟩
 ·rw [h.v, Lib.validD_step _ (by intro e; have := congrArg List.length e; simp at this; have h2 : s.data.size = s.size := rfl; omega), Lib.decodeL_drop, if_neg, List.drop_drop]
  intro h2
  exact hne (Prod.ext h2.1 h2.2)
 ·have := h.c
  unfold Lib.runeCountFrom at this
  rw [if_pos hp] at this
  omega
 ·have := h.f; omega
theorem Uv.end_ {s : ByteArray} {p c fuel : Nat} (h : Uv s p c fuel) (hp : ¬ p < s.size) : utfN s = c := by
 unfold utfN
 rw [h.v, List.drop_eq_nil_of_le (by have h2 : s.data.size = s.size := rfl; simp; omega)]
 have := h.c
 rw [Lib.runeCountFrom_end s fuel p hp] at this
 rw [if_pos Lib.validD_nil]; omega
set_option maxHeartbeats 1000000 in
theorem utf_any (s : ByteArray) (w : World) (hs : s.size <= 1000000) : Calls Tryz.prog 18 #[.string s] w fun e w' => e = .returned (.int .i64 (utfN s)) /\ ∃ k, w' = w.drewN k := by
 go_enter Tryz.func18, Tryz.ntmps18
 go_wp2
 go_loopw [3, 4] (fun n i wr => ∃ p c fuel : Nat, i = .int .i64 p /\ n = .int .i64 c /\ c <= p /\ p <= s.size + 4 /\ Hid (Uv s p c fuel /\ ∃ k, wr = w.drewN k)) (fun _ i _ => s.size + 4 - (intOf i).toNat)
 case atStart => exact ⟨0, 0, s.size, rfl, rfl, Nat.le_refl _, by omega, ⟨rfl, by simp [Lib.runeCount], by omega⟩, 0, rfl⟩
 case round =>
  obtain ⟨p, c, fuel, rfl, rfl, hcp, hps, hI⟩ := hrel
  by_cases hlt : p < s.size
  ·have HC := hid (rune_any s p wr hlt hs)
   obtain ⟨f, rfl⟩ : ∃ f, fuel = f + 1 := ⟨fuel - 1, by have := hI.out.1.f; omega⟩
   have HN : Hid ((runeD s p).2 ≠ 0 -> Uv s (p + (runeD s p).2) (c + 1) f /\ 1 <= (runeD s p).2 /\ (runeD s p).2 <= 4) := hI.out.1.next hlt
   have HBAD : Hid ((runeD s p).2 = 0 -> utfN s = -1) := hI.out.1.bad hlt
   obtain ⟨k, hk⟩ : ∃ k, k = (runeD s p).2 := ⟨_, rfl⟩
   unfold RunePost at HC
   rw [<- hk] at HC HN HBAD
   clear hk
   generalize (runeD s p).1 = r at *
   by_cases hk0 : k = 0
   ·subst hk0
    have hU := hid (HBAD.out rfl)
    go_wp2_with (go_at_call 34; refine HC.out.mono ?_; rintro e w2 ⟨rfl, k2, hw2⟩; rw [hw2])
    go_ret
    obtain ⟨k1, hw⟩ := hI.out.2
    exact ⟨by rw [hU.out]; rfl, k1 + k2, by rw [hw, World.drewN_drewN]⟩
   ·obtain ⟨hU, hk1, hk4⟩ := HN.out hk0
    have HU := hid hU
    have ek : ((k : Int) == 0) = false := by simp; omega
    clear hU
    go_wp2_with (go_at_call 34; refine HC.out.mono ?_; rintro e w2 ⟨rfl, k2, hw2⟩; rw [hw2])
    obtain ⟨k1, hw⟩ := hI.out.2
    refine ⟨⟨p + k, c + 1, f, by congr 1, by congr 1, by omega, by omega, HU.out, k1 + k2, by rw [hw, World.drewN_drewN]⟩, by simp [intOf] <;> omega⟩
  ·have hU := hid (hI.out.1.end_ hlt)
   go_wp2
   go_ret
   exact ⟨by rw [hU.out]; rfl, hI.out.2⟩
end Go.Proofs.YtbkfinjajkjhaaaGreatDoor
