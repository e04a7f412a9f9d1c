import Derived.Test.YticimejfjjmikaaGreatDoorV4
import Derived.Deep.AppendLies
import Derived.Test.YticimejfjjmikaaGreatDoorG9
import Derived.Test.YticimejfjjmikaaGreatDoorW22
import Derived.Test.YticimejfjjmikaaGreatDoorW20
import Derived.Test.YticimejfjjmikaaGreatDoorW40
import Derived.Lib.MapLaws
import Derived.Lib.QuoteLoop
import Derived.Test.YticimejfjjmikaaGreatDoorW14
import Derived.Test.YticimejfjjmikaaGreatDoorG3
import Derived.Test.YticimejfjjmikaaGreatDoorW41
set_option linter.unusedVariables false
set_option linter.unusedSimpArgs false
set_option maxRecDepth 100000
namespace Go.Proofs.YticimejfjjmikaaGreatDoor
open Go.RowKit
def iz (l : List Int) : List Value := l.map (Value.int .i64)
theorem iz_length (l : List Int) : (iz l).length = l.length := by simp [iz]
theorem iz_append (l r : List Int) : iz (l ++ r) = iz l ++ iz r := by simp [iz]
theorem info_iz : (Tryz.prog.info? 3).map (fun i => (i.zero, i.size, i.bytes)) = some (some (.int .i64 0), 1, 8) := by kernel_rfl
theorem appi {P : Program} {w : World} {ops : Array Oper} {rest : List Oper} {o : Oper} {a : Act} {Q : Exit -> Act -> World -> Prop} (hgd : o.guard = none) (s x : Operand) (t : TypeId) (ho : o.op = .call { callee := .builtin .append, args := #[s, x], argTypes := #[t, t] })
  (base : Nat) (e : TypeId) (ht : P.underlying t = some (.slice e)) (hi : (P.info? e).map (fun i => (i.zero, i.size, i.bytes)) = some (some (.int .i64 0), 1, 8))
  (v : Value) (n : Nat) (l : List Int) (hs : a.eval s = v) (hown : w.ownsRow base e 1 v n (iz l))
  (ad : Addr) (c : Nat) (d : Int) (hx : a.eval x = .slice (some ad) 1 c) (hd : w.cell? ad = some (.int .i64 d)) (hsm : n <= 10000000) (hbase : base <= w.heap.size)
  (h : ∀ g cap w', w'.ownsRow base e 1 (.slice (some ⟨g, 0, none⟩) (n + 1) cap) (n + 1) (iz (l ++ [d])) -> w.grownBy w' v.ownBlock -> (v.ownBlock = some g \/ g = w.heap.size) -> g < w'.heap.size -> wpList P ops Q rest (a.put o.dst (.slice (some ⟨g, 0, none⟩) (n + 1) cap)) w') :
  wpList P ops Q (o :: rest) a w := by
 obtain ⟨i0, hi0, hz0, hz1, hz2⟩ : ∃ i0, P.info? e = some i0 /\ i0.zero = some (.int .i64 0) /\ i0.size = 1 /\ i0.bytes = 8 := by
  cases h : P.info? e with
  | none => rw [h] at hi; cases hi
  | some i => rw [h] at hi; simp at hi; exact ⟨i, rfl, hi.1, hi.2.1, hi.2.2⟩
 refine wpList_append_lies w hgd s x t ho base e i0 (.int .i64 0) 1 8 ht hi0 hz0 hz1 hz2 rfl (by decide) v n (iz l) hs hown ad 1 c [.int .i64 d] hx rfl ?_ ?_ (by decide) (by unfold maxLen; omega) (by omega) hbase w.heap.size rfl ?_
 ·intro j u hj
  match j, hj with
  | 0, hj => simp at hj; subst hj; simpa [Addr.add] using hd
 ·intro u hu; simp at hu; subst hu; rfl
 ·intro g cap w' h1 h2 h3 h4
  refine h g cap w' ?_ h2 h3 h4
  rw [iz_append]; exact h1
def ltF (s : ByteArray) : Nat -> Nat -> List Int
 | 0, _ => []
 | f + 1, i => if i < s.size then ((runeD s i).1 : Int) :: ltF s f (i + max 1 (runeD s i).2) else []
def ltrs (s : ByteArray) : List Int := ltF s s.size 0
theorem ltF_len (s : ByteArray) : ∀ f i, (ltF s f i).length <= f
 | 0, _ => Nat.le_refl _
 | f + 1, i => by
  unfold ltF
  split
  ·have := ltF_len s f (i + max 1 (runeD s i).2); simp; omega
  ·simp
theorem ltrs_len (s : ByteArray) : (ltrs s).length <= s.size := ltF_len s _ _
theorem u8n {n : Nat} (h : n < 256) : (UInt8.ofNat n).toNat = n := by rw [UInt8.toNat_ofNat']; exact Nat.mod_eq_of_lt h
theorem letB_rng {c : Nat} (h : letB (c : Int) = true) : c <= 1114111 /\ (c < 55296 \/ 57343 < c) := by
 unfold letB at h
 simp only [Bool.and_eq_true, Bool.or_eq_true, decide_eq_true_eq] at h
 omega
theorem enc_1 {c : Nat} (h : letB (c : Int) = true) (h1 : c < 128) : (Utf8.encode (c : Int)).data.toList = [UInt8.ofNat c] := by
 have hv : Utf8.valid (c : Int) = true := by rw [<- letB_valid]; exact h
 unfold Utf8.encode
 simp only [hv, if_true, Int.toNat_natCast]
 rw [if_pos h1]
theorem enc_2 {c : Nat} (h : letB (c : Int) = true) (h1 : 128 <= c) (h2 : c < 2048) : (Utf8.encode (c : Int)).data.toList = [UInt8.ofNat (192 + c / 64), UInt8.ofNat (128 + c % 64)] := by
 have hv : Utf8.valid (c : Int) = true := by rw [<- letB_valid]; exact h
 unfold Utf8.encode
 simp only [hv, if_true, Int.toNat_natCast]
 rw [if_neg (by omega), if_pos h2]
theorem enc_3 {c : Nat} (h : letB (c : Int) = true) (h1 : 2048 <= c) (h2 : c < 65536) : (Utf8.encode (c : Int)).data.toList = [UInt8.ofNat (224 + c / 4096), UInt8.ofNat (128 + c / 64 % 64), UInt8.ofNat (128 + c % 64)] := by
 have hv : Utf8.valid (c : Int) = true := by rw [<- letB_valid]; exact h
 unfold Utf8.encode
 simp only [hv, if_true, Int.toNat_natCast]
 rw [if_neg (by omega), if_neg (by omega), if_pos h2]
theorem enc_4 {c : Nat} (h : letB (c : Int) = true) (h1 : 65536 <= c) : (Utf8.encode (c : Int)).data.toList = [UInt8.ofNat (240 + c / 262144), UInt8.ofNat (128 + c / 4096 % 64), UInt8.ofNat (128 + c / 64 % 64), UInt8.ofNat (128 + c % 64)] := by
 have hv : Utf8.valid (c : Int) = true := by rw [<- letB_valid]; exact h
 unfold Utf8.encode
 simp only [hv, if_true, Int.toNat_natCast]
 rw [if_neg (by omega), if_neg (by omega), if_neg (by omega)]
theorem dec_enc {c : Nat} (h : letB (c : Int) = true) (rest : List UInt8) : Lib.decodeL ((Utf8.encode (c : Int)).data.toList ++ rest) = (c, (Utf8.encode (c : Int)).data.toList.length) := by
 have hb := letB_rng h
 rw [Lib.decodeL_N]
 by_cases h1 : c < 128
 ·rw [enc_1 h h1]
  show Lib.decodeN _ (UInt8.ofNat c).toNat _ _ _ = (c, 1)
  rw [u8n (by omega)]
  unfold Lib.decodeN
  rw [if_pos h1]
 by_cases h2 : c < 2048
 ·rw [enc_2 h (by omega) h2]
  show Lib.decodeN _ (UInt8.ofNat (192 + c / 64)).toNat (UInt8.ofNat (128 + c % 64)).toNat _ _ = (c, 2)
  rw [u8n (by omega), u8n (by omega)]
  unfold Lib.decodeN
  rw [if_neg (by omega), if_pos ⟨by omega, by simp, by omega⟩, if_pos (by omega)]
  congr 1; omega
 by_cases h3 : c < 65536
 ·rw [enc_3 h (by omega) h3]
  show Lib.decodeN _ (UInt8.ofNat (224 + c / 4096)).toNat (UInt8.ofNat (128 + c / 64 % 64)).toNat (UInt8.ofNat (128 + c % 64)).toNat _ = (c, 3)
  rw [u8n (by omega), u8n (by omega), u8n (by omega)]
  unfold Lib.decodeN
  rw [if_neg (by omega), if_neg (by omega), if_pos ⟨by omega, ⟨by simp, by omega⟩, by simp, by omega⟩, if_pos (by omega)]
  congr 1; omega
 ·rw [enc_4 h (by omega)]
  show Lib.decodeN _ (UInt8.ofNat (240 + c / 262144)).toNat (UInt8.ofNat (128 + c / 4096 % 64)).toNat (UInt8.ofNat (128 + c / 64 % 64)).toNat (UInt8.ofNat (128 + c % 64)).toNat = (c, 4)
  rw [u8n (by omega), u8n (by omega), u8n (by omega), u8n (by omega)]
  unfold Lib.decodeN
  rw [if_neg (by omega), if_neg (by omega), if_neg (by omega), if_pos ⟨by omega, ⟨by simp, by omega⟩, ⟨by simp, by omega⟩, by simp, by omega⟩, if_pos (by omega)]
  congr 1; omega
theorem enc_len {c : Nat} (h : letB (c : Int) = true) : 1 <= (Utf8.encode (c : Int)).data.toList.length /\ (Utf8.encode (c : Int)).data.toList.length <= 4 := by
 by_cases h1 : c < 128
 ·rw [enc_1 h h1]; simp
 by_cases h2 : c < 2048
 ·rw [enc_2 h (by omega) h2]; simp
 by_cases h3 : c < 65536
 ·rw [enc_3 h (by omega) h3]; simp
 ·rw [enc_4 h (by omega)]; simp
theorem enc_is {c : Nat} (h : letB (c : Int) = true) : (Utf8.encode (c : Int)).data.toList = Lib.encodeRune (c : Int) := by
 have hb := letB_rng h
 unfold Lib.encodeRune
 by_cases h1 : c < 128
 ·rw [enc_1 h h1, Lib.encodeRuneZ_one (by omega) (by omega)]; simp
 by_cases h2 : c < 2048
 ·rw [enc_2 h (by omega) h2, Lib.encodeRuneZ_two (by omega) (by omega)]
  simp only [List.map_cons, List.map_nil]
  rw [show (192 + (c : Int) / 64).toNat = 192 + c / 64 by omega, show (128 + (c : Int) % 64).toNat = 128 + c % 64 by omega]
 by_cases h3 : c < 65536
 ·rw [enc_3 h (by omega) h3, Lib.encodeRuneZ_three (by omega)]
  simp only [List.map_cons, List.map_nil]
  rw [show (224 + (c : Int) / 4096).toNat = 224 + c / 4096 by omega, show (128 + (c : Int) / 64 % 64).toNat = 128 + c / 64 % 64 by omega, show (128 + (c : Int) % 64).toNat = 128 + c % 64 by omega]
 ·rw [enc_4 h (by omega), Lib.encodeRuneZ_four (by omega) (by omega)]
  simp only [List.map_cons, List.map_nil]
  rw [show (240 + (c : Int) / 262144).toNat = 240 + c / 262144 by omega, show (128 + (c : Int) / 4096 % 64).toNat = 128 + c / 4096 % 64 by omega, show (128 + (c : Int) / 64 % 64).toNat = 128 + c / 64 % 64 by omega, show (128 + (c : Int) % 64).toNat = 128 + c % 64 by omega]
def spelt (l : List Nat) : List UInt8 := l.flatMap (fun c : Nat => (Utf8.encode (c : Int)).data.toList)
theorem spelt_valid : ∀ {l : List Nat}, (∀ c ∈ l, letB (c : Int) = true) -> Lib.validD (spelt l) = true
 | [], _ => Lib.validD_nil
 | c :: l, h => by
  have hc := h c List.mem_cons_self
  have hl := enc_len hc
  have ih := spelt_valid (l := l) (fun x hx => h x (List.mem_cons_of_mem _ hx))
  have e : spelt (c :: l) = (Utf8.encode (c : Int)).data.toList ++ spelt l := rfl
  rw [e, Lib.validD_step _ (by intro e2; have := congrArg List.length e2; simp only [List.length_append, List.length_nil] at this; omega), dec_enc hc, if_neg, List.drop_left]
  ·exact ih
  ·rintro ⟨e1, e2⟩
   simp only at e1 e2
   subst e1
   rw [enc_3 hc (by omega) (by omega)] at e2
   simp at e2
theorem count_from (s : ByteArray) (f p : Nat) : Lib.runeCountFrom s (f + 1) p = if p < s.size then 1 + Lib.runeCountFrom s f (p + (Utf8.decode s p).2) else 0 := rfl
theorem spelt_from {s : ByteArray} : ∀ {l : List Nat} {p f : Nat}, (∀ c ∈ l, letB (c : Int) = true) -> s.data.toList.drop p = spelt l -> l.length <= f -> Lib.runeCountFrom s f p = l.length
 | [], p, f, _, e, _ => by
  refine Lib.runeCountFrom_end s f p (fun h => ?_)
  have := congrArg List.length e
  rw [List.length_drop] at this
  have h2 : s.data.toList.length = s.size := rfl
  simp [spelt] at this
  omega
 | c :: l, p, 0, _, _, h => by simp at h
 | c :: l, p, f + 1, h, e, hf => by
  have hc := h c List.mem_cons_self
  have hl := enc_len hc
  have e2 : spelt (c :: l) = (Utf8.encode (c : Int)).data.toList ++ spelt l := rfl
  rw [e2] at e
  have h2 : s.data.toList.length = s.size := rfl
  have hlen := congrArg List.length e
  rw [List.length_drop, List.length_append] at hlen
  have hd : Utf8.decode s p = (c, (Utf8.encode (c : Int)).data.toList.length) := by
   rw [<- Lib.decodeL_drop, e, dec_enc hc]
  rw [count_from, if_pos (by omega), hd]
  have ih := spelt_from (s := s) (l := l) (p := p + (Utf8.encode (c : Int)).data.toList.length) (f := f) (fun x hx => h x (List.mem_cons_of_mem _ hx)) (by
   rw [<- List.drop_drop, e, List.drop_left]) (by simpa using hf)
  rw [ih, List.length_cons]; omega
theorem spelt_len : ∀ {l : List Nat}, (∀ c ∈ l, letB (c : Int) = true) -> l.length <= (spelt l).length
 | [], _ => Nat.le_refl _
 | c :: l, h => by
  have hl := enc_len (h c List.mem_cons_self)
  have ih := spelt_len (l := l) (fun x hx => h x (List.mem_cons_of_mem _ hx))
  have e2 : spelt (c :: l) = (Utf8.encode (c : Int)).data.toList ++ spelt l := rfl
  rw [e2, List.length_append, List.length_cons]; omega
theorem spelt_count {s : ByteArray} {l : List Nat} (h : ∀ c ∈ l, letB (c : Int) = true) (e : s.data.toList = spelt l) : Lib.runeCount s = l.length :=
 spelt_from (s := s) (p := 0) h (by rw [List.drop_zero]; exact e) (by
  have h2 : s.data.toList.length = s.size := rfl
  have := spelt_len h
  rw [<- e] at this; omega)
theorem told_spelt {s : ByteArray} : ∀ {f p : Nat}, Lib.validD (s.data.toList.drop p) = true -> s.size <= p + f ->
  ∃ l : List Nat, ltF s f p = l.map (fun c : Nat => (c : Int)) /\ (∀ c ∈ l, letB (c : Int) = true) /\ s.data.toList.drop p = spelt l
 | 0, p, _, hs => ⟨[], rfl, fun c hc => (by cases hc), (by
   have h2 : s.data.toList.length = s.size := rfl
   rw [List.drop_eq_nil_of_le (by omega)]; rfl)⟩
 | f + 1, p, hv, hs => by
  have h2 : s.data.toList.length = s.size := rfl
  by_cases hp : p < s.size
  ·have hne : s.data.toList.drop p ≠ [] := by
    intro e; have := congrArg List.length e; rw [List.length_drop] at this; simp only [List.length_nil] at this; omega
   rw [Lib.validD_step _ hne, Lib.decodeL_drop] at hv
   by_cases hb : (Utf8.decode s p).1 = 65533 /\ (Utf8.decode s p).2 = 1
   ·rw [if_pos hb] at hv; cases hv
   ·rw [if_neg hb] at hv
    have hne2 : ¬ Utf8.decode s p = (65533, 1) := fun e => hb (by rw [e]; exact ⟨rfl, rfl⟩)
    have er : runeD s p = Utf8.decode s p := by unfold runeD; rw [if_neg hne2]
    have hw := decode_le s p
    rw [List.drop_drop] at hv
    obtain ⟨l, e1, e2, e3⟩ := told_spelt (s := s) (f := f) (p := p + (Utf8.decode s p).2) hv (by omega)
    have hlet : letB ((Utf8.decode s p).1 : Int) = true := by
     have hd : Utf8.decode s p = Lib.decodeL (s.data.toList.drop p) := (Lib.decodeL_drop s p).symm
     have := Lib.decodeN_valid (s.data.toList.drop p).length ((s.data.toList.drop p).getD 0 0).toNat ((s.data.toList.drop p).getD 1 0).toNat ((s.data.toList.drop p).getD 2 0).toNat ((s.data.toList.drop p).getD 3 0).toNat (UInt8.toNat_lt _)
     rw [<- Lib.decodeL_N, <- hd] at this
     unfold letB
     simp only [Bool.and_eq_true, Bool.or_eq_true, decide_eq_true_eq]
     omega
    refine ⟨(Utf8.decode s p).1 :: l, ?_, ?_, ?_⟩
    ·unfold ltF
     rw [if_pos hp, er, show max 1 (Utf8.decode s p).2 = (Utf8.decode s p).2 by omega, e1]; rfl
    ·intro c hc
     rcases List.mem_cons.1 hc with rfl | hc
     ·exact hlet
     ·exact e2 c hc
    ·have e4 : spelt ((Utf8.decode s p).1 :: l) = (Utf8.encode ((Utf8.decode s p).1 : Int)).data.toList ++ spelt l := rfl
     rw [e4, <- e3]
     have h5 := Lib.encode_decode (s.data.toList.drop p) hne (by rw [Lib.decodeL_drop]; exact hb)
     rw [Lib.decodeL_drop] at h5
     have h6 : (Utf8.encode ((Utf8.decode s p).1 : Int)).data.toList = Lib.encodeRune ((Utf8.decode s p).1 : Int) := enc_is hlet
     rw [h6, h5, <- List.drop_drop, List.take_append_drop]
  ·refine ⟨[], ?_, fun c hc => (by cases hc), ?_⟩
   ·unfold ltF; rw [if_neg hp]; rfl
   ·rw [List.drop_eq_nil_of_le (by omega)]; rfl
theorem dgt_chr {d : Nat} (h : d < 36) : dgt (chr d) = d := by
 unfold dgt chr
 by_cases h1 : d < 10
 ·rw [if_pos h1, if_pos (by omega)]; omega
 ·rw [if_neg h1, if_neg (by omega), if_pos (by omega)]; omega
theorem hv_rev (radix : Nat) : ∀ {D : List Nat}, (∀ x ∈ D, x < 36) -> hv radix ((D.map chr).reverse) = val radix D
 | [], _ => rfl
 | d :: D, h => by
  rw [List.map_cons, List.reverse_cons, hv_snoc, hv_rev radix (fun x hx => h x (by simp [hx])), dgt_chr (h d (by simp)), val_cons, Nat.mul_comm]
  omega
def body (D : List Nat) : List Nat := if D = [] then [48] else (D.map chr).reverse
theorem body_val {radix : Nat} {D : List Nat} (h : Dg radix D) (hr : radix <= 36) : hv radix (body D) = val radix D := by
 unfold body
 by_cases hD : D = []
 ·subst hD; simp [hv, dgt, val]
 ·rw [if_neg hD]; exact hv_rev radix (fun x hx => by have := h x hx; omega)
theorem body_digits {radix : Nat} {D : List Nat} (h : Dg radix D) (h2 : 2 <= radix) (hr : radix <= 36) : ∀ c ∈ body D, dgt c < radix := by
 unfold body
 by_cases hD : D = []
 ·subst hD
  intro c hc
  simp at hc
  subst hc
  simp [dgt]; omega
 ·rw [if_neg hD]
  intro c hc
  rw [List.mem_reverse] at hc
  obtain ⟨d, hd, rfl⟩ := List.mem_map.1 hc
  have := h d hd
  rw [dgt_chr (by omega)]; exact this
theorem body_ne (D : List Nat) : body D ≠ [] := by
 unfold body
 by_cases hD : D = []
 ·simp [hD]
 ·simp [hD]
theorem cutS_sg {l : List Nat} {c : Nat} {r : List Nat} (h : l = c :: r) (hc : c = 43 \/ c = 45) : cutS l = (decide (c = 45), r) := by
 subst h; simp [cutS, hc]
theorem cutS_none {radix : Nat} {l : List Nat} (h : ∀ c ∈ l, dgt c < radix) (hr : radix <= 36) : cutS l = (false, l) := by
 cases l with
 | nil => rfl
 | cons c r =>
  have hc := h c (by simp)
  have : ¬ (c = 43 \/ c = 45) := by
   rintro (rfl | rfl) <;> simp [dgt] at hc <;> omega
  simp [cutS, this]
theorem small_good {neg : Bool} {l : List Nat} (hd : Dg B32 l) (hg : goodB neg l = true) : ¬ Big (val B32 l) := by
 unfold Big
 have h1 := val_lt hd
 have h2 : B32 ^ l.length <= B32 ^ 40 := Nat.pow_le_pow_right (by decide) (goodB_len hg)
 omega
def mgF : Nat -> Nat -> List Nat
 | 0, _ => []
 | f + 1, v => if v = 0 then [] else (v % B32) :: mgF f (v / B32)
def mg (v : Nat) : List Nat := mgF v v
theorem mgF_ok : ∀ f v, v <= f -> Dg B32 (mgF f v) /\ Tr (mgF f v) /\ val B32 (mgF f v) = v /\ (v ≠ 0 -> mgF f v ≠ [])
 | 0, v, h => by
  obtain rfl : v = 0 := by omega
  exact ⟨Dg.nil _, Tr.nil, rfl, fun h => absurd rfl h⟩
 | f + 1, v, h => by
  have hB : B32 = 4294967296 := rfl
  by_cases hv : v = 0
  ·subst hv; simp [mgF, val]; exact ⟨Dg.nil _, Tr.nil⟩
  ·obtain ⟨h1, h2, h3, h4⟩ := mgF_ok f (v / B32) (by rw [hB]; omega)
   have e : mgF (f + 1) v = (v % B32) :: mgF f (v / B32) := by simp [mgF, hv]
   rw [e]
   refine ⟨fun x hx => ?_, .inr ?_, ?_, fun _ => by simp⟩
   ·rcases List.mem_cons.1 hx with rfl | hx
    ·rw [hB]; omega
    ·exact h1 x hx
   ·by_cases h0 : v / B32 = 0
    ·have : mgF f (v / B32) = [] := by rw [h0]; cases f <;> simp [mgF]
     rw [this]; simp; rw [hB] at h0 ⊢; omega
    ·have hne := h4 h0
     have := h2.resolve_left hne
     obtain ⟨n, hn⟩ : ∃ n, (mgF f (v / B32)).length = n + 1 := ⟨(mgF f (v / B32)).length - 1, by have := List.length_pos_iff.2 hne; omega⟩
     rw [List.length_cons, hn]
     rw [hn] at this
     simpa using this
   ·rw [val_cons, h3, hB]; omega
theorem mg_is {l : List Nat} {v : Nat} (hd : Dg B32 l) (ht : Tr l) (hv : val B32 l = v) : l = mg v := by
 obtain ⟨h1, h2, h3, _⟩ := mgF_ok v v (Nat.le_refl _)
 exact digits_unique (by decide) hd h1 ht h2 (hv.trans h3.symm)
def txZ (t : ByteArray) : Int := sgn ((cutS (bs t)).1 && decide (hv 10 (cutS (bs t)).2 ≠ 0)) (hv 10 (cutS (bs t)).2)
theorem digs_nil {v : Nat} (h : digs v v = []) : v = 0 := by
 have := (digs_ok v v (Nat.le_refl _)).2.2.2
 exact Classical.byContradiction (fun e => this e h)
theorem printL_body (neg : Bool) (v : Nat) (hn : neg = true -> v ≠ 0) : printL neg v = (if neg then [45] else []) ++ body (digs v v) := by
 unfold printL body
 by_cases e : digs v v = []
 ·rw [if_pos e, if_pos e]
  cases neg
  ·rfl
  ·exact absurd (digs_nil e) (hn rfl)
 ·rw [if_neg e, if_neg e]
theorem printL_cut (neg : Bool) (v : Nat) (hn : neg = true -> v ≠ 0) : cutS (printL neg v) = (neg, body (digs v v)) := by
 have hd := (digs_ok v v (Nat.le_refl _)).1
 rw [printL_body neg v hn]
 cases neg
 ·exact cutS_none (radix := 10) (body_digits hd (by omega) (by omega)) (by omega)
 ·exact cutS_sg (c := 45) rfl (.inr rfl)
theorem printL_lt (neg : Bool) (v : Nat) : ∀ x ∈ printL neg v, x < 256 := by
 have hd := (digs_ok v v (Nat.le_refl _)).1
 intro x hx
 unfold printL at hx
 split at hx
 ·rw [List.mem_singleton.1 hx]; omega
 ·rcases List.mem_append.1 hx with hx | hx
  ·cases neg
   ·cases hx
   ·rw [List.mem_singleton.1 hx]; omega
  ·rw [List.mem_reverse] at hx
   obtain ⟨d, hd', rfl⟩ := List.mem_map.1 hx
   exact chr_lt (Nat.lt_of_lt_of_le (hd d hd') (by omega))
theorem printed_ok {neg : Bool} {v : Nat} (hn : neg = true -> v ≠ 0) (hv40 : v < B32 ^ 40) : printedB (textOf (printL neg v)) = true := by
 obtain ⟨hd, ht, hval, _⟩ := digs_ok v v (Nat.le_refl _)
 have h10 : ∀ c ∈ body (digs v v), dgt c < 10 := body_digits hd (by omega) (by omega)
 have hbv : hv 10 (body (digs v v)) = v := by rw [body_val hd (by omega), hval]
 unfold printedB
 rw [bs_textOf (printL_lt neg v), printL_cut neg v hn]
 simp only
 rw [hbv]
 have e1 : digitsB 10 (body (digs v v)) = true := by
  have := digitsB_of (rx := 10) (l := body (digs v v)) (List.length_pos_iff.2 (body_ne _)) (fun j hj => h10 _ (by
   rw [List.getD_eq_getElem?_getD, List.getElem?_eq_getElem hj]; exact List.getElem_mem hj))
  exact this
 have e2 : (neg && decide (v ≠ 0)) = neg := by
  cases neg
  ·rfl
  ·rw [decide_eq_true (hn rfl)]; rfl
 rw [e1, e2, decide_eq_true hv40, decide_eq_true rfl]; rfl
theorem ofR_rt {x : Int} (h : nK x ≠ 0) : rightB (nK x) (nN x) (ofR x).2.2 = true := by
 unfold nK nN at *
 unfold ofR at *
 split
 ·assumption
 ·rename_i hr
  rw [if_neg hr] at h
  exact absurd rfl h
theorem nK4_let {x : Int} (h : nK x = 4) : letB (nN x) = true := by
 have := ofR_rt (x := x) (by omega)
 rw [h] at this
 have e : ltrB (nN x) = true := by
  unfold rightB at this
  simp only [show ¬ ((4 : Int) = 1) by decide, show ¬ ((4 : Int) = 2) by decide, show ¬ ((4 : Int) = 3) by decide, if_false, if_true, Bool.and_eq_true] at this
  exact this.2
 exact e
theorem nK1_fix {x : Int} (h : nK x = 1) : fixB (nN x) = true := by
 have := ofR_rt (x := x) (by omega)
 rw [h] at this
 exact this
theorem fix_lt {z : Int} (h : fixB z = true) : z.natAbs < B32 ^ 40 := by
 unfold fixB at h
 rw [Bool.and_eq_true, decide_eq_true_eq, decide_eq_true_eq] at h
 have h1 : z.natAbs < B32 ^ 2 := by
  have : B32 ^ 2 = 18446744073709551616 := by decide
  omega
 exact Nat.lt_of_lt_of_le h1 (Nat.pow_le_pow_right (by decide) (by omega))
theorem neg_nz {z : Int} : decide (z < 0) = true -> z.natAbs ≠ 0 := fun h => by have := of_decide_eq_true h; omega
theorem okD_mk {d : Nd} (h1 : 1 <= d.kind /\ d.kind <= 17) (h2 : numB d.kind d.num = true) (h3 : textB d.kind d.text = true) (h4 : countB d.kind d.kids.length = true) : okD d = true := by
 unfold okD
 rw [decide_eq_true h1.1, decide_eq_true h1.2, h2, h3, h4]; rfl
theorem ok_void : okD voidN = true := okD_mk (by unfold voidN; simp) rfl rfl rfl
theorem ok_bare {k : Int} (h : k = 1 \/ k = 10 \/ k = 12 \/ k = 14 \/ k = 17) : okD ⟨k, 0, ByteArray.empty, []⟩ = true := by
 rcases h with rfl | rfl | rfl | rfl | rfl <;> exact okD_mk (by simp) rfl (by first | rfl | decide) rfl
theorem lrT_spelt {f : List Int} (h : f.all lrB = true) : ∃ l : List Nat, l.length = f.length /\ (∀ c ∈ l, letB (c : Int) = true) /\ (textOf (lrT f)).data.toList = spelt l := by
 have hall : ∀ x ∈ f, letB (nN x) = true := fun x hx => nK4_let (by
  have := List.all_eq_true.1 h x hx
  unfold lrB at this
  exact of_decide_eq_true this)
 have hnn : ∀ x ∈ f, ((nN x).toNat : Int) = nN x := fun x hx => by
  have := hall x hx
  unfold letB at this
  simp only [Bool.and_eq_true, decide_eq_true_eq] at this
  omega
 refine ⟨f.map (fun x => (nN x).toNat), by rw [List.length_map], fun c hc => ?_, ?_⟩
 ·obtain ⟨x, hx, rfl⟩ := List.mem_map.1 hc
  rw [hnn x hx]; exact hall x hx
 ·have e1 : bs (textOf (lrT f)) = lrT f := bs_textOf (fun y hy => by
   unfold lrT at hy
   obtain ⟨x, _, hx⟩ := List.mem_flatMap.1 hy
   exact bs_byte _ y hx)
  have e2 : (spelt (f.map (fun x => (nN x).toNat))).map UInt8.toNat = lrT f := by
   unfold spelt lrT bs
   rw [List.flatMap_map, List.map_flatMap]
   rw [List.flatMap_def, List.flatMap_def]
   refine congrArg List.flatten (List.map_congr_left (fun x hx => ?_))
   show ((Utf8.encode (((nN x).toNat : Nat) : Int)).data.toList).map UInt8.toNat = ((Utf8.encode (nN x)).data.toList).map UInt8.toNat
   rw [hnn x hx]
  have e3 : (textOf (lrT f)).data.toList.map UInt8.toNat = (spelt (f.map (fun x => (nN x).toNat))).map UInt8.toNat := e1.trans e2.symm
  exact List.map_inj_right (fun a b e => UInt8.toNat_inj.1 e) |>.1 e3
theorem ok_word (os : List Ob) (nm : List ByteArray) (x : Int) : okD (wordD os nm x) = true := by
 have hsym : ∀ y, symB nm y = true -> textB 6 (symT nm y) = true := fun y h => by
  unfold symB at h
  rw [Bool.and_eq_true, Bool.and_eq_true] at h
  exact h.2.2
 unfold wordD
 split
 ·rename_i k hk
  generalize (os.getD k default).kind = kd
  generalize (os.getD k default).f = f
  by_cases k1 : kd = 1
  ·subst k1
   rw [objD_1]
   split
   ·rename_i h; exact okD_mk (by simp) rfl rfl (by show countB 7 f.length = true; rw [countB_2 _ (.inl rfl)]; exact decide_eq_true h)
   ·exact ok_void
  by_cases k2 : kd = 2
  ·subst k2
   rw [objD_2]
   split
   ·rename_i h; exact okD_mk (by simp) rfl rfl (by show countB 8 f.length = true; rw [countB_8]; exact decide_eq_true h)
   ·exact ok_void
  by_cases k3 : kd = 3
  ·subst k3
   rw [objD_3]
   split
   ·rename_i h
    rw [Bool.and_eq_true, decide_eq_true_eq] at h
    obtain ⟨l, hl, hlet, hsp⟩ := lrT_spelt h.1
    refine okD_mk (by simp) rfl ?_ rfl
    show textB 5 (textOf (lrT f)) = true
    rw [textB_5, hsp, spelt_valid hlet, spelt_count hlet hsp, hl, decide_eq_true h.2]; rfl
   ·exact ok_void
  by_cases k4 : kd = 4
  ·subst k4
   rw [objD_4]
   split
   ·rename_i h
    rw [Bool.and_eq_true, decide_eq_true_eq] at h
    refine okD_mk (by simp) rfl ?_ rfl
    show textB 9 (textOf (byT f)) = true
    rw [textB_9]
    have : (textOf (byT f)).size = f.length := by
     show ((byT f).map UInt8.ofNat).toArray.size = f.length
     simp [byT]
    rw [this]; exact decide_eq_true h.2
   ·exact ok_void
  by_cases k5 : kd = 5
  ·subst k5
   rw [objD_5]
   split
   ·rename_i h
    refine okD_mk (by simp) rfl ?_ rfl
    show textB 3 _ = true
    rw [textB_3]
    unfold bigB at h
    simp only [Bool.and_eq_true] at h
    obtain ⟨h1, h2, h3, h4, h5⟩ := h
    have hdg : Dg B32 (numMag f) := fun y hy => by
     unfold numMag at hy
     obtain ⟨z, hz, rfl⟩ := List.mem_map.1 hy
     have := List.all_eq_true.1 h2 z (List.mem_of_mem_drop hz)
     unfold limbB at this
     simp only [Bool.and_eq_true, decide_eq_true_eq] at this
     show (nN z).toNat < B32
     unfold B32; omega
    have hb := small_good hdg h4
    refine printed_ok (fun hn => ?_) (by unfold Big at hb; omega)
    have h0 : numMag f ≠ [] := fun e => by have := goodB_neg h4 (by rw [e]; rfl); rw [hn] at this; cases this
    exact (goodB_tr h4).ne_zero (B := B32) (by decide) h0
   ·exact ok_void
  by_cases k12 : kd = 12
  ·subst k12
   rw [objD_12]
   split
   ·rename_i h
    unfold condB at h
    simp only [Bool.and_eq_true, decide_eq_true_eq] at h
    refine okD_mk (by simp) ?_ rfl ?_
    ·show numB 13 _ = true
     rw [numB_13, decide_eq_true h.2.2.1, decide_eq_true h.2.2.2]; rfl
    ·show countB 13 (f.drop 1).length = true
     rw [countB_2 _ (.inr rfl), List.length_drop, h.1]; rfl
   ·exact ok_void
  by_cases k14 : kd = 14
  ·subst k14
   rw [objD_14]
   split
   ·rename_i h
    refine okD_mk (by simp) rfl ?_ (countB_t _ (.inl rfl))
    show textB 15 (recT os nm (f.getD 0 0)) = true
    rw [Bool.and_eq_true] at h
    have h2 := h.2
    unfold recB at h2
    unfold recT
    split at h2
    ·rename_i k' hk'
     rw [Bool.and_eq_true, Bool.and_eq_true] at h2
     have := h2.2.2
     unfold namB at this
     rw [Bool.and_eq_true, Bool.and_eq_true] at this
     exact this.2.2
    ·cases h2
   ·exact ok_void
  rw [objD_o k1 k2 k3 k4 k5 k12 k14]
  split
  ·exact ok_bare (by omega)
  split
  ·exact ok_bare (by omega)
  split
  ·exact okD_mk (by simp) rfl rfl (countB_t _ (.inr rfl))
  split
  ·exact okD_mk (by simp) rfl (by show textB 15 recordT = true; rw [textB_v _ (.inr rfl)]; decide) rfl
  split
  ·exact okD_mk (by simp) rfl (by show textB 15 tableT = true; rw [textB_v _ (.inr rfl)]; decide) rfl
  split
  ·exact ok_bare (by omega)
  ·exact ok_void
 ·unfold plainD
  split
  ·rename_i h
   refine okD_mk (by simp) rfl ?_ rfl
   show textB 3 _ = true
   rw [textB_3]
   exact printed_ok neg_nz (fix_lt (nK1_fix h))
  split
  ·split
   ·exact ok_bare (by omega)
   split
   ·rename_i h
    refine okD_mk (by simp) ?_ rfl rfl
    show numB 2 (nN x - 1) = true
    rw [numB_2]
    rcases h with h | h <;> rw [h] <;> rfl
   split
   ·exact ok_bare (by omega)
   ·exact ok_void
  split
  ·rename_i h
   refine okD_mk (by simp) ?_ rfl rfl
   show numB 4 (nN x) = true
   rw [numB_4]; exact nK4_let h
  split
  ·rename_i h
   exact okD_mk (by simp) rfl (hsym x h) rfl
  split
  ·exact ok_bare (by omega)
  ·exact ok_void
def NdVal (d : Nd) (ka : Option Addr) (kc : Nat) : Value := .agg #[.int .i64 d.kind, .int .i64 d.num, .string d.text, .slice ka d.kids.length kc]
def sizeN (d : Nd) : Int :=
 if d.kind = 1 \/ d.kind = 2 \/ d.kind = 4 \/ d.kind = 6 \/ d.kind = 10 \/ d.kind = 11 then (0 : Int)
 else if d.kind = 3 then (if fixB (txZ d.text) = true then 0 else 2 + (((mg (txZ d.text).natAbs).length : Nat) : Int))
 else if d.kind = 5 then 1 + (((ltrs d.text).length : Nat) : Int)
 else if d.kind = 7 \/ d.kind = 8 then 1 + ((d.kids.length : Nat) : Int)
 else if d.kind = 9 then 1 + ((d.text.size : Nat) : Int) else (-1 : Int)
theorem slice_form {w : World} {base : Nat} {e : TypeId} {k : Nat} {v : Value} {n : Nat} {xs : List Value} (h : w.ownsRow base e k v n xs) : ∃ a c, v = .slice a n c /\ n <= c /\ c <= 9223372036854775807 := by
 rcases h.2 with ⟨e1, e2⟩ | ⟨g, cap, cur, e1, _, _, h4, h5, _⟩
 ·subst e2; exact ⟨none, 0, e1, Nat.le_refl _, by omega⟩
 ·unfold maxLen at h5; exact ⟨_, _, e1, h4, h5⟩
def bigL (neg : Bool) (l : List Nat) : List Int := wordR 1 (if neg then 1 else 0) 0 :: l.map (fun x => wordR 1 (x : Nat) 0)
theorem bigL_take (neg : Bool) {l : List Nat} {q : Nat} (h : q < l.length) : bigL neg (l.take (q + 1)) = bigL neg (l.take q) ++ [wordR 1 (l.getD q 0 : Nat) 0] := by
 unfold bigL
 rw [List.take_succ_eq_append_getElem h, List.map_append, List.cons_append, List.getD_eq_getElem?_getD, List.getElem?_eq_getElem h]; rfl
theorem bigL_len (neg : Bool) (l : List Nat) : (bigL neg l).length = l.length + 1 := by simp [bigL]
theorem bigL_u (neg : Bool) (l : List Nat) : ∀ z ∈ bigL neg l, U64 z := by
 intro z hz
 unfold bigL at hz
 rcases List.mem_cons.1 hz with rfl | hz
 ·exact wordR_rng _ _ _
 ·obtain ⟨x, _, rfl⟩ := List.mem_map.1 hz; exact wordR_rng _ _ _
theorem own_one {w W : World} {z : Int} (hb : Below w.heap.size w W) : (W.alloc (.cells #[.int .u64 z] 44)).ownsRow w.heap.size 44 1 (.slice (some ⟨W.heap.size, 0, none⟩) 1 1) 1 (uz [z]) :=
 ⟨rfl, .inr ⟨W.heap.size, 1, #[.int .u64 z], rfl, hb.size, blk_new _ _ _, Nat.le_refl _, by unfold maxLen; omega, rfl, rfl⟩⟩
end Go.Proofs.YticimejfjjmikaaGreatDoor
