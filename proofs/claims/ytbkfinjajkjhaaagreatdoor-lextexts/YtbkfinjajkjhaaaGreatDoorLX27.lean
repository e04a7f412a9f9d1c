import Derived.Test.YtbkfinjajkjhaaaGreatDoorLX25
import Derived.Test.YtbkfinjajkjhaaaGreatDoorLX19
import Derived.Shelf.Strings.BuilderK
set_option linter.unusedVariables false
set_option linter.unusedSimpArgs false
set_option maxRecDepth 100000
namespace Go.Proofs.YtbkfinjajkjhaaaGreatDoor
open Go.RowKit
theorem writeByte_any (B b : Nat) (T : ByteArray) (c : Nat) (w : World) (h : BldF B b T w) (hc : c < 256) (hT : T.size <= 4294967296) (hB : B <= w.heap.size) : Calls Tryz.prog 48 #[.pointer (some ⟨b, 0, none⟩), .int .u8 (c : Int)] w fun e w' => e = .returned .nilIface /\ BldF B b (T ++ bstr [c]) w' /\ Below B w w' /\ Lib.OthersKept 5 (some b) w w' := by
 refine (Any.Builder_WriteByte_k Tryz.lays167 Tryz.Builder_Extra_167 B b _ (c : Int) w h (by rw [Lib.byteCells_length]; have : T.data.toList.length = T.size := rfl; omega) hB).mono ?_
 rintro e w' ⟨rfl, h1, h2, h3⟩
 refine ⟨rfl, .inr ?_, h2, h3⟩
 have : Lib.byteCells (T ++ bstr [c]).data.toList = Lib.byteCells T.data.toList ++ [.int .u8 (c : Int)] := by
  have e1 : (T ++ bstr [c]).data.toList = T.data.toList ++ [UInt8.ofNat c] := by unfold bstr; simp
  rw [e1, Lib.byteCells_append]
  congr 1
  show [Value.int .u8 ((UInt8.ofNat c).toNat : Int)] = _
  rw [UInt8.toNat_ofNat', Nat.mod_eq_of_lt hc]
 rw [this]
 exact h1
theorem writeQ_any (B b : Nat) (T : ByteArray) (w : World) (h : BldF B b T w) (hT : T.size <= 4294967296) (hB : B <= w.heap.size) : Calls Tryz.prog 48 #[.pointer (some ⟨b, 0, none⟩), .int .u8 34] w fun e w' => e = .returned .nilIface /\ BldF B b (T ++ bstr [34]) w' /\ Below B w w' /\ Lib.OthersKept 5 (some b) w w' := writeByte_any B b T 34 w h (by decide) hT hB
theorem writeString_any (B b : Nat) (T s : ByteArray) (w : World) (h : BldF B b T w) (hT : T.size + s.size <= 4294967296) (hB : B <= w.heap.size) : Calls Tryz.prog 50 #[.pointer (some ⟨b, 0, none⟩), .string s] w fun e w' => (∃ m, e = .returned (.tuple #[.int .i64 m, .nilIface])) /\ BldF B b (T ++ s) w' /\ Below B w w' /\ Lib.OthersKept 5 (some b) w w' := by
 refine (Any.Builder_WriteString_k Tryz.lays166 Tryz.Builder_Extra_166 B b _ s w h (by rw [Lib.byteCells_length]; have : T.data.toList.length = T.size := rfl; omega) hB).mono ?_
 rintro e w' ⟨rfl, h1, h2, h3⟩
 refine ⟨⟨_, rfl⟩, .inr ?_, h2, h3⟩
 have : Lib.byteCells (T ++ s).data.toList = Lib.byteCells T.data.toList ++ Lib.strCells s := by
  have e1 : (T ++ s).data.toList = T.data.toList ++ s.data.toList := by simp
  rw [e1, Lib.byteCells_append]
  rfl
 rw [this]
 exact h1
theorem escL_qb {c : Nat} : qb c = if escL c = [] then [c] else escL c := by
 unfold qb escL
 by_cases c1 : c = 34 \/ c = 92
 ·rw [if_pos c1, if_pos c1, if_neg (List.cons_ne_nil _ _)]
 rw [if_neg c1, if_neg c1]
 by_cases c2 : c = 10
 ·rw [if_pos c2, if_pos c2, if_neg (List.cons_ne_nil _ _)]
 rw [if_neg c2, if_neg c2]
 by_cases c3 : c = 9
 ·rw [if_pos c3, if_pos c3, if_neg (List.cons_ne_nil _ _)]
 rw [if_neg c3, if_neg c3]
 by_cases c4 : c = 13
 ·rw [if_pos c4, if_pos c4, if_neg (List.cons_ne_nil _ _)]
 rw [if_neg c4, if_neg c4]
 by_cases c5 : c < 32 \/ c = 127
 ·rw [if_pos c5, if_pos c5, if_neg (List.cons_ne_nil _ _)]
 ·rw [if_neg c5, if_neg c5, if_pos rfl]
theorem dec_esc {r : List Nat} (hr : r ≠ []) (hd : Dg 256 r) : (escL (decN r).1 ≠ [] -> (decN r).2 = 1 /\ (decN r).1 = r.getD 0 0 /\ r.getD 0 0 < 128) /\ (escL (decN r).1 = [] -> ∀ j, j < (decN r).2 -> qb (r.getD j 0) = [r.getD j 0]) := by
 by_cases h : r.getD 0 0 < 128
 ·rw [decN_low h]
  refine ⟨fun _ => ⟨rfl, rfl, h⟩, fun he j hj => ?_⟩
  obtain rfl : j = 0 := by simp only at hj; omega
  rw [escL_qb, if_pos he]
 ·have hh := decN_high hr (by omega)
  refine ⟨fun hn => absurd ?_ hn, fun _ j hj => qb_high (hh.2.2.2.2.2 j hj)⟩
  unfold escL
  rw [if_neg (by omega), if_neg (by omega), if_neg (by omega), if_neg (by omega), if_neg (by omega)]
theorem plain_flat : ∀ (l : List Nat), (∀ j, j < l.length -> qb (l.getD j 0) = [l.getD j 0]) -> l.flatMap qb = l
 | [], _ => rfl
 | c :: l, h => by
  have h0 : qb c = [c] := h 0 (by simp)
  rw [List.flatMap_cons, h0, plain_flat l (fun j hj => by have := h (j + 1) (by simpa using hj); simpa using this)]; rfl
theorem qb_len5 {c : Nat} : (qb c).length <= 5 := by
 by_cases h : c < 128
 ·exact (qb_len h).2
 ·rw [qb_high (by omega)]; simp
theorem flat_len : ∀ l : List Nat, (l.flatMap qb).length <= 5 * l.length
 | [] => Nat.le_refl _
 | c :: l => by
  have := flat_len l
  have := qb_len5 (c := c)
  rw [List.flatMap_cons, List.length_append, List.length_cons]; omega
theorem split_take {l : List Nat} {k p : Nat} (hk : k <= p) (hp : p <= l.length) : l.take p = l.take k ++ (l.drop k).take (p - k) := by
 have := List.take_add (l := l) (i := k) (j := p - k)
 rw [show k + (p - k) = p by omega] at this
 exact this
theorem plain_part {l : List Nat} {k p : Nat} (hk : k <= p) (hp : p <= l.length) (h : ∀ j, k <= j -> j < p -> qb (l.getD j 0) = [l.getD j 0]) : (l.take p).flatMap qb = (l.take k).flatMap qb ++ (l.drop k).take (p - k) := by
 rw [split_take hk hp, List.flatMap_append]
 congr 1
 apply plain_flat
 intro j hj
 rw [List.length_take, List.length_drop] at hj
 rw [getD_take_lt _ (by omega), getD_drop]
 exact h (k + j) (by omega) (by omega)
set_option maxHeartbeats 8000000 in
theorem spellText_any (s : ByteArray) (w : World) (hs : s.size <= 1000000) (hD : DbT w) : Calls Tryz.prog 28 #[.string s] w fun e w' => e = .returned (.string (bstr (qt (bs s)))) /\ Below w.heap.size w w' := by
 have hl := bs_length s
 obtain ⟨l, hle⟩ : ∃ l, l = bs s := ⟨_, rfl⟩
 rw [<- hle] at hl ⊢
 have HDg : Hid (Dg 256 l) := by rw [hle]; exact bs_lt s
 have HLe := hid hle
 have HL := hid hl
 have HD := hid hD
 have hs2 : (s.size : Int) <= 1000000 := by omega
 have HW0 : Hid (Below w.heap.size w (w.alloc (.cells #[.pointer none, .slice none 0 0] 72))) := Ba w _
 have CB := hid (writeQ_any w.heap.size w.heap.size ⟨#[]⟩ _ (BldF.new w) (by show 0 <= _; omega) (Ba w _).size)
 clear hD hle hl
 go_enter Tryz.func28, Tryz.ntmps28
 go_wp2_with fail
 go_at_call 48
 with_reducible refine CB.out.mono ?_
 rintro e w1 ⟨rfl, b1, b2, b3⟩
 have HBl1 : Hid (BldF w.heap.size w.heap.size (bstr [34]) w1) := b1
 have HW1 : Hid (Below w.heap.size w w1) := HW0.out.trans b2
 have HSz : Hid (w.heap.size < w1.heap.size) := by have := b2.size; rw [size_alloc] at this; exact this
 have HI0 : Hid (BldF w.heap.size w.heap.size (bstr [34]) (w1.iter s 0) /\ (w1.iter s 0).heap[w1.heap.size]? = some (.stringIter s 0) /\ Below w.heap.size w (w1.iter s 0)) := ⟨HBl1.out.alloc _, World.iter_heap w1 s 0, HW1.out.trans ((Ba _ _).mono HW1.out.size)⟩
 clear b1 b2 b3 CB
 go_wp2_with fail
 go_loopg [4] s.size (fun g v wx => ∃ (k p : Nat) (T : ByteArray), v = .int .i64 k /\ g = s.size - p /\ k <= p /\ p <= s.size /\ Hid (T = bstr (34 :: (l.take k).flatMap qb)) /\ Hid (∀ j, k <= j -> j < p -> qb (l.getD j 0) = [l.getD j 0]) /\ Hid (BldF w.heap.size w.heap.size T wx) /\ Hid (wx.heap[w1.heap.size]? = some (.stringIter s p)) /\ Hid (Below w.heap.size w wx))
 case atStart => exact ⟨0, 0, bstr [34], rfl, rfl, Nat.le_refl _, Nat.zero_le _, by rw [List.take_zero]; rfl, fun j h1 h2 => absurd h2 (Nat.not_lt_zero _), HI0.out.1, HI0.out.2.1, HI0.out.2.2⟩
 case round =>
  obtain ⟨k, p, T, rfl, rfl, hkp, hps, hT, hA, hBl, hIt, hBw⟩ := hrel
  clear HI0 HBl1
  have hTs : T.size <= 5 * k + 1 := by
   rw [hT.out, bstr_size, List.length_cons]
   have h1 := flat_len (l.take k)
   have h2 : (l.take k).length <= k := by rw [List.length_take]; omega
   omega
  have hBs : w.heap.size <= wr.heap.size := hBw.out.size
  have hks : k <= s.size := Nat.le_trans hkp hps
  have k0 : (0 : Int) <= (k : Int) := by omega
  have k1 : (k : Int) <= (p : Int) := by omega
  have k2 : (p : Int) <= (s.size : Int) := by omega
  have k3 : (k : Int) <= (s.size : Int) := by omega
  by_cases hlt : p < s.size
  ·have hnx := fun ty => Lib.run_next_any_at (P := Tryz.prog) wr w1.heap.size s p ty hIt.out hlt
   have hdp : (bs s).drop p = l.drop p := by rw [<- HLe.out]
   rw [decode_drop, hdp] at hnx
   have hne : l.drop p ≠ [] := by intro e; have := congrArg List.length e; rw [List.length_drop, List.length_nil, HL.out] at this; omega
   have hdl := decN_le hne
   rw [List.length_drop, HL.out] at hdl
   have hde := dec_esc hne (HDg.out.drop p)
   have hmx : (decN (l.drop p)).1 <= 1114111 := by
    have := letB_rng' (dec_letB (HDg.out.drop p)); exact this
   obtain ⟨r, hr⟩ : ∃ r, r = (decN (l.drop p)).1 := ⟨_, rfl⟩
   obtain ⟨n, hn⟩ : ∃ n, n = (decN (l.drop p)).2 := ⟨_, rfl⟩
   rw [<- hr, <- hn] at hnx hde
   rw [<- hr] at hmx
   rw [<- hn] at hdl
   have HB2 : Hid (BldF w.heap.size w.heap.size T (wr.iterAt w1.heap.size s (p + n))) := hBl.out.iterAt hIt.out (p + n)
   have HI2 : Hid ((wr.iterAt w1.heap.size s (p + n)).heap[w1.heap.size]? = some (.stringIter s (p + n))) := Lib.iterAt_heap wr _ s p (p + n) hIt.out
   have HW2 : Hid (Below w.heap.size w (wr.iterAt w1.heap.size s (p + n))) := Lib.below_iterAt hBw.out HW1.out.size s (p + n)
   have CE := hid (escape_any r _ hmx (HD.out.below HW2.out))
   by_cases hes : escL r = []
   ·have HA2 : Hid (∀ j, k <= j -> j < p + n -> qb (l.getD j 0) = [l.getD j 0]) := fun j g1 g2 => by
     by_cases hj : j < p
     ·exact hA.out j g1 hj
     ·have := hde.2 hes (j - p) (by omega)
      rw [getD_drop, show p + (j - p) = j by omega] at this
      exact this
    have hpn : p + n <= s.size := by omega
    have hm : s.size - (p + n) < s.size - p := by omega
    rw [hes, show bstr [] = ⟨#[]⟩ from rfl] at CE
    clear hde hes hr hn hdp hne hdl hA hBl hIt hBw hmx hTs
    go_wp2_with fail
    go_at_call 49
    with_reducible refine CE.out.mono ?_
    rintro e wa ⟨rfl, ba⟩
    have HBa : Hid (BldF w.heap.size w.heap.size T wa) := HB2.out.on ba
    have HIa : Hid (wa.heap[w1.heap.size]? = some (.stringIter s (p + n))) := (ba.block _ (Array.getElem?_eq_some_iff.1 HI2.out).1).trans HI2.out
    have HWa : Hid (Below w.heap.size w wa) := HW2.out.trans (ba.mono HW2.out.size)
    clear ba CE HB2 HI2 HW2
    go_wp2_with fail
    go_roundg (s.size - (p + n))
    case measure => exact hm
    case rel => exact ⟨k, p + n, T, rfl, rfl, by omega, hpn, hT.out, HA2.out, HBa.out, HIa.out, HWa.out⟩
   ·obtain ⟨q1, q2, q3⟩ := hde.1 hes
    subst q1
    rw [getD_drop, Nat.add_zero] at q2 q3
    have hqr : qb r = escL r := by rw [escL_qb, if_neg hes]
    have hlen5 : (escL r).length <= 5 := by rw [<- hqr]; exact qb_len5
    obtain ⟨S, hS⟩ : ∃ S, S = bstr (escL r) := ⟨_, rfl⟩
    have hSz : S.size <= 5 := by rw [hS, bstr_size]; exact hlen5
    have hbS : bs S = escL r := by
     rw [hS, bs_bstr]
     intro c hc
     rw [<- hqr] at hc
     exact Nat.lt_trans (qb_low (by omega) c hc) (by decide)
    have f1 : (S.toList == []) = false := by
     have := test_str S []
     rw [this]; apply decide_eq_false; rw [hbS]; exact hes
    have hxz : (s.extract k p).size = p - k := by rw [ByteArray.size_extract]; omega
    rw [<- hS] at CE
    have HT2 : Hid (T ++ s.extract k p ++ S = bstr (34 :: (l.take (p + 1)).flatMap qb)) := by
     apply bs_ext
     rw [bs_append, bs_append, hT.out, bs_ext_at, <- HLe.out, hbS]
     have hqd : ∀ m, Dg 256 (34 :: (l.take m).flatMap qb) := fun m c hc => by
      rcases List.mem_cons.1 hc with rfl | hc
      ·decide
      ·obtain ⟨x, hx, hcx⟩ := List.mem_flatMap.1 hc
       by_cases h128 : x < 128
       ·exact Nat.lt_trans (qb_low h128 c hcx) (by decide)
       ·rw [qb_high (by omega), List.mem_singleton] at hcx
        subst hcx
        exact HDg.out _ (List.mem_of_mem_take hx)
     rw [bs_bstr (hqd k), bs_bstr (hqd (p + 1))]
     have e1 : l.take (p + 1) = l.take p ++ [r] := by
      rw [q2, List.take_succ_eq_append_getElem (by rw [HL.out]; omega), List.getD_eq_getElem?_getD, List.getElem?_eq_getElem (by rw [HL.out]; omega)]; rfl
     rw [e1, List.flatMap_append, plain_part hkp (by rw [HL.out]; omega) hA.out]
     simp [hqr]
    have CW1 := hid (fun W (h : BldF w.heap.size w.heap.size T W) (h2 : w.heap.size <= W.heap.size) => writeString_any w.heap.size w.heap.size T (s.extract k p) W h (by rw [hxz]; omega) h2)
    have CW2 := hid (fun W (h : BldF w.heap.size w.heap.size (T ++ s.extract k p) W) (h2 : w.heap.size <= W.heap.size) => writeString_any w.heap.size w.heap.size (T ++ s.extract k p) S W h (by rw [ByteArray.size_append, hxz]; omega) h2)
    have hpn : p + 1 <= s.size := by omega
    clear hde hes hr hn hdp hne hdl hA hBl hIt hBw hmx hTs q2 q3 hqr hlen5 hS hSz hbS hxz
    go_wp2_with fail
    go_at_call 49
    with_reducible refine CE.out.mono ?_
    rintro e wa ⟨rfl, ba⟩
    have HBa : Hid (BldF w.heap.size w.heap.size T wa) := HB2.out.on ba
    have HIa : Hid (wa.heap[w1.heap.size]? = some (.stringIter s (p + 1))) := (ba.block _ (Array.getElem?_eq_some_iff.1 HI2.out).1).trans HI2.out
    have HWa : Hid (Below w.heap.size w wa) := HW2.out.trans (ba.mono HW2.out.size)
    have CX := hid (CW1.out wa HBa.out HWa.out.size)
    clear ba CE HB2 HI2 HW2 CW1
    go_wp2_with fail
    go_at_call 50
    with_reducible refine CX.out.mono ?_
    rintro e wb ⟨⟨mm, rfl⟩, bb1, bb2, bb3⟩
    have HBb := hid bb1
    have HIb : Hid (wb.heap[w1.heap.size]? = some (.stringIter s (p + 1))) := bb3 _ _ HIa.out (by have := HSz.out; simp; omega) (fun c fz h => by cases h)
    have HWb := hid (HWa.out.trans bb2)
    have CY := hid (CW2.out wb HBb.out HWb.out.size)
    clear bb1 bb2 bb3 CX CW2
    go_wp2_with fail
    go_at_call 50
    with_reducible refine CY.out.mono ?_
    rintro e wc ⟨⟨mm2, rfl⟩, bc1, bc2, bc3⟩
    have HBc := hid bc1
    have HIc : Hid (wc.heap[w1.heap.size]? = some (.stringIter s (p + 1))) := bc3 _ _ HIb.out (by have := HSz.out; simp; omega) (fun c fz h => by cases h)
    have HWc := hid (HWb.out.trans bc2)
    clear bc1 bc2 bc3 CY
    go_wp2_with fail
    go_roundg (s.size - (p + 1))
    case measure => omega
    case rel => exact ⟨p + 1, p + 1, T ++ s.extract k p ++ S, by go_num, rfl, Nat.le_refl _, hpn, HT2.out, fun j g1 g2 => absurd g2 (by omega), HBc.out, HIc.out, HWc.out⟩
  ·have hpe : p = s.size := by omega
   subst hpe
   have hnx := fun ty => Lib.run_next_end_at (P := Tryz.prog) wr w1.heap.size s s.size ty hIt.out hlt
   have hxz : (s.extract k s.size).size = s.size - k := by rw [ByteArray.size_extract]; omega
   have HT2 : Hid (T ++ s.extract k s.size ++ bstr [34] = bstr (qt l)) := by
    apply bs_ext
    have hqd : ∀ m, Dg 256 (34 :: (l.take m).flatMap qb) := fun m c hc => by
     rcases List.mem_cons.1 hc with rfl | hc
     ·decide
     ·obtain ⟨x, hx, hcx⟩ := List.mem_flatMap.1 hc
      by_cases h128 : x < 128
      ·exact Nat.lt_trans (qb_low h128 c hcx) (by decide)
      ·rw [qb_high (by omega), List.mem_singleton] at hcx
       subst hcx
       exact HDg.out _ (List.mem_of_mem_take hx)
    have hqt : Dg 256 (qt l) := by
     have := hqd l.length
     rw [List.take_length] at this
     unfold qt
     rw [<- List.cons_append]
     exact this.append (by intro x hx; rw [List.mem_singleton] at hx; omega)
    rw [bs_append, bs_append, hT.out, bs_ext_at, <- HLe.out, bs_bstr (hqd k), bs_bstr hqt, bs_bstr (by intro x hx; rw [List.mem_singleton] at hx; omega)]
    have := plain_part hkp (by rw [HL.out]; exact Nat.le_refl _) hA.out
    rw [<- HL.out, List.take_length] at this
    unfold qt
    rw [this, HL.out]
    simp
   have CW1 := hid (writeString_any w.heap.size w.heap.size T (s.extract k s.size) wr hBl.out (by rw [hxz]; omega) hBw.out.size)
   have CW2 := hid (fun W (h : BldF w.heap.size w.heap.size (T ++ s.extract k s.size) W) (h2 : w.heap.size <= W.heap.size) => writeQ_any w.heap.size w.heap.size (T ++ s.extract k s.size) W h (by rw [ByteArray.size_append, hxz]; omega) h2)
   have CW3 := hid (fun W (h : BldF w.heap.size w.heap.size (T ++ s.extract k s.size ++ bstr [34]) W) (h2 : w.heap.size <= W.heap.size) => builderString_any w.heap.size w.heap.size _ W h h2)
   have HBw := hBw
   clear hA hBl hIt hBw hxz hTs
   go_wp2_with fail
   go_at_call 50
   with_reducible refine CW1.out.mono ?_
   rintro e wb ⟨⟨mm, rfl⟩, bb1, bb2, _⟩
   have HWb := hid (HBw.out.trans bb2)
   have CY := hid (CW2.out wb bb1 HWb.out.size)
   clear bb1 bb2 CW1 CW2
   go_wp2_with fail
   go_at_call 48
   with_reducible refine CY.out.mono ?_
   rintro e wc ⟨rfl, bc1, bc2, _⟩
   have HWc := hid (HWb.out.trans bc2)
   have CZ := hid (CW3.out wc bc1 HWc.out.size)
   clear bc1 bc2 CY CW3
   go_wp2_with fail
   go_at_call 51
   with_reducible refine CZ.out.mono ?_
   rintro e wd ⟨rfl, bd⟩
   have HWd := hid (HWc.out.trans bd)
   clear bd CZ
   rw [HT2.out]
   go_wp2_with fail
   go_ret
   exact ⟨rfl, HWd.out⟩
end Go.Proofs.YtbkfinjajkjhaaaGreatDoor
