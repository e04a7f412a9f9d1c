import Derived.Test.YtbkfinjajkjhaaaGreatDoorLX18
import Derived.Test.YtbkfinjajkjhaaaGreatDoorLM8
import Derived.Lib.OthersKept
import Derived.Shelf.Strings.BuilderF
set_option linter.unusedVariables false
set_option linter.unusedSimpArgs false
set_option maxRecDepth 100000
namespace Go.Proofs.YtbkfinjajkjhaaaGreatDoor
open Go.RowKit
abbrev BldF (B b : Nat) (T : ByteArray) (w : World) : Prop := Lib.IsBuilderF 72 5 B b (Lib.byteCells T.data.toList) w
theorem BldF.new (w : World) : BldF w.heap.size w.heap.size ⟨#[]⟩ (w.alloc (.cells #[.pointer none, .slice none 0 0] 72)) :=
 .inl ⟨Nat.le_refl _, .slice none 0 0, blk_new _ _ _, World.ownsRowF_nil _ _ _ _, by simp [Value.ownBlock]⟩
theorem BldF.on {B b : Nat} {T : ByteArray} {w w' : World} (h : BldF B b T w) (hb : Below w.heap.size w w') : BldF B b T w' := by
 have key : ∀ p, Lib.BuilderAtF 72 5 B b p (Lib.byteCells T.data.toList) w -> Lib.BuilderAtF 72 5 B b p (Lib.byteCells T.data.toList) w' := by
  rintro p ⟨hB, v, hbk, hown, hne⟩
  refine ⟨hB, v, (hb.block b (Array.getElem?_eq_some_iff.1 hbk).1).trans hbk, ⟨hown.1, ?_⟩, hne⟩
  rcases hown.2 with hn | ⟨g, cap, cur, fz, hv, hbg, hg, rest⟩
  ·exact .inl hn
  ·exact .inr ⟨g, cap, cur, fz, hv, hbg, (hb.block g (Array.getElem?_eq_some_iff.1 hg).1).trans hg, rest⟩
 exact h.elim (fun x => .inl (key _ x)) (fun x => .inr (key _ x))
theorem enc_le (r : Nat) : (Utf8.encode (r : Int)).size <= 4 := by
 have h : ∀ b : ByteArray, b.size = b.data.toList.length := fun b => rfl
 rw [h, enc_list]
 unfold Lib.encodeRune
 rw [List.length_map]
 exact (Lib.encodeRuneZ_length _).2
theorem wrap_succ {c : Nat} (h : c <= 1000000) : wrap64 ((c : Int) + 1) = ((c + 1 : Nat) : Int) := by unfold wrap64; omega
theorem four_le {c t : Nat} (h : c <= 1000000) (ht : t <= 4 * c) : t <= 4294967296 := by omega
theorem writeRune_any (B b : Nat) (T : ByteArray) (r : Nat) (w : World) (h : BldF B b T w) (hr : r <= 1114111) (hT : T.size <= 4294967296) (hB : B <= w.heap.size) : Calls Tryz.prog 99 #[.pointer (some ⟨b, 0, none⟩), .int .i32 (r : Nat)] w fun e w' => (∃ m, e = .returned (.tuple #[.int .i64 m, .nilIface])) /\ BldF B b (T ++ Utf8.encode (r : Int)) w' /\ Below B w w' /\ Lib.OthersKept 5 (some b) w w' := by
 refine (Any.Builder_WriteRune_k Tryz.lays168 Tryz.Builder_Extra_168 B b _ (r : Int) (by omega) (by omega) w h (by rw [Lib.byteCells_length]; have : T.data.toList.length = T.size := rfl; omega) hB).mono ?_
 rintro e w' ⟨rfl, h1, h2, h3⟩
 refine ⟨⟨_, rfl⟩, .inr ?_, h2, h3⟩
 have : Lib.byteCells (T ++ Utf8.encode (r : Int)).data.toList = Lib.byteCells T.data.toList ++ Lib.runeCells (r : Int) := by
  rw [<- Lib.byteCells_encodeRune, <- Lib.byteCells_append, <- enc_list]
  simp
 rw [this]
 exact h1
theorem builderString_any (B b : Nat) (T : ByteArray) (w : World) (h : BldF B b T w) (hB : B <= w.heap.size) : Calls Tryz.prog 51 #[.pointer (some ⟨b, 0, none⟩)] w fun e w' => e = .returned (.string T) /\ Below B w w' := by
 refine (Any.Builder_String_any_f Tryz.lays169 Tryz.Builder_Extra_169 B b T.data.toList w h hB).mono ?_
 rintro e w' ⟨rfl, _, h2⟩
 exact ⟨by simp, h2⟩
set_option maxHeartbeats 8000000 in
theorem said_any (l : List Nat) (E : Nat) (s : ByteArray) (w : World) (hd : Dg 256 l) (hs : bs s = (l.drop 1).take (E - 1)) (h1 : 1 <= E) (hE : E < l.length) (hte : te l 1 = E) (hv : Vd (l.drop 1)) (hsm : l.length <= 1000000) (hT : LTabs w) :
  Calls Tryz.prog 81 #[.string s] w fun e w' => ∃ (t : ByteArray) (b : Bool), e = .returned (.tuple #[.string t, .bool b]) /\ (textM l 0 = if b then some (t, E + 1) else none) /\ Below w.heap.size w w' := by
 have hsz : s.size = E - 1 := by rw [<- bs_length s, hs, List.length_take, List.length_drop]; omega
 have HD := hid hd
 have HS := hid hs
 have HT := hid hT
 have H34 : Hid (l.getD E 0 = 34) := by unfold Hid; rw [<- hte]; exact te_hit l.length l 1 (by omega) (by omega)
 obtain ⟨X, hX⟩ : ∃ X, X = txL l 1 ⟨#[]⟩ 0 := ⟨_, rfl⟩
 have HX : Hid (textM l 0 = txFin 0 X) := by unfold Hid textM; rw [hX]
 have HX0 : Hid (X = txL l (1 + 0) ⟨#[]⟩ 0) := hX
 have HI0 : Hid (te l (1 + 0) = E /\ Vd (l.drop (1 + 0))) := ⟨hte, hv⟩
 have HB0 : Hid (BldF w.heap.size w.heap.size ⟨#[]⟩ ((w.alloc (.cells #[.pointer none, .slice none 0 0] 72)).iter s 0) /\ ((w.alloc (.cells #[.pointer none, .slice none 0 0] 72)).iter s 0).heap[w.heap.size + 1]? = some (.stringIter s 0) /\ Below w.heap.size w ((w.alloc (.cells #[.pointer none, .slice none 0 0] 72)).iter s 0)) := by
  refine ⟨(BldF.new w).alloc _, ?_, (Ba w _).trans ((Ba _ _).mono (by rw [size_alloc]; omega))⟩
  have := World.iter_heap (w.alloc (.cells #[.pointer none, .slice none 0 0] 72)) s 0
  rw [size_alloc] at this
  exact this
 have HSZ := hid hsz
 clear hX hs hT hte hv hd hsz
 go_enter Tryz.func81, Tryz.ntmps81
 go_wp2_with fail
 go_loopg [5, 6] s.size (fun g c q wx => ∃ (cN qN p k : Nat) (T : ByteArray), c = .int .i64 cN /\ q = .int .i64 qN /\ g = s.size - p /\ p <= k /\ qN <= k /\ (k = p \/ k = qN) /\ k <= s.size /\ cN <= k /\ T.size <= 4 * cN /\ Hid (∀ j, p <= j -> j < k -> l.getD (1 + j) 0 < 128) /\ Hid (X = txL l (1 + k) T cN) /\ Hid (te l (1 + k) = E /\ Vd (l.drop (1 + k))) /\ Hid (BldF w.heap.size w.heap.size T wx) /\ Hid (wx.heap[w.heap.size + 1]? = some (.stringIter s p)) /\ Hid (Below w.heap.size w wx))
 case atStart => exact ⟨0, 0, 0, 0, ⟨#[]⟩, rfl, rfl, rfl, Nat.le_refl _, Nat.le_refl _, .inl rfl, Nat.zero_le _, Nat.zero_le _, Nat.zero_le _, fun j h1 h2 => absurd h2 (Nat.not_lt_zero _), HX0.out, HI0.out, HB0.out.1, HB0.out.2.1, HB0.out.2.2⟩
 case round =>
  obtain ⟨cN, qN, p, k, T, rfl, rfl, rfl, hpk, hqk, hkk, hks, hcN, hTs, hA, hI, hJ, hBl, hIt, hBw⟩ := hrel
  clear HX0 HI0 HB0
  have hBs : w.heap.size <= wr.heap.size := hBw.out.size
  have hsz := HSZ.out
  by_cases hlt : p < s.size
  ·have hnx := fun ty => Lib.run_next_any_at (P := Tryz.prog) wr (w.heap.size + 1) s p ty hIt.out hlt
   have hdp : (bs s).drop p = (l.drop (1 + p)).take (E - (1 + p)) := by
    rw [HS.out, List.drop_take, List.drop_drop, show E - 1 - p = E - (1 + p) by omega]
   rw [decode_drop, hdp] at hnx
   by_cases hq : p < qN
   ·have hb1 := hA.out p (Nat.le_refl _) (by omega)
    have hdec : (decN ((l.drop (1 + p)).take (E - (1 + p)))).2 = 1 := by rw [decN_low (by rw [getD_take_lt _ (by omega), getD_drop]; exact hb1)]
    rw [hdec] at hnx
    obtain ⟨r, hr⟩ : ∃ r, r = (decN ((l.drop (1 + p)).take (E - (1 + p)))).1 := ⟨_, rfl⟩
    rw [<- hr] at hnx
    have q1 : (p : Int) < (qN : Int) := by omega
    have HB2 : Hid (BldF w.heap.size w.heap.size T (wr.iterAt (w.heap.size + 1) s (p + 1))) := hBl.out.iterAt hIt.out (p + 1)
    have HI2 : Hid ((wr.iterAt (w.heap.size + 1) s (p + 1)).heap[w.heap.size + 1]? = some (.stringIter s (p + 1))) := Lib.iterAt_heap wr _ s p (p + 1) hIt.out
    have HW2 : Hid (Below w.heap.size w (wr.iterAt (w.heap.size + 1) s (p + 1))) := Lib.below_iterAt hBw.out (by omega) s (p + 1)
    have HA2 : Hid (∀ j, p + 1 <= j -> j < k -> l.getD (1 + j) 0 < 128) := fun j g1 g2 => hA.out j (by omega) g2
    clear hb1 hdec hr hdp hA hBl hIt hBw hsz
    go_wp2_with fail
    go_roundg (s.size - (p + 1))
    case measure => omega
    case rel => exact ⟨cN, qN, p + 1, k, T, rfl, rfl, rfl, by omega, hqk, .inr (by omega), hks, hcN, hTs, HA2.out, hI.out, hJ.out, HB2.out, HI2.out, HW2.out⟩
   ·have hkp : k = p := by omega
    subst hkp
    obtain ⟨s1, s2, s3, s4, s5, s6⟩ := said_step HD.out hE (k := 1 + k) (by omega) hJ.out.1 hJ.out.2
    rw [s4] at hnx
    have hgo := txL_go (l := l) (k := 1 + k) (T := T) (c := cN) (by omega)
    rw [if_neg s1] at hgo
    have q1 : ¬ (k : Int) < (qN : Int) := by omega
    have q3 : (k : Int) <= (s.size : Int) := by omega
    by_cases h92 : l.getD (1 + k) 0 = 92
    ·obtain ⟨a1, a2, a3⟩ := s2 h92
     have e0 : (l.drop (1 + k)).getD 0 0 = 92 := by rw [getD_drop]; exact h92
     have hr1 : (decN (l.drop (1 + k))).1 = 92 := s6.1 h92
     have hr2 : (decN (l.drop (1 + k))).2 = 1 := by rw [decN_low (by rw [e0]; decide)]
     rw [hr1, hr2] at hnx
     have hxs : (s.extract k s.size).size = s.size - k := by rw [ByteArray.size_extract]; omega
     have CE := hid (fun W (h : Below w.heap.size w W) => escaped_any (s.extract k s.size) W (by omega) (by omega) (HT.out.below h))
     rw [bs_extract, hdp] at CE
     have hitem : itemM (l.drop (1 + k)) = (escM (l.drop (1 + k))).getD (0, 0) := by unfold itemM; rw [if_pos e0]; rfl
     have hve := escV_max (l.drop (1 + k))
     unfold escV at CE hve
     rw [a2] at CE
     obtain ⟨M, hM⟩ : ∃ M, M = escM (l.drop (1 + k)) := ⟨_, rfl⟩
     rw [<- hM] at CE hitem a3 hve
     have HB2 : Hid (BldF w.heap.size w.heap.size T (wr.iterAt (w.heap.size + 1) s (k + 1))) := hBl.out.iterAt hIt.out (k + 1)
     have HI2 : Hid ((wr.iterAt (w.heap.size + 1) s (k + 1)).heap[w.heap.size + 1]? = some (.stringIter s (k + 1))) := Lib.iterAt_heap wr _ s k (k + 1) hIt.out
     have HW2 : Hid (Below w.heap.size w (wr.iterAt (w.heap.size + 1) s (k + 1))) := Lib.below_iterAt hBw.out (by omega) s (k + 1)
     have CE2 := hid (CE.out _ HW2.out)
     have HG := hid hgo
     have HIM := hid hitem
     have HA3 := hid a3
     have HVE := hid hve
     clear s1 s2 s3 s4 s5 s6 hgo h92 a1 a2 a3 e0 hr1 hr2 hxs CE hitem hM hdp hA hBl hIt hBw hve hsz
     cases M with
     | none =>
      have HN : Hid (X = none) := by unfold Hid; rw [hI.out, HG.out, HIM.out]; rfl
      clear HG HIM HA3 hI HVE
      go_wp2_with fail
      with_reducible refine CE2.out.mono ?_
      rintro e wa ⟨rfl, ba⟩
      have HWa := hid (HW2.out.trans (ba.mono HW2.out.size))
      clear ba CE2
      go_wp2_with fail
      go_ret2
      exact ⟨⟨#[]⟩, false, rfl, by rw [HX.out, HN.out]; rfl, HWa.out⟩
     | some m =>
      obtain ⟨v, n⟩ := m
      obtain ⟨b1, b2, b3, b4, b5⟩ := HA3.out v n rfl
      have hvm : v <= 1114111 := HVE.out
      have HX2 : Hid (X = txL l (1 + (k + n)) (T ++ Utf8.encode (v : Int)) (cN + 1)) := by
       unfold Hid
       rw [hI.out, HG.out, HIM.out]
       show (if n = 0 then none else txL l (1 + k + n) (T ++ Utf8.encode (v : Int)) (cN + 1)) = _
       rw [if_neg (by omega), show 1 + k + n = 1 + (k + n) by omega]
      have HJ2 : Hid (te l (1 + (k + n)) = E /\ Vd (l.drop (1 + (k + n)))) := by
       unfold Hid; rw [show 1 + (k + n) = 1 + k + n by omega]; exact ⟨b3, b4⟩
      have HA2 : Hid (∀ j, k + 1 <= j -> j < k + n -> l.getD (1 + j) 0 < 128) := fun j g1 g2 => b5 (1 + j) (by omega) (by omega)
      have hsz := HSZ.out
      skip
      have hTe : Hid ((T ++ Utf8.encode (v : Int)).size <= 4 * (cN + 1)) := Nat.le_trans (Nat.le_of_eq ByteArray.size_append) (Nat.le_trans (Nat.add_le_add hTs (enc_le v)) (Nat.le_of_eq (by omega)))
      have q4 : ((n : Int) == 0) = false := by simp; omega
      have hkn : k + n <= s.size := by omega
      have q5 : wrap64 ((k : Int) + (n : Int)) = ((k + n : Nat) : Int) := by unfold wrap64; omega
      have hc6 : cN <= 1000000 := Nat.le_trans hcN (Nat.le_trans hks (by rw [hsz]; omega))
      have q6 := wrap_succ hc6
      have CW := hid (fun W (h : BldF w.heap.size w.heap.size T W) (h2 : w.heap.size <= W.heap.size) => writeRune_any w.heap.size w.heap.size T v W h hvm (four_le hc6 hTs) h2)
      have HR2 : Hid (cN + 1 <= k + n /\ k + 1 <= k + n /\ s.size - (k + 1) < s.size - k /\ k + n <= s.size) := ⟨Nat.add_le_add hcN (Nat.le_trans (by decide) b2), Nat.add_le_add_left (Nat.le_trans (by decide) b2) k, Nat.sub_lt_sub_left hlt (Nat.lt_succ_self k), hkn⟩
      clear HG HIM HA3 hI HVE b3 b4 b5 hsz hcN hks hTs b1 b2 hqk hkk hpk hkn hc6 hvm hlt hq hBs hE hsm h1
      go_wp2_with fail
      with_reducible refine CE2.out.mono ?_
      rintro e wa ⟨rfl, ba⟩
      have HWa := hid (HW2.out.trans (ba.mono HW2.out.size))
      have HBa : Hid (BldF w.heap.size w.heap.size T wa) := HB2.out.on ba
      have HIa : Hid (wa.heap[w.heap.size + 1]? = some (.stringIter s (k + 1))) := (ba.block _ (Array.getElem?_eq_some_iff.1 HI2.out).1).trans HI2.out
      have CW2 := hid (CW.out wa HBa.out HWa.out.size)
      clear ba CE2 HB2 HI2 HW2 CW
      go_wp2_with fail
      go_at_call 99
      with_reducible refine CW2.out.mono ?_
      rintro e wb ⟨⟨mm, rfl⟩, bb1, bb2, bb3⟩
      have HBb := hid bb1
      have HIb : Hid (wb.heap[w.heap.size + 1]? = some (.stringIter s (k + 1))) := bb3 _ _ HIa.out (by simp) (fun c fz h => by cases h)
      have HWb := hid (HWa.out.trans bb2)
      clear bb1 bb2 bb3 CW2
      go_wp2_with fail
      go_roundg (s.size - (k + 1))
      case measure => exact HR2.out.2.2.1
      case rel => exact ⟨cN + 1, k + n, k + 1, k + n, T ++ Utf8.encode (v : Int), by go_num, by go_num, rfl, HR2.out.2.1, Nat.le_refl _, .inr rfl, HR2.out.2.2.2, HR2.out.1, hTe.out, HA2.out, HX2.out, HJ2.out, HBb.out, HIb.out, HWb.out⟩
    ·obtain ⟨c1, c2, c3, c4, c5⟩ := s3 h92
     have e0 : (l.drop (1 + k)).getD 0 0 = l.getD (1 + k) 0 := by rw [getD_drop]; rfl
     have hitem : itemM (l.drop (1 + k)) = decN (l.drop (1 + k)) := by unfold itemM; rw [if_neg (by rw [e0]; exact h92), c1]
     have hr1 : (decN (l.drop (1 + k))).1 ≠ 92 := fun h => h92 (s6.2 h)
     rw [hitem] at hgo
     obtain ⟨r, hr⟩ : ∃ r, r = (decN (l.drop (1 + k))).1 := ⟨_, rfl⟩
     obtain ⟨n, hn⟩ : ∃ n, n = (decN (l.drop (1 + k))).2 := ⟨_, rfl⟩
     rw [<- hr, <- hn] at hnx hgo
     rw [<- hr] at hr1 s5
     rw [<- hn] at c2 c3 c4 c5
     have q2 : ((r : Int) == 92) = false := by simp; omega
     have HX2 : Hid (X = txL l (1 + (k + n)) (T ++ Utf8.encode (r : Int)) (cN + 1)) := by
      unfold Hid
      rw [hI.out, hgo, if_neg (by omega), show 1 + k + n = 1 + (k + n) by omega]
     have HJ2 : Hid (te l (1 + (k + n)) = E /\ Vd (l.drop (1 + (k + n)))) := by
      unfold Hid; rw [show 1 + (k + n) = 1 + k + n by omega]; exact ⟨c4, c5⟩
     skip
     have hTe : Hid ((T ++ Utf8.encode (r : Int)).size <= 4 * (cN + 1)) := Nat.le_trans (Nat.le_of_eq ByteArray.size_append) (Nat.le_trans (Nat.add_le_add hTs (enc_le r)) (Nat.le_of_eq (by omega)))
     have hkn : k + n <= s.size := by omega
     have hc6 : cN <= 1000000 := Nat.le_trans hcN (Nat.le_trans hks (by rw [hsz]; omega))
     have q6 := wrap_succ hc6
     have HB2 : Hid (BldF w.heap.size w.heap.size T (wr.iterAt (w.heap.size + 1) s (k + n))) := hBl.out.iterAt hIt.out (k + n)
     have HI2 : Hid ((wr.iterAt (w.heap.size + 1) s (k + n)).heap[w.heap.size + 1]? = some (.stringIter s (k + n))) := Lib.iterAt_heap wr _ s k (k + n) hIt.out
     have HW2 : Hid (Below w.heap.size w (wr.iterAt (w.heap.size + 1) s (k + n))) := Lib.below_iterAt hBw.out (by omega) s (k + n)
     have CW2 := hid (writeRune_any w.heap.size w.heap.size T r _ HB2.out s5 (four_le hc6 hTs) HW2.out.size)
     have HR2 : Hid (cN + 1 <= k + n /\ qN <= k + n /\ s.size - (k + n) < s.size - k /\ k + n <= s.size) := ⟨Nat.add_le_add hcN c2, Nat.le_trans hqk (Nat.le_add_right _ _), Nat.sub_lt_sub_left hlt (Nat.lt_add_of_pos_right c2), hkn⟩
     clear hcN hks hTs c2 hqk hkk hpk hkn hc6 hlt hq hBs hE hsm h1
     clear s1 s2 s3 s4 s5 s6 hgo h92 c1 c3 c4 c5 e0 hr1 hitem hr hn hdp hA hBl hIt hBw hsz hI hJ
     go_wp2_with fail
     go_at_call 99
     with_reducible refine CW2.out.mono ?_
     rintro e wb ⟨⟨mm, rfl⟩, bb1, bb2, bb3⟩
     have HBb := hid bb1
     have HIb : Hid (wb.heap[w.heap.size + 1]? = some (.stringIter s (k + n))) := bb3 _ _ HI2.out (by simp) (fun c fz h => by cases h)
     have HWb := hid (HW2.out.trans bb2)
     clear bb1 bb2 bb3 CW2
     go_wp2_with fail
     go_roundg (s.size - (k + n))
     case measure => exact HR2.out.2.2.1
     case rel => exact ⟨cN + 1, qN, k + n, k + n, T ++ Utf8.encode (r : Int), by go_num, rfl, rfl, Nat.le_refl _, HR2.out.2.1, .inl rfl, HR2.out.2.2.2, HR2.out.1, hTe.out, fun j g1 g2 => absurd (Nat.lt_of_le_of_lt g1 g2) (Nat.lt_irrefl _), HX2.out, HJ2.out, HBb.out, HIb.out, HWb.out⟩
  ·have hkp : k = p := by omega
   subst hkp
   have hnx := fun ty => Lib.run_next_end_at (P := Tryz.prog) wr (w.heap.size + 1) s k ty hIt.out hlt
   have hkE : 1 + k = E := by omega
   have hgo := txL_go (l := l) (k := E) (T := T) (c := cN) hE
   rw [if_pos H34.out] at hgo
   have HXX : Hid (X = some (T, cN, E + 1)) := by unfold Hid; rw [hI.out, hkE, hgo]
   have CS := hid (builderString_any w.heap.size w.heap.size T wr hBl.out hBw.out.size)
   have HBw := hBw
   clear hI hJ hA hBl hIt hBw hgo hkE hlt hsz
   have HP : Hid (textM l 0 = if decide (cN <= 1024) = true then some (T, E + 1) else none) := by
    unfold Hid; rw [HX.out, HXX.out]; unfold txFin; simp only [decide_eq_true_eq]; rfl
   go_wp2_with fail
   go_at_call 51
   with_reducible refine CS.out.mono ?_
   rintro e wb ⟨rfl, bb⟩
   have HWb := hid (HBw.out.trans bb)
   clear bb CS
   have hdec : decide ((cN : Int) <= 1024) = decide (cN <= 1024) := by
    by_cases h : cN <= 1024
    ·rw [decide_eq_true h, decide_eq_true (show (cN : Int) <= 1024 by omega)]
    ·rw [decide_eq_false h, decide_eq_false (show ¬ (cN : Int) <= 1024 by omega)]
   have HDc := hid hdec
   clear hdec
   go_wp2_with fail
   go_ret2
   exact ⟨T, decide ((cN : Int) <= 1024), rfl, by rw [HP.out, HDc.out], HWb.out⟩
end Go.Proofs.YtbkfinjajkjhaaaGreatDoor
