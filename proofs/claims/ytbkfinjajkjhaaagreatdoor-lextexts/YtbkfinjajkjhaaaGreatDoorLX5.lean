import Derived.Test.YtbkfinjajkjhaaaGreatDoorLX4
import Derived.Test.YtbkfinjajkjhaaaGreatDoorSG3
import Derived.Lib.IndexEntry
set_option linter.unusedVariables false
set_option linter.unusedSimpArgs false
set_option maxRecDepth 100000
namespace Go.Proofs.YtbkfinjajkjhaaaGreatDoor
open Go.RowKit
theorem prefix_high {c : UInt8} {tl : List UInt8} (hc : 128 <= c.toNat) : ∀ l : List UInt8, (∀ x ∈ l, x.toNat < 128) -> (c :: tl).isPrefixOf l = false
 | [], _ => rfl
 | x :: l, h => by
  have hx := h x (.head _)
  have : (c == x) = false := by
   rw [beq_eq_false_iff_ne]; intro e; rw [e] at hc; omega
  simp [List.isPrefixOf, this]
theorem index_high {c : UInt8} {tl s : List UInt8} (hc : 128 <= c.toNat) (hs : ∀ x ∈ s, x.toNat < 128) : Lib.index s (c :: tl) = -1 :=
 Lib.index_none fun j _ => prefix_high hc _ fun x hx => hs x (List.mem_of_mem_drop hx)
theorem letB_of {c : Nat} (h : c < 55296 \/ (57344 <= c /\ c <= 1114111)) : letB (c : Int) = true := by
 unfold letB; simp; omega
theorem enc_dec {r : List Nat} (hr : r ≠ []) (h : 128 <= r.getD 0 0) (hne : (decN r).1 ≠ 65533) : (Utf8.encode ((decN r).1 : Nat)).size = (decN r).2 /\ 2 <= (decN r).2 /\ ∃ c tl, (Utf8.encode ((decN r).1 : Nat)).data.toList = c :: tl /\ 128 <= c.toNat := by
 have sz : ∀ (s : ByteArray), s.size = s.data.toList.length := fun s => rfl
 unfold decN at hne ⊢
 rcases Lib.decodeN_shape r.length (r.getD 0 0) (r.getD 1 0) (r.getD 2 0) (r.getD 3 0) with ⟨h1, _⟩ | ⟨h0, h1, h2, h3, e⟩ | ⟨h0, h1, h2, h3, h4, h5, e⟩ | ⟨h0, h1, h2, h3, h4, h5, h6, e⟩ | e
 ·omega
 ·rw [e] at hne ⊢
  obtain ⟨c, hc⟩ : ∃ c, c = r.getD 0 0 % 32 * 64 + r.getD 1 0 % 64 := ⟨_, rfl⟩
  clear hne
  rw [<- hc] at h3 ⊢
  have hl := enc_2 (letB_of (c := c) (by clear e; omega)) h3 (by clear e; omega)
  dsimp only
  generalize Utf8.encode (c : Int) = E at hl ⊢
  refine ⟨(sz E).trans ((congrArg List.length hl).trans (by simp)), Nat.le_refl _, _, _, hl, ?_⟩
  rw [UInt8.toNat_ofNat']; omega
 ·rw [e] at hne ⊢
  obtain ⟨c, hc⟩ : ∃ c, c = r.getD 0 0 % 16 * 4096 + r.getD 1 0 % 64 * 64 + r.getD 2 0 % 64 := ⟨_, rfl⟩
  clear hne
  rw [<- hc] at h4 h5 ⊢
  have hl := enc_3 (letB_of (c := c) (by clear e; omega)) h4 (by clear e; omega)
  dsimp only
  generalize Utf8.encode (c : Int) = E at hl ⊢
  refine ⟨(sz E).trans ((congrArg List.length hl).trans (by simp)), by show 2 <= 3; omega, _, _, hl, ?_⟩
  rw [UInt8.toNat_ofNat']; omega
 ·rw [e] at hne ⊢
  obtain ⟨c, hc⟩ : ∃ c, c = r.getD 0 0 % 8 * 262144 + r.getD 1 0 % 64 * 4096 + r.getD 2 0 % 64 * 64 + r.getD 3 0 % 64 := ⟨_, rfl⟩
  clear hne
  rw [<- hc] at h5 h6 ⊢
  have hl := enc_4 (letB_of (c := c) (by clear e; omega)) h5
  dsimp only
  generalize Utf8.encode (c : Int) = E at hl ⊢
  refine ⟨(sz E).trans ((congrArg List.length hl).trans (by simp)), by show 2 <= 4; omega, _, _, hl, ?_⟩
  rw [UInt8.toNat_ofNat']; omega
 ·rw [e] at hne; exact absurd rfl hne
theorem maxlen_at : Tryz.prog.globals.findIdx? (·.name == "internal/bytealg.MaxLen") = some 3 := by kernel_rfl
theorem ext_indexStr (s t : ByteArray) (w : World) (m : Int) (hm : w.cell? ⟨3, 0, none⟩ = some (.int .i64 m)) (h2 : 2 <= t.size) (hb : (t.size : Int) <= m) (ha : s.size < 4294967281) :
  (callFunc 124 #[.string s, .string t]).run Tryz.prog w = .ok (.value (.int .i64 (Lib.index s.data.toList t.data.toList))) w := by
 rw [run_callFunc_extern Tryz.func124 (by kernel_rfl) (by kernel_rfl) (by kernel_rfl) (e := Extern.BytealgIndex.index) (by kernel_rfl), Lib.run_indexString s t w _ m maxlen_at hm h2 hb ha]
 rfl
set_option maxHeartbeats 8000000 in
theorem indexAny_short (ao : Option Addr) (n cap : Nat) (l : List Nat) (w : World) (R : BRow w ao n cap l) (h8 : n <= 8) (h1 : n ≠ 1) (hT : LTabs w) : Calls Tryz.prog 97 #[.slice ao n cap, .string dlmS] w fun e w' => e = .returned (.int .i64 (anyI l)) /\ Below w.heap.size w w' := by
 have hs0 := dlmS_ne.1
 have hem0 := dlmS_ne.2
 have e119 := fun (c : Nat) W => ext_index dlmS c W
 have hdi := dlmI_is
 have HX : Hid (∀ (t : ByteArray) (W : World) (m : Int) (c : UInt8) (tl : List UInt8), W.cell? ⟨3, 0, none⟩ = some (.int .i64 m) -> 2 <= t.size -> (t.size : Int) <= m -> t.data.toList = c :: tl -> 128 <= c.toNat -> (callFunc 124 #[.string dlmS, .string t]).run Tryz.prog W = .ok (.value (.int .i64 (-1))) W) := fun t W m c tl hm h2 hb ht hc => by
  rw [ext_indexStr dlmS t W m hm h2 hb (by decide), ht, index_high hc]
  intro x hx
  obtain ⟨j, hj, rfl⟩ := List.mem_iff_getElem.1 hx
  exact dlmS_lt j hj
 obtain ⟨I, hI⟩ : ∃ I : Nat -> Int, I = dlmI := ⟨_, rfl⟩
 have he : ∀ (c : Nat) W, (callFunc 119 #[.string dlmS, .int .u8 (c : Int)]).run Tryz.prog W = .ok (.value (.int .i64 (I c))) W := fun c W => by rw [e119 c W, hI]; rfl
 have HDI : Hid (∀ c, c < 256 -> (dlmB c = true -> 0 <= I c) /\ (dlmB c = false -> I c = -1)) := fun c hc => by rw [hI]; exact hdi ⟨c, hc⟩
 obtain ⟨S, hS⟩ : ∃ S, dlmS = S := ⟨_, rfl⟩
 have hSz : S.size = 8 := by rw [<- hS]; rfl
 have hSl : Hid (∀ j : Nat, ∀ h : j < S.size, (S[j]'h).toNat < 128) := by rw [<- hS]; exact dlmS_lt
 have hem : S.toList.isEmpty = false := by rw [<- hS]; exact hem0
 rw [hS] at he hs0 HX ⊢
 have HE := hid he
 have CU : Hid (∀ wx, Calls Tryz.prog 121 #[.int .i64 n] wx fun e w' => e = .returned (.bool false) /\ w' = wx) := fun wx => (should_any n wx).mono fun e w' ⟨h1, h2⟩ => ⟨by rw [h1, decide_eq_false (by omega)], h2⟩
 have n1 : ((n : Int) == 1) = false := by simp; omega
 have HLn := hid R.len
 have HR := hid R
 have HT := hid hT
 obtain ⟨A, hA⟩ : ∃ A, A = anyI l := ⟨_, rfl⟩
 rw [<- hA]
 have HA := hid hA
 have HW0 : Hid (wordN l = 0 + wordN (l.drop 0)) := by unfold Hid; simp
 have HB0 : Hid (Below w.heap.size w w) := Below.refl _ _
 clear hA R hT he hI hS e119 hdi hem0 hs0
 go_enter Tryz.func97, Tryz.ntmps97
 go_wp2_with (go_at_call 121; with_reducible refine (CU.out _).mono ?_; rintro e wa ⟨rfl, hwa⟩; rw [hwa]; clear hwa)
 go_loopg [12] n (fun g v wx => ∃ k : Nat, v = .int .i64 k /\ k <= n /\ g = n - k /\ Hid (Below w.heap.size w wx) /\ Hid (wordN l = k + wordN (l.drop k)))
 case atStart => exact ⟨0, rfl, Nat.zero_le _, rfl, HB0.out, HW0.out⟩
 case round =>
  obtain ⟨k, rfl, hk, rfl, hB, hW⟩ := hrel
  obtain ⟨w1, w2, w3⟩ := wordN_all (l := l) (k := k) (by rw [HLn.out]; exact hk) hW.out
  clear HB0
  have HRr := hid (HR.out.below hB.out)
  have HTr := hid (HT.out.below hB.out)
  by_cases hlt : k < n
  ·obtain ⟨b, o, rfl, hb, hc⟩ := HRr.out.rd.some (by rw [HLn.out]; omega)
   have hcell := hc k (by rw [HLn.out]; exact hlt)
   obtain ⟨x, hx⟩ : ∃ x, x = l.getD k 0 := ⟨_, rfl⟩
   have hx256 : x < 256 := by rw [hx, List.getD_eq_getElem?_getD, List.getElem?_eq_getElem (by rw [HLn.out]; exact hlt)]; exact HRr.out.dg _ (List.getElem_mem _)
   rw [<- hx] at hcell w2 w3
   have k0 : (0 : Int) <= (k : Int) := by omega
   have k1 : (k : Int) < (n : Int) := by omega
   have hrf := HRr.out.fits
   have hrm := HRr.out.most
   unfold maxLen at hrm
   clear hc
   by_cases h128 : x < 128
   ·have x1 : (x : Int) < 128 := by omega
    obtain ⟨d1, d2⟩ := HDI.out x hx256
    have he := fun W => HE.out x W
    obtain ⟨d, hd⟩ : ∃ d, d = dlmB x := ⟨_, rfl⟩
    rw [<- hd] at w2 w3 d1 d2
    cases d
    ·have e1 := hid (w3 rfl (by rw [HLn.out]; exact hlt))
     rw [d2 rfl] at he
     clear w1 w2 w3 d1 d2 hd hx h128
     go_wp2_with fail
     go_roundg (n - (k + 1))
     case measure => omega
     case rel => exact ⟨k + 1, by go_num, by omega, rfl, hB.out, e1.out⟩
    ·have e1 : Hid (A = (k : Int)) := HA.out.trans (w2 rfl (by rw [HLn.out]; exact hlt))
     have i0 := d1 rfl
     obtain ⟨i, hi⟩ : ∃ i, i = I x := ⟨_, rfl⟩
     rw [<- hi] at he i0
     clear w1 w2 w3 d1 d2 hd hx h128 hi
     go_wp2_with fail
     go_ret
     exact ⟨by rw [e1.out]; rfl, hB.out⟩
   ·have x1 : ¬ (x : Int) < 128 := by omega
    have hRd := HRr.out.drop (k := k) (Nat.le_of_lt hlt)
    have hne : l.drop k ≠ [] := by intro e; have := congrArg List.length e; rw [List.length_drop, HLn.out] at this; simp at this; omega
    have hg : (l.drop k).getD 0 0 = x := by rw [dropN_cons (by rw [HLn.out]; exact hlt), <- hx]; rfl
    obtain ⟨q1, q1', q2, q3, q4, q5⟩ := decN_high hne (by rw [hg]; omega)
    have hED := fun h => enc_dec hne (by rw [hg]; omega) h
    have CD := hid (decodeRune_any _ _ _ _ wr hRd (by omega) HTr.out)
    have hsl := fun W => slice_from (w := W) (ao := some ⟨b, o, none⟩) (n := n) (cap := cap) (k := k) (Nat.le_of_lt hlt)
    have hsl2 := fun W => sliceAt_from (w := W) (ao := some ⟨b, o, none⟩) (n := n) (cap := cap) (k := k) (Nat.le_of_lt hlt)
    obtain ⟨ax, hax⟩ : ∃ a, a = adv (some ⟨b, o, none⟩) cap k := ⟨_, rfl⟩
    rw [<- hax] at CD hsl hsl2
    obtain ⟨rr, hrr⟩ : ∃ r, r = decN (l.drop k) := ⟨_, rfl⟩
    rw [<- hrr] at CD q1 q1' q2 q3 q4 q5 hED
    rw [List.length_drop, HLn.out] at q4
    have e1 : Hid (wordN l = (k + rr.2) + wordN (l.drop (k + rr.2))) := by
     unfold Hid; rw [hW.out, wordN_skip rr.2 (l.drop k) (by rw [List.length_drop, HLn.out]; exact q4) q5, List.drop_drop]; omega
    clear w1 w2 w3 hx h128 hRd hne hg hax hrr q5
    by_cases hr : rr.1 = 65533
    ·have t1 : ((rr.1 : Int) != 65533) = false := by simp; omega
     clear hED
     go_wp2_with fail
     go_at_call 100
     with_reducible refine CD.out.mono ?_
     rintro e wd ⟨rfl, bd⟩
     have HBd : Hid (Below w.heap.size w wd) := hB.out.trans (bd.mono hB.out.size)
     clear bd
     go_wp2_with fail
     go_loopg [15] S.size (fun g v15 wx => ∃ p : Nat, p <= S.size /\ g = S.size - p /\ wx = wd.iter S p)
     case atStart => exact ⟨0, Nat.zero_le _, rfl, rfl⟩
     case round =>
      obtain ⟨p, hp, rfl, rfl⟩ := hrel
      by_cases hlt2 : p < S.size
      ·have hx := hSl.out p hlt2
       have hnx := fun ty => run_next_ascii (P := Tryz.prog) wd S p ty hlt2 hx
       obtain ⟨y, hy⟩ : ∃ x, (S[p]'hlt2).toNat = x := ⟨_, rfl⟩
       rw [hy] at hnx hx
       have t5 : ((rr.1 : Int) == (y : Int)) = false := by simp; omega
       clear hy
       go_wp2_with fail
       go_roundg (S.size - (p + 1))
       case measure => omega
       case rel => exact ⟨p + 1, by omega, rfl, rfl⟩
      ·have hnx := fun ty => run_next_end (P := Tryz.prog) wd S p ty hlt2
       go_wp2_with fail
       go_roundg (n - (k + rr.2))
       case measure => omega
       case rel => exact ⟨k + rr.2, by go_num, by omega, rfl, HBd.out.trans ((Ba wd _).mono HBd.out.size), e1.out⟩
    ·have t1 : ((rr.1 : Int) != 65533) = true := by simp; omega
     obtain ⟨u1, u2, hc, tl, u3, u4⟩ := hED hr
     have t2 : ((8 : Int) == (rr.2 : Int)) = false := by simp; omega
     obtain ⟨E, hE⟩ : ∃ E, E = Utf8.encode (rr.1 : Int) := ⟨_, rfl⟩
     have HE2 : Hid (Utf8.encode (rr.1 : Int) = E) := hE.symm
     rw [<- hE] at u1 u3
     have u1' : Hid (E.size = rr.2) := u1
     have u3' := hid u3
     clear hED hE u1 u3
     go_wp2_with fail
     go_at_call 100
     with_reducible refine CD.out.mono ?_
     rintro e wd ⟨rfl, bd⟩
     have HBd : Hid (Below w.heap.size w wd) := hB.out.trans (bd.mono hB.out.size)
     obtain ⟨m, hm⟩ := (HTr.out.below bd).mx
     clear bd
     by_cases hmk : (rr.2 : Int) <= m
     ·have hx := HX.out E wd m hc tl hm (by rw [u1'.out]; exact u2) (by rw [u1'.out]; exact hmk) u3'.out u4
      have he2 := HE2.out
      go_wp2_with fail
      go_roundg (n - (k + rr.2))
      case measure => omega
      case rel => exact ⟨k + rr.2, by go_num, by omega, rfl, HBd.out, e1.out⟩
     ·have hmk2 : m < (rr.2 : Int) := by omega
      clear hr u2 u4 hmk u1' u3' HE2 hB CD
      go_wp2_with fail
      go_loopg [15] S.size (fun g v15 wx => ∃ p : Nat, p <= S.size /\ g = S.size - p /\ wx = wd.iter S p)
      case atStart => exact ⟨0, Nat.zero_le _, rfl, rfl⟩
      case round =>
       obtain ⟨p, hp, rfl, rfl⟩ := hrel
       by_cases hlt2 : p < S.size
       ·have hx := hSl.out p hlt2
        have hnx := fun ty => run_next_ascii (P := Tryz.prog) wd S p ty hlt2 hx
        obtain ⟨y, hy⟩ : ∃ x, (S[p]'hlt2).toNat = x := ⟨_, rfl⟩
        rw [hy] at hnx hx
        have t5 : ((rr.1 : Int) == (y : Int)) = false := by simp; omega
        clear hy
        go_wp2_with fail
        go_roundg (S.size - (p + 1))
        case measure => omega
        case rel => exact ⟨p + 1, by omega, rfl, rfl⟩
       ·have hnx := fun ty => run_next_end (P := Tryz.prog) wd S p ty hlt2
        go_wp2_with fail
        go_roundg (n - (k + rr.2))
        case measure => omega
        case rel => exact ⟨k + rr.2, by go_num, by omega, rfl, HBd.out.trans ((Ba wd _).mono HBd.out.size), e1.out⟩
  ·have e1 : Hid (A = -1) := HA.out.trans (w1 (by rw [HLn.out]; omega))
   have k1 : ¬ (k : Int) < (n : Int) := by omega
   clear w1 w2 w3
   go_wp2_with fail
   go_ret
   exact ⟨by rw [e1.out]; rfl, hB.out⟩
end Go.Proofs.YtbkfinjajkjhaaaGreatDoor
