import Derived.Test.YtbkfinjajkjhaaaGreatDoorW40
set_option linter.unusedVariables false
set_option linter.unusedSimpArgs false
namespace Go.Proofs.YtbkfinjajkjhaaaGreatDoor
open Go.RowKit
structure Mul1 (r q : List Nat) (rx d kk cc : Nat) : Prop where
 len : q.length = kk
 most : kk <= r.length + 1
 dg : Dg 256 q
 small : cc <= 36
 val_ : val 256 q + 256 ^ kk * cc = val 256 (r.take kk) * rx + d
 end_ : kk = r.length + 1 -> cc = 0 /\ Tr q
theorem Mul1.start (r : List Nat) {rx d : Nat} (hd : d <= 36) : Mul1 r [] rx d 0 d := ⟨rfl, by omega, Dg.nil _, hd, by simp [val], fun h => by omega⟩
theorem Mul1.step {r q : List Nat} {rx d kk cc x : Nat} (h : Mul1 r q rx d kk cc) (hk : kk < r.length) (hx : x = r.getD kk 0) (hxb : x < 256) (hr : rx <= 36) : Mul1 r (q ++ [(x * rx + cc) % 256]) rx d (kk + 1) ((x * rx + cc) / 256) := by
 have hxr : x * rx <= 255 * 36 := Nat.mul_le_mul (by omega) hr
 have hs := h.small
 refine ⟨by simp [h.len], by omega, h.dg.append (Dg.one (Nat.mod_lt _ (by decide))), by omega, ?_, fun e => by omega⟩
 rw [val_snoc, h.len, val_take_succ 256 r kk hk, <- hx, Nat.pow_succ]
 exact mulStep h.val_
theorem Mul1.more {r q : List Nat} {rx d kk cc : Nat} (h : Mul1 r q rx d kk cc) (hk : kk = r.length) (hc : cc ≠ 0) : Mul1 r (q ++ [cc]) rx d (kk + 1) 0 := by
 have hs := h.small
 refine ⟨by simp [h.len], by omega, h.dg.append (Dg.one (by omega)), by omega, ?_, fun _ => ⟨rfl, tr_snoc hc⟩⟩
 have := h.val_
 rw [val_snoc, h.len, List.take_of_length_le (by omega)]
 rw [List.take_of_length_le (by omega)] at this
 simpa using this
theorem Mul1.done {r q : List Nat} {rx d kk : Nat} (h : Mul1 r q rx d kk 0) (hk : r.length <= kk) (tr : Tr r) (hr : 1 <= rx) : val 256 q = val 256 r * rx + d /\ Tr q /\ q.length <= r.length + 1 /\ q ++ r.drop kk = q := by
 have hv := h.val_
 rw [List.take_of_length_le hk] at hv
 simp at hv
 refine ⟨hv, ?_, by rw [h.len]; exact h.most, by rw [List.drop_of_length_le hk, List.append_nil]⟩
 by_cases e : kk = r.length + 1
 ·exact (h.end_ e).2
 ·have : kk = r.length := by have := h.most; omega
  refine tr_of_ge (B := 256) (by decide) (by rw [h.len, this]) tr h.dg ?_
  have h2 : val 256 r * 1 <= val 256 r * rx := Nat.mul_le_mul_left _ hr
  omega
theorem Ans.form0 {w : World} {x : Value} {en : Int} {neg : Bool} {v : Nat} (h : Ans w x en neg v) : ∃ s ao n cap l, x = .agg #[.bool s, .slice ao n cap] /\ Row .u32 B32 w ao n cap l /\ (∀ w', Row .u32 B32 w' ao n cap l -> Ans w' x en neg v) := by
 rcases h with ⟨h1, h2, l, ⟨ao, n, cap, rfl, R⟩, h4, h5⟩ | ⟨h1, h2, rfl⟩
 ·exact ⟨_, ao, n, cap, l, rfl, R, fun w' R' => .inl ⟨h1, h2, l, ⟨ao, n, cap, rfl, R'⟩, h4, h5⟩⟩
 ·exact ⟨false, none, 0, 0, [], rfl, Row.nil _ _ _ _, fun w' _ => .inr ⟨h1, h2, rfl⟩⟩
theorem getD_mid {q t : List Nat} {x kk : Nat} (h : q.length = kk) : (q ++ x :: t).getD kk 0 = x := by
 subst h; simp
theorem pow_160 : (256 : Nat) ^ 160 = B32 ^ 40 := by
 rw [show (160 : Nat) = 4 * 40 from rfl, Nat.pow_mul]; rfl
theorem big_len {r : List Nat} (h : r.length = 161) (tr : Tr r) : Big (val 256 r) := by
 unfold Big
 rw [<- pow_160]
 have := tr.pos (B := 256) (by decide) (by intro e; rw [e] at h; simp at h)
 rw [h] at this
 exact this
set_option maxRecDepth 100000 in
set_option maxHeartbeats 4000000 in
theorem rparse_any (s : ByteArray) (radix : Int) (w : World) (hs : s.size <= 5000) :
  Calls Tryz.prog 70 #[.string s, .int .i64 radix] w (ParsePost w (bs s) radix) := by
 by_cases hlo : radix < 2
 ·have e1 : decide (radix < 2) = true := by simp [hlo]
  have HN : Hid (¬ (2 <= radix /\ radix <= 36)) := fun h => by omega
  go_enter Tryz.func70, Tryz.ntmps70
  go_wp2
  exact bodyPost_ret (v := .tuple #[.agg #[.bool false, .slice none 0 0], .int .i64 1]) (by simp [results, Tryz.results70, go_sem]) rfl ⟨_, _, rfl, Ba _ _, .inl ⟨HN.out, rfl, rfl⟩⟩
 by_cases hhi : 36 < radix
 ·have e1 : decide (radix < 2) = false := by simp; omega
  have e2 : decide (36 < radix) = true := by simp [hhi]
  have HN : Hid (¬ (2 <= radix /\ radix <= 36)) := fun h => by omega
  go_enter Tryz.func70, Tryz.ntmps70
  go_wp2
  exact bodyPost_ret (v := .tuple #[.agg #[.bool false, .slice none 0 0], .int .i64 1]) (by simp [results, Tryz.results70, go_sem]) rfl ⟨_, _, rfl, Ba _ _, .inl ⟨HN.out, rfl, rfl⟩⟩
 have hr1 : 2 <= radix := by omega
 have hr2 : radix <= 36 := by omega
 obtain ⟨rx, rfl⟩ := Int.eq_ofNat_of_zero_le (by omega : 0 <= radix)
 clear hlo hhi
 have X0 := Box.new 55 w false none 0 0
 by_cases h0 : s.size = 0
 ·have hnil : bs s = [] := List.length_eq_zero_iff.1 (by rw [bs_length]; exact h0)
  have HF : Hid (digitsB (rx : Int) (cutS (bs s)).2 = false) := by unfold Hid; rw [hnil]; exact digitsB_nil
  clear hnil X0
  go_enter Tryz.func70, Tryz.ntmps70
  go_wp2
  exact bodyPost_ret (v := .tuple #[.agg #[.bool false, .slice none 0 0], .int .i64 12]) (by simp [results, Tryz.results70, go_sem]) rfl ⟨_, _, rfl, Ba _ _, .inr (.inl ⟨⟨hr1, hr2⟩, HF.out, rfl, rfl⟩)⟩
 have hp : 0 < s.size := by omega
 have hc0 := bs_get s 0 hp
 obtain ⟨c, r, hcr⟩ : ∃ c r, bs s = c :: r := by
  cases h : bs s with
  | nil => rw [<- bs_length, h] at hp; simp at hp
  | cons c r => exact ⟨c, r, rfl⟩
 have hcc : c = (s[0]'hp).toNat := by rw [<- hc0, hcr]; rfl
 clear hc0
 have e0 : decide ((0 : Int) < s.size) = true := by simp; omega
 have HSZ0 : (w.alloc (.cells #[.bool false, .slice none 0 0] 55)).heap.size = w.heap.size + 1 := size_alloc _ _
 have HB0 := hid (Ba w (.cells #[.bool false, .slice none 0 0] 55))
 have E0 : ∀ v : Nat, v ≠ c -> (((s[0]'hp).toNat : Int) == v) = false := fun v hv => by rw [<- hcc]; simp; omega
 have E1 : ∀ v : Nat, v = c -> (((s[0]'hp).toNat : Int) == v) = true := fun v hv => by rw [<- hcc, hv]; simp
 by_cases hsg : c = 43 \/ c = 45
 ·have HCS0 : cutS (bs s) = (decide (c = 45), (bs s).drop 1) := by rw [cutS_sign hcr hsg, hcr]; rfl
  by_cases h1 : s.size = 1
  ·have HF : Hid (digitsB (rx : Int) (cutS (bs s)).2 = false) := by
    unfold Hid; rw [HCS0]
    have : (bs s).drop 1 = [] := List.drop_of_length_le (by rw [bs_length, h1]; exact Nat.le_refl _)
    rw [this]; exact digitsB_nil
   have e9 : ((1 : Int) == s.size) = true := by rw [h1]; rfl
   clear X0 HCS0 hcr
   rcases hsg with hsg | hsg
   ·have eS : (((s[0]'hp).toNat : Int) == 45) = false := E0 45 (by omega)
    have eP : (((s[0]'hp).toNat : Int) == 43) = true := E1 43 (by omega)
    clear E0 E1 hcc hsg
    go_enter Tryz.func70, Tryz.ntmps70
    go_wp2
    exact bodyPost_ret (v := .tuple #[.agg #[.bool false, .slice none 0 0], .int .i64 12]) (by simp [results, Tryz.results70, go_sem]) rfl ⟨_, _, rfl, Ba _ _, .inr (.inl ⟨⟨hr1, hr2⟩, HF.out, rfl, rfl⟩)⟩
   ·have eS : (((s[0]'hp).toNat : Int) == 45) = true := E1 45 (by omega)
    clear E0 E1 hcc hsg
    go_enter Tryz.func70, Tryz.ntmps70
    go_wp2
    exact bodyPost_ret (v := .tuple #[.agg #[.bool false, .slice none 0 0], .int .i64 12]) (by simp [results, Tryz.results70, go_sem]) rfl ⟨_, _, rfl, Ba _ _, .inr (.inl ⟨⟨hr1, hr2⟩, HF.out, rfl, rfl⟩)⟩
  have e9 : ((1 : Int) == s.size) = false := by simp; omega
  have hgt : 1 < s.size := by omega
  rcases hsg with hsg | hsg
  ·have eS : (((s[0]'hp).toNat : Int) == 45) = false := E0 45 (by omega)
   have eP : (((s[0]'hp).toNat : Int) == 43) = true := E1 43 (by omega)
   have HCS : Hid (cutS (bs s) = (false, (bs s).drop 1)) := by unfold Hid; rw [HCS0, hsg]; rfl
   clear E0 E1 hcc hsg hcr HCS0
   go_enter Tryz.func70, Tryz.ntmps70
   go_wp2
   have X := hid X0
   clear X0
   generalize w.alloc (.cells #[.bool false, .slice none 0 0] 55) = W0 at *
   go_loop [7, 8] (fun i _ => ∃ k : Nat, 1 <= k /\ k <= s.size /\ i = .int .i64 k /\ Hid (∀ j, 1 <= j -> j < k -> dgt ((bs s).getD j 0) < rx)) (fun i _ => s.size - (intOf i).toNat)
   case atStart => exact ⟨1, Nat.le_refl _, by omega, rfl, fun j hj hj2 => by omega⟩
   case round =>
    obtain ⟨k, hk0, hk, rfl, hI⟩ := hrel
    by_cases hlt : k < s.size
    ·have hd := bs_get s k hlt
     obtain ⟨d, hdd⟩ : ∃ d, d = dgt (s[k]'hlt).toNat := ⟨_, rfl⟩
     have hd36 : d <= 36 := by rw [hdd]; exact dgt_le _
     have HD : Hid (d = dgt ((bs s).getD k 0)) := by unfold Hid; rw [hd, hdd]
     obtain ⟨z, hz⟩ : ∃ z, z = dgi (s[k]'hlt).toNat := ⟨_, rfl⟩
     have HC : Hid (∀ wx, Calls Tryz.prog 93 #[.int .u8 ((s[k]'hlt).toNat : Nat)] wx fun e w' => e = .returned (.int .i64 z) /\ w' = wx) := fun wx => by rw [hz]; exact rdigit_any _ (s[k]'hlt).toNat_lt wx
     unfold dgi at hz
     rw [<- hdd] at hz
     clear hdd hd
     by_cases hdr : d < rx
     ·rw [if_neg (by omega)] at hz
      subst hz
      go_wp2_with (go_at_call 93; refine (HC.out _).mono ?_; rintro e w' ⟨rfl, rfl⟩)
      go_round
      case rel => exact ⟨k + 1, by omega, by omega, by go_num, by
       intro j hj0 hj
       by_cases hjk : j < k
       ·exact hI.out j hj0 hjk
       ·obtain rfl : j = k := by omega
        rw [<- HD.out]; exact hdr⟩
      case measure => simp [intOf]; omega
     ·have HF : Hid (digitsB (rx : Int) (cutS (bs s)).2 = false) := by
       unfold Hid
       rw [HCS.out]
       refine digitsB_not (j := k - 1) (by rw [List.length_drop, bs_length]; omega) ?_
       rw [getD_drop', show 1 + (k - 1) = k by omega, <- HD.out]; omega
      obtain ⟨q0, q1⟩ := X.out.c
      obtain ⟨f0, f1⟩ := X.out.f
      by_cases h36 : d = 36
      ·rw [if_pos h36] at hz
       subst hz
       go_wp2_with (go_at_call 93; refine (HC.out _).mono ?_; rintro e w' ⟨rfl, rfl⟩)
       have y := X.out.set2 false none 0 0
       obtain ⟨y0, y1⟩ := y.c
       exact bodyPost_ret (v := .tuple #[.agg #[.bool false, .slice none 0 0], .int .i64 12]) (by simp [results, Tryz.results70, go_sem, y0, y1]) rfl ⟨_, _, rfl, (HB0.out.setCell (Nat.le_refl _) _).setCell (Nat.le_refl _) _, .inr (.inl ⟨⟨hr1, hr2⟩, HF.out, rfl, rfl⟩)⟩
      ·rw [if_neg h36] at hz
       subst hz
       go_wp2_with (go_at_call 93; refine (HC.out _).mono ?_; rintro e w' ⟨rfl, rfl⟩)
       have y := X.out.set2 false none 0 0
       obtain ⟨y0, y1⟩ := y.c
       exact bodyPost_ret (v := .tuple #[.agg #[.bool false, .slice none 0 0], .int .i64 12]) (by simp [results, Tryz.results70, go_sem, y0, y1]) rfl ⟨_, _, rfl, (HB0.out.setCell (Nat.le_refl _) _).setCell (Nat.le_refl _) _, .inr (.inl ⟨⟨hr1, hr2⟩, HF.out, rfl, rfl⟩)⟩
    ·obtain rfl : k = s.size := by omega
     have HAll := hid hI.out
     clear hI hlt
     have HTD : Hid (digitsB (rx : Int) (cutS (bs s)).2 = true) := by
      unfold Hid
      rw [HCS.out]
      refine digitsB_of (by rw [List.length_drop, bs_length]; omega) (fun j hj => ?_)
      rw [List.length_drop, bs_length] at hj
      rw [getD_drop']
      exact HAll.out _ (by omega) (by omega)
     have HSZ : Hid (W0.heap.size = w.heap.size + 1) := HSZ0
     go_wp2
     go_loopw [9, 10, 11, 12] (fun v i _ _ wr => ∃ k n : Nat, ∃ r : List Nat, 1 <= k /\ k <= s.size /\ i = .int .i64 k /\ n <= 160 /\ Hid (wr.ownsRow (w.heap.size + 1) 5 1 v n (cs .u8 r) /\ Dg 256 r /\ Tr r /\ val 256 r = hv rx (((bs s).drop 1).take (k - 1)) /\ Below (w.heap.size + 1) W0 wr)) (fun _ i _ _ _ => s.size - (intOf i).toNat)
     case atStart => exact ⟨1, 0, [], Nat.le_refl _, by omega, rfl, by omega, World.ownsRow_nil _ _ _ _, Dg.nil _, Tr.nil, by simp [hv, val], Below.refl _ _⟩
     case round =>
      obtain ⟨k, n, r, hk0, hk, rfl, hn, hI⟩ := hrel
      have hlr : r.length = n := by have := hI.out.1.1; rw [cs_length] at this; omega
      have HLR := hid hlr
      clear hlr
      by_cases hlt : k < s.size
      ·have hgk := bs_get s k hlt
       obtain ⟨d, hdd⟩ : ∃ d, d = dgt (s[k]'hlt).toNat := ⟨_, rfl⟩
       have hdr : d < rx := by rw [hdd, <- hgk]; exact HAll.out k hk0 hlt
       have HC : Hid (∀ wx, Calls Tryz.prog 93 #[.int .u8 ((s[k]'hlt).toNat : Nat)] wx fun e w' => e = .returned (.int .i64 d) /\ w' = wx) := fun wx => (rdigit_any _ (s[k]'hlt).toNat_lt wx).mono fun e w' ⟨h1, h2⟩ => ⟨by rw [h1]; unfold dgi; rw [<- hdd, if_neg (by omega)], h2⟩
       have HV : Hid (hv rx (((bs s).drop 1).take (k + 1 - 1)) = val 256 r * rx + d) := by
        unfold Hid
        rw [show k + 1 - 1 = (k - 1) + 1 by omega, hv_take_succ rx _ (k - 1) (by rw [List.length_drop, bs_length]; omega), getD_drop', show 1 + (k - 1) = k by omega, hgk, <- hdd, hI.out.2.2.2.1]
       clear hdd hgk
       have HTr := hid hI.out.2.2.1
       have HDr := hid hI.out.2.1
       have HOw := hid hI.out.1
       have HBl := hid hI.out.2.2.2.2
       clear hI
       go_wp2_with (go_at_call 93; refine (HC.out _).mono ?_; rintro e wx ⟨rfl, hwx⟩; rw [hwx]; clear hwx)
       go_loopw [9, 11, 12] (fun v c kv wr => ∃ kk cc m : Nat, ∃ q : List Nat, kv = .int .i64 kk /\ c = .int .i64 cc /\ cc <= 36 /\ kk <= n + 1 /\ (kk <= n -> m = n) /\ (n < kk -> m = n + 1) /\ Hid (wr.ownsRow (w.heap.size + 1) 5 1 v m (cs .u8 (q ++ r.drop kk)) /\ Mul1 r q rx d kk cc /\ Below (w.heap.size + 1) W0 wr)) (fun _ _ kv _ => n + 1 - (intOf kv).toNat)
       case atStart => exact ⟨0, d, n, [], rfl, rfl, by omega, by omega, fun _ => rfl, fun h => by omega, by simpa using HOw.out, Mul1.start r (by omega), HBl.out⟩
       case round =>
        obtain ⟨kk, cc, m, q, rfl, rfl, hcc, hkk, hm1, hm2, hJ⟩ := hrel
        have hsz : Hid (w.heap.size + 1 <= wr.heap.size) := by have := hJ.out.2.2.size; unfold Hid; rw [HSZ.out] at this; exact this
        by_cases hkn : kk < n
        ·obtain rfl : m = n := hm1 (by omega)
         clear hm1 hm2
         have ek : decide ((kk : Int) < m) = true := by simp; omega
         obtain ⟨g, cap, cur, hu, hg, hnc, hcm, hcs, hW⟩ := owns_win hJ.out.1 (by omega)
         subst hu
         obtain ⟨x, hx⟩ : ∃ x, x = r.getD kk 0 := ⟨_, rfl⟩
         have hxb : x < 256 := by rw [hx]; exact HDr.out.getD _ (by rw [HLR.out]; exact hkn)
         have hcx : wr.cell? ⟨g, kk, none⟩ = some (.int .u8 x) := by
          have h1 := hW.cell (i := kk) hkn
          have h2 : (q ++ r.drop kk).getD kk 0 = x := by
           rw [hx, drop_cons r kk (by rw [HLR.out]; exact hkn)]
           exact getD_mid hJ.out.2.1.len
          rw [h2, Nat.zero_add] at h1
          exact h1
         have hfz : wr.frozen? ⟨g, kk, none⟩ = false := hW.frozen _
         have hxr : x * rx <= 255 * 36 := Nat.mul_le_mul (show x <= 255 by omega) (show rx <= 36 by omega)
         obtain ⟨t, ht⟩ : ∃ t, t = x * rx + cc := ⟨_, rfl⟩
         have hand : bits .and .i64 ((cc : Int) + x * rx) 255 = ((t % 256 : Nat) : Int) := by
          rw [show ((cc : Int) + x * rx) = ((t : Nat) : Int) by rw [ht]; simp; omega]
          exact and_255n t (by omega)
         obtain ⟨rr, hrr⟩ : ∃ rr, rr = t % 256 := ⟨_, rfl⟩
         have hrb : rr < 256 := by rw [hrr]; exact Nat.mod_lt _ (by decide)
         rw [<- hrr] at hand
         have HRR := hid hrr
         clear hrr
         have hcap2 : cap <= 9223372036854775807 := by unfold maxLen at hcm; omega
         have HT := hid ht
         have HX := hid hx
         have HG := hid (And.intro hg (And.intro hnc (And.intro hcm hcs)))
         have HW := hid hW
         clear hx ht hg hcm hcs hW
         go_wp2
         have hO := HW.out.onto.store (i := kk) hkn rr
         rw [Nat.zero_add, set_append_drop hJ.out.2.1.len (by rw [HLR.out]; exact hkn)] at hO
         have e1 : ((cc : Int) + x * rx) / 256 = ((t / 256 : Nat) : Int) := by rw [HT.out]; simp; omega
         rw [e1]
         have hst := hJ.out.2.1.step (by rw [HLR.out]; exact hkn) HX.out hxb (by omega)
         rw [<- HT.out, <- HRR.out] at hst
         exact ⟨⟨kk + 1, t / 256, m, q ++ [rr], by go_num, rfl, hst.small, by omega, fun _ => rfl, fun h => by omega, owns_onto HG.out.1 HG.out.2.1 HG.out.2.2.1 HG.out.2.2.2 hO, hst, hJ.out.2.2.trans (hO.below HG.out.1)⟩, by simp [intOf] <;> omega⟩
        ·have ek : decide ((kk : Int) < n) = false := by simp; omega
         have hdn : r.drop kk = [] := List.drop_of_length_le (by rw [HLR.out]; omega)
         have hown0 := hJ.out.1
         rw [hdn, List.append_nil] at hown0
         have HOW := hid hown0
         clear hown0
         have HMu := hid hJ.out.2.1
         have HBJ := hid hJ.out.2.2
         obtain ⟨ao, cap, hu, hO⟩ := own_of HOW.out HMu.out.dg
         subst hu
         have HO := hid hO
         have hmx := hO.row.most
         unfold maxLen at hmx
         clear hJ hdn hO
         by_cases hc0 : cc = 0
         ·subst hc0
          have em : ((kk : Int) < m) \/ kk = m := by omega
          have hmk : m = kk := by
           by_cases h : kk <= n
           ·have := hm1 h; omega
           ·have := hm2 (by omega); omega
          subst hmk
          clear hm1 hm2 em
          have em : decide ((m : Int) < m) = false := by simp
          have HDn := hid (HMu.out.done (by rw [HLR.out]; omega) HTr.out (by omega))
          by_cases hbig : 160 < m
          ·have eb : decide ((160 : Int) < m) = true := by simp; omega
           have HBG : Hid (Big (hv rx (cutS (bs s)).2)) := by
            have hm161 : m = 161 := by omega
            have h1 : Big (hv rx (((bs s).drop 1).take (k + 1 - 1))) := by rw [HV.out, <- HDn.out.1]; exact big_len (by rw [HMu.out.len, hm161]) HDn.out.2.1
            have hl : ((bs s).drop 1).length = s.size - 1 := by rw [List.length_drop, bs_length]
            have h2 := hv_mono rx (by omega) ((bs s).drop 1) (k + 1 - 1) (s.size - (k + 1)) (by rw [hl]; omega)
            rw [show k + 1 - 1 + (s.size - (k + 1)) = s.size - 1 by omega, List.take_of_length_le (l := (bs s).drop 1) (i := s.size - 1) (by rw [hl]; exact Nat.le_refl _)] at h2
            unfold Hid
            rw [HCS.out]
            unfold Big at *
            exact Nat.le_trans h1 h2
           have Z := X.out.below HBJ.out (Nat.lt_succ_self _)
           obtain ⟨q0, q1⟩ := Z.c
           obtain ⟨f0, f1⟩ := Z.f
           have HZ := hid Z
           have HBr := hid (HB0.out.trans (HBJ.out.mono (Nat.le_succ _)))
           clear Z
           go_wp2
           have y := HZ.out.set2 false none 0 0
           obtain ⟨y0, y1⟩ := y.c
           exact bodyPost_ret (v := .tuple #[.agg #[.bool false, .slice none 0 0], .int .i64 10]) (by simp [results, Tryz.results70, go_sem, y0, y1]) rfl ⟨_, _, rfl, (HBr.out.setCell (Nat.le_refl _) _).setCell (Nat.le_refl _) _, .inr (.inr ⟨⟨hr1, hr2⟩, HTD.out, .inr ⟨HBG.out, rfl, rfl⟩⟩)⟩
          ·have eb : decide ((160 : Int) < m) = false := by simp; omega
           go_wp2
           exact ⟨⟨k + 1, m, q, by omega, by omega, by go_num, by omega, HOW.out, HMu.out.dg, HDn.out.2.1, by rw [HV.out]; exact HDn.out.1, HBJ.out⟩, by simp [intOf] <;> omega⟩
         ·have hkn2 : kk = n := by
           have h1 := HMu.out.most
           have h2 := HMu.out.end_
           rw [HLR.out] at h1 h2
           by_cases h : kk = n + 1
           ·exact absurd (h2 h).1 hc0
           ·omega
          have hmn : m = n := hm1 (by omega)
          subst hkn2
          subst hmn
          clear hm1 hm2
          have ec : decide ((0 : Int) < cc) = true := by simp; omega
          have hand : bits .and .i64 (cc : Int) 255 = ((cc : Nat) : Int) := by
           rw [and_255n cc (by omega)]; omega
          have em : decide ((m : Int) < m) = false := by simp
          go_wp2_with (at_builtin; refine app1 rfl _ _ 22 rfl (w.heap.size + 1) 5 .u8 1 (by decide) Tryz.underlying22 info_u8 _ _ _ rfl (HOW.out.alloc _) ⟨wr.heap.size, 0, none⟩ 1 cc rfl ?c3 (by omega) (by have := hsz.out; simp; omega) ?_; rotate_right; intro g cap' w1 hown hbel)
          case c3 => rw [cell_new]
          have hst := HMu.out.more HLR.out.symm hc0
          refine ⟨⟨m + 1, 0, m + 1, q ++ [cc], by go_num, ?_, by omega, by omega, fun h => by omega, fun _ => rfl, ?_, hst, ?_⟩, by simp [intOf] <;> omega⟩
          ·exact congrArg (Value.int .i64) (by omega)
          ·rw [List.drop_of_length_le (by rw [HLR.out]; omega), List.append_nil]; exact hown
          ·exact (HBJ.out.alloc hsz.out _).trans hbel
      ·obtain rfl : k = s.size := by omega
       obtain ⟨ao, cap, hu, hO⟩ := own_of hI.out.1 hI.out.2.1
       subst hu
       have HO := hid hO
       have HBJ := hid hI.out.2.2.2.2
       have HVV : Hid (val 256 r = hv rx (cutS (bs s)).2) := by
        unfold Hid
        rw [hI.out.2.2.2.1, HCS.out, List.take_of_length_le (by rw [List.length_drop, bs_length]; exact Nat.le_refl _)]
       have HZ := hid (X.out.below HBJ.out (Nat.lt_succ_self _))
       have HBr := hid (HB0.out.trans (HBJ.out.mono (Nat.le_succ _)))
       clear hO hI
       go_wp2_with fail
       refine (rwhole_any false ao n cap r wr HO.out.row (by omega)).mono ?_
       rintro e w5 ⟨x, en, rfl, hA, b5⟩
       obtain ⟨sx, ax, nx, cx, lx, rfl, Rxx, hAx⟩ := hA.form0
       have Z5 := hid (HZ.out.on b5)
       obtain ⟨z30, z31⟩ := Z5.out.c
       obtain ⟨f30, f31⟩ := Z5.out.f
       have HB5 := hid (Bt HBr.out b5)
       have HAx := hid hAx
       have HRxx := hid Rxx
       clear hA hAx Rxx b5
       go_wp2
       have z := Z5.out.set2 sx ax nx cx
       obtain ⟨y0, y1⟩ := z.c
       have rx2 := HAx.out _ (HRxx.out.setBox2 Z5.out sx (.slice ax nx cx))
       rw [HVV.out] at rx2
       refine bodyPost_ret (v := .tuple #[.agg #[.bool sx, .slice ax nx cx], .int .i64 en]) (by simp [results, Tryz.results70, go_sem, y0, y1]) rfl ⟨_, _, rfl, (HB5.out.setCell (p := ⟨w.heap.size, 0, none⟩) (by simp) _).setCell (p := ⟨w.heap.size, 1, none⟩) (by simp) _, .inr (.inr ⟨⟨hr1, hr2⟩, HTD.out, ?_⟩)⟩
       rw [HCS.out] at rx2 ⊢
       exact rx2
  ·have eS : (((s[0]'hp).toNat : Int) == 45) = true := E1 45 (by omega)
   have HCS : Hid (cutS (bs s) = (true, (bs s).drop 1)) := by unfold Hid; rw [HCS0, hsg]; rfl
   clear E0 E1 hcc hsg hcr HCS0
   go_enter Tryz.func70, Tryz.ntmps70
   go_wp2
   have X := hid X0
   clear X0
   generalize w.alloc (.cells #[.bool false, .slice none 0 0] 55) = W0 at *
   go_loop [7, 8] (fun i _ => ∃ k : Nat, 1 <= k /\ k <= s.size /\ i = .int .i64 k /\ Hid (∀ j, 1 <= j -> j < k -> dgt ((bs s).getD j 0) < rx)) (fun i _ => s.size - (intOf i).toNat)
   case atStart => exact ⟨1, Nat.le_refl _, by omega, rfl, fun j hj hj2 => by omega⟩
   case round =>
    obtain ⟨k, hk0, hk, rfl, hI⟩ := hrel
    by_cases hlt : k < s.size
    ·have hd := bs_get s k hlt
     obtain ⟨d, hdd⟩ : ∃ d, d = dgt (s[k]'hlt).toNat := ⟨_, rfl⟩
     have hd36 : d <= 36 := by rw [hdd]; exact dgt_le _
     have HD : Hid (d = dgt ((bs s).getD k 0)) := by unfold Hid; rw [hd, hdd]
     obtain ⟨z, hz⟩ : ∃ z, z = dgi (s[k]'hlt).toNat := ⟨_, rfl⟩
     have HC : Hid (∀ wx, Calls Tryz.prog 93 #[.int .u8 ((s[k]'hlt).toNat : Nat)] wx fun e w' => e = .returned (.int .i64 z) /\ w' = wx) := fun wx => by rw [hz]; exact rdigit_any _ (s[k]'hlt).toNat_lt wx
     unfold dgi at hz
     rw [<- hdd] at hz
     clear hdd hd
     by_cases hdr : d < rx
     ·rw [if_neg (by omega)] at hz
      subst hz
      go_wp2_with (go_at_call 93; refine (HC.out _).mono ?_; rintro e w' ⟨rfl, rfl⟩)
      go_round
      case rel => exact ⟨k + 1, by omega, by omega, by go_num, by
       intro j hj0 hj
       by_cases hjk : j < k
       ·exact hI.out j hj0 hjk
       ·obtain rfl : j = k := by omega
        rw [<- HD.out]; exact hdr⟩
      case measure => simp [intOf]; omega
     ·have HF : Hid (digitsB (rx : Int) (cutS (bs s)).2 = false) := by
       unfold Hid
       rw [HCS.out]
       refine digitsB_not (j := k - 1) (by rw [List.length_drop, bs_length]; omega) ?_
       rw [getD_drop', show 1 + (k - 1) = k by omega, <- HD.out]; omega
      obtain ⟨q0, q1⟩ := X.out.c
      obtain ⟨f0, f1⟩ := X.out.f
      by_cases h36 : d = 36
      ·rw [if_pos h36] at hz
       subst hz
       go_wp2_with (go_at_call 93; refine (HC.out _).mono ?_; rintro e w' ⟨rfl, rfl⟩)
       have y := X.out.set2 false none 0 0
       obtain ⟨y0, y1⟩ := y.c
       exact bodyPost_ret (v := .tuple #[.agg #[.bool false, .slice none 0 0], .int .i64 12]) (by simp [results, Tryz.results70, go_sem, y0, y1]) rfl ⟨_, _, rfl, (HB0.out.setCell (Nat.le_refl _) _).setCell (Nat.le_refl _) _, .inr (.inl ⟨⟨hr1, hr2⟩, HF.out, rfl, rfl⟩)⟩
      ·rw [if_neg h36] at hz
       subst hz
       go_wp2_with (go_at_call 93; refine (HC.out _).mono ?_; rintro e w' ⟨rfl, rfl⟩)
       have y := X.out.set2 false none 0 0
       obtain ⟨y0, y1⟩ := y.c
       exact bodyPost_ret (v := .tuple #[.agg #[.bool false, .slice none 0 0], .int .i64 12]) (by simp [results, Tryz.results70, go_sem, y0, y1]) rfl ⟨_, _, rfl, (HB0.out.setCell (Nat.le_refl _) _).setCell (Nat.le_refl _) _, .inr (.inl ⟨⟨hr1, hr2⟩, HF.out, rfl, rfl⟩)⟩
    ·obtain rfl : k = s.size := by omega
     have HAll := hid hI.out
     clear hI hlt
     have HTD : Hid (digitsB (rx : Int) (cutS (bs s)).2 = true) := by
      unfold Hid
      rw [HCS.out]
      refine digitsB_of (by rw [List.length_drop, bs_length]; omega) (fun j hj => ?_)
      rw [List.length_drop, bs_length] at hj
      rw [getD_drop']
      exact HAll.out _ (by omega) (by omega)
     have HSZ : Hid (W0.heap.size = w.heap.size + 1) := HSZ0
     go_wp2
     go_loopw [9, 10, 11, 12] (fun v i _ _ wr => ∃ k n : Nat, ∃ r : List Nat, 1 <= k /\ k <= s.size /\ i = .int .i64 k /\ n <= 160 /\ Hid (wr.ownsRow (w.heap.size + 1) 5 1 v n (cs .u8 r) /\ Dg 256 r /\ Tr r /\ val 256 r = hv rx (((bs s).drop 1).take (k - 1)) /\ Below (w.heap.size + 1) W0 wr)) (fun _ i _ _ _ => s.size - (intOf i).toNat)
     case atStart => exact ⟨1, 0, [], Nat.le_refl _, by omega, rfl, by omega, World.ownsRow_nil _ _ _ _, Dg.nil _, Tr.nil, by simp [hv, val], Below.refl _ _⟩
     case round =>
      obtain ⟨k, n, r, hk0, hk, rfl, hn, hI⟩ := hrel
      have hlr : r.length = n := by have := hI.out.1.1; rw [cs_length] at this; omega
      have HLR := hid hlr
      clear hlr
      by_cases hlt : k < s.size
      ·have hgk := bs_get s k hlt
       obtain ⟨d, hdd⟩ : ∃ d, d = dgt (s[k]'hlt).toNat := ⟨_, rfl⟩
       have hdr : d < rx := by rw [hdd, <- hgk]; exact HAll.out k hk0 hlt
       have HC : Hid (∀ wx, Calls Tryz.prog 93 #[.int .u8 ((s[k]'hlt).toNat : Nat)] wx fun e w' => e = .returned (.int .i64 d) /\ w' = wx) := fun wx => (rdigit_any _ (s[k]'hlt).toNat_lt wx).mono fun e w' ⟨h1, h2⟩ => ⟨by rw [h1]; unfold dgi; rw [<- hdd, if_neg (by omega)], h2⟩
       have HV : Hid (hv rx (((bs s).drop 1).take (k + 1 - 1)) = val 256 r * rx + d) := by
        unfold Hid
        rw [show k + 1 - 1 = (k - 1) + 1 by omega, hv_take_succ rx _ (k - 1) (by rw [List.length_drop, bs_length]; omega), getD_drop', show 1 + (k - 1) = k by omega, hgk, <- hdd, hI.out.2.2.2.1]
       clear hdd hgk
       have HTr := hid hI.out.2.2.1
       have HDr := hid hI.out.2.1
       have HOw := hid hI.out.1
       have HBl := hid hI.out.2.2.2.2
       clear hI
       go_wp2_with (go_at_call 93; refine (HC.out _).mono ?_; rintro e wx ⟨rfl, hwx⟩; rw [hwx]; clear hwx)
       go_loopw [9, 11, 12] (fun v c kv wr => ∃ kk cc m : Nat, ∃ q : List Nat, kv = .int .i64 kk /\ c = .int .i64 cc /\ cc <= 36 /\ kk <= n + 1 /\ (kk <= n -> m = n) /\ (n < kk -> m = n + 1) /\ Hid (wr.ownsRow (w.heap.size + 1) 5 1 v m (cs .u8 (q ++ r.drop kk)) /\ Mul1 r q rx d kk cc /\ Below (w.heap.size + 1) W0 wr)) (fun _ _ kv _ => n + 1 - (intOf kv).toNat)
       case atStart => exact ⟨0, d, n, [], rfl, rfl, by omega, by omega, fun _ => rfl, fun h => by omega, by simpa using HOw.out, Mul1.start r (by omega), HBl.out⟩
       case round =>
        obtain ⟨kk, cc, m, q, rfl, rfl, hcc, hkk, hm1, hm2, hJ⟩ := hrel
        have hsz : Hid (w.heap.size + 1 <= wr.heap.size) := by have := hJ.out.2.2.size; unfold Hid; rw [HSZ.out] at this; exact this
        by_cases hkn : kk < n
        ·obtain rfl : m = n := hm1 (by omega)
         clear hm1 hm2
         have ek : decide ((kk : Int) < m) = true := by simp; omega
         obtain ⟨g, cap, cur, hu, hg, hnc, hcm, hcs, hW⟩ := owns_win hJ.out.1 (by omega)
         subst hu
         obtain ⟨x, hx⟩ : ∃ x, x = r.getD kk 0 := ⟨_, rfl⟩
         have hxb : x < 256 := by rw [hx]; exact HDr.out.getD _ (by rw [HLR.out]; exact hkn)
         have hcx : wr.cell? ⟨g, kk, none⟩ = some (.int .u8 x) := by
          have h1 := hW.cell (i := kk) hkn
          have h2 : (q ++ r.drop kk).getD kk 0 = x := by
           rw [hx, drop_cons r kk (by rw [HLR.out]; exact hkn)]
           exact getD_mid hJ.out.2.1.len
          rw [h2, Nat.zero_add] at h1
          exact h1
         have hfz : wr.frozen? ⟨g, kk, none⟩ = false := hW.frozen _
         have hxr : x * rx <= 255 * 36 := Nat.mul_le_mul (show x <= 255 by omega) (show rx <= 36 by omega)
         obtain ⟨t, ht⟩ : ∃ t, t = x * rx + cc := ⟨_, rfl⟩
         have hand : bits .and .i64 ((cc : Int) + x * rx) 255 = ((t % 256 : Nat) : Int) := by
          rw [show ((cc : Int) + x * rx) = ((t : Nat) : Int) by rw [ht]; simp; omega]
          exact and_255n t (by omega)
         obtain ⟨rr, hrr⟩ : ∃ rr, rr = t % 256 := ⟨_, rfl⟩
         have hrb : rr < 256 := by rw [hrr]; exact Nat.mod_lt _ (by decide)
         rw [<- hrr] at hand
         have HRR := hid hrr
         clear hrr
         have hcap2 : cap <= 9223372036854775807 := by unfold maxLen at hcm; omega
         have HT := hid ht
         have HX := hid hx
         have HG := hid (And.intro hg (And.intro hnc (And.intro hcm hcs)))
         have HW := hid hW
         clear hx ht hg hcm hcs hW
         go_wp2
         have hO := HW.out.onto.store (i := kk) hkn rr
         rw [Nat.zero_add, set_append_drop hJ.out.2.1.len (by rw [HLR.out]; exact hkn)] at hO
         have e1 : ((cc : Int) + x * rx) / 256 = ((t / 256 : Nat) : Int) := by rw [HT.out]; simp; omega
         rw [e1]
         have hst := hJ.out.2.1.step (by rw [HLR.out]; exact hkn) HX.out hxb (by omega)
         rw [<- HT.out, <- HRR.out] at hst
         exact ⟨⟨kk + 1, t / 256, m, q ++ [rr], by go_num, rfl, hst.small, by omega, fun _ => rfl, fun h => by omega, owns_onto HG.out.1 HG.out.2.1 HG.out.2.2.1 HG.out.2.2.2 hO, hst, hJ.out.2.2.trans (hO.below HG.out.1)⟩, by simp [intOf] <;> omega⟩
        ·have ek : decide ((kk : Int) < n) = false := by simp; omega
         have hdn : r.drop kk = [] := List.drop_of_length_le (by rw [HLR.out]; omega)
         have hown0 := hJ.out.1
         rw [hdn, List.append_nil] at hown0
         have HOW := hid hown0
         clear hown0
         have HMu := hid hJ.out.2.1
         have HBJ := hid hJ.out.2.2
         obtain ⟨ao, cap, hu, hO⟩ := own_of HOW.out HMu.out.dg
         subst hu
         have HO := hid hO
         have hmx := hO.row.most
         unfold maxLen at hmx
         clear hJ hdn hO
         by_cases hc0 : cc = 0
         ·subst hc0
          have em : ((kk : Int) < m) \/ kk = m := by omega
          have hmk : m = kk := by
           by_cases h : kk <= n
           ·have := hm1 h; omega
           ·have := hm2 (by omega); omega
          subst hmk
          clear hm1 hm2 em
          have em : decide ((m : Int) < m) = false := by simp
          have HDn := hid (HMu.out.done (by rw [HLR.out]; omega) HTr.out (by omega))
          by_cases hbig : 160 < m
          ·have eb : decide ((160 : Int) < m) = true := by simp; omega
           have HBG : Hid (Big (hv rx (cutS (bs s)).2)) := by
            have hm161 : m = 161 := by omega
            have h1 : Big (hv rx (((bs s).drop 1).take (k + 1 - 1))) := by rw [HV.out, <- HDn.out.1]; exact big_len (by rw [HMu.out.len, hm161]) HDn.out.2.1
            have hl : ((bs s).drop 1).length = s.size - 1 := by rw [List.length_drop, bs_length]
            have h2 := hv_mono rx (by omega) ((bs s).drop 1) (k + 1 - 1) (s.size - (k + 1)) (by rw [hl]; omega)
            rw [show k + 1 - 1 + (s.size - (k + 1)) = s.size - 1 by omega, List.take_of_length_le (l := (bs s).drop 1) (i := s.size - 1) (by rw [hl]; exact Nat.le_refl _)] at h2
            unfold Hid
            rw [HCS.out]
            unfold Big at *
            exact Nat.le_trans h1 h2
           have Z := X.out.below HBJ.out (Nat.lt_succ_self _)
           obtain ⟨q0, q1⟩ := Z.c
           obtain ⟨f0, f1⟩ := Z.f
           have HZ := hid Z
           have HBr := hid (HB0.out.trans (HBJ.out.mono (Nat.le_succ _)))
           clear Z
           go_wp2
           have y := HZ.out.set2 false none 0 0
           obtain ⟨y0, y1⟩ := y.c
           exact bodyPost_ret (v := .tuple #[.agg #[.bool false, .slice none 0 0], .int .i64 10]) (by simp [results, Tryz.results70, go_sem, y0, y1]) rfl ⟨_, _, rfl, (HBr.out.setCell (Nat.le_refl _) _).setCell (Nat.le_refl _) _, .inr (.inr ⟨⟨hr1, hr2⟩, HTD.out, .inr ⟨HBG.out, rfl, rfl⟩⟩)⟩
          ·have eb : decide ((160 : Int) < m) = false := by simp; omega
           go_wp2
           exact ⟨⟨k + 1, m, q, by omega, by omega, by go_num, by omega, HOW.out, HMu.out.dg, HDn.out.2.1, by rw [HV.out]; exact HDn.out.1, HBJ.out⟩, by simp [intOf] <;> omega⟩
         ·have hkn2 : kk = n := by
           have h1 := HMu.out.most
           have h2 := HMu.out.end_
           rw [HLR.out] at h1 h2
           by_cases h : kk = n + 1
           ·exact absurd (h2 h).1 hc0
           ·omega
          have hmn : m = n := hm1 (by omega)
          subst hkn2
          subst hmn
          clear hm1 hm2
          have ec : decide ((0 : Int) < cc) = true := by simp; omega
          have hand : bits .and .i64 (cc : Int) 255 = ((cc : Nat) : Int) := by
           rw [and_255n cc (by omega)]; omega
          have em : decide ((m : Int) < m) = false := by simp
          go_wp2_with (at_builtin; refine app1 rfl _ _ 22 rfl (w.heap.size + 1) 5 .u8 1 (by decide) Tryz.underlying22 info_u8 _ _ _ rfl (HOW.out.alloc _) ⟨wr.heap.size, 0, none⟩ 1 cc rfl ?c3 (by omega) (by have := hsz.out; simp; omega) ?_; rotate_right; intro g cap' w1 hown hbel)
          case c3 => rw [cell_new]
          have hst := HMu.out.more HLR.out.symm hc0
          refine ⟨⟨m + 1, 0, m + 1, q ++ [cc], by go_num, ?_, by omega, by omega, fun h => by omega, fun _ => rfl, ?_, hst, ?_⟩, by simp [intOf] <;> omega⟩
          ·exact congrArg (Value.int .i64) (by omega)
          ·rw [List.drop_of_length_le (by rw [HLR.out]; omega), List.append_nil]; exact hown
          ·exact (HBJ.out.alloc hsz.out _).trans hbel
      ·obtain rfl : k = s.size := by omega
       obtain ⟨ao, cap, hu, hO⟩ := own_of hI.out.1 hI.out.2.1
       subst hu
       have HO := hid hO
       have HBJ := hid hI.out.2.2.2.2
       have HVV : Hid (val 256 r = hv rx (cutS (bs s)).2) := by
        unfold Hid
        rw [hI.out.2.2.2.1, HCS.out, List.take_of_length_le (by rw [List.length_drop, bs_length]; exact Nat.le_refl _)]
       have HZ := hid (X.out.below HBJ.out (Nat.lt_succ_self _))
       have HBr := hid (HB0.out.trans (HBJ.out.mono (Nat.le_succ _)))
       clear hO hI
       go_wp2_with fail
       refine (rwhole_any true ao n cap r wr HO.out.row (by omega)).mono ?_
       rintro e w5 ⟨x, en, rfl, hA, b5⟩
       obtain ⟨sx, ax, nx, cx, lx, rfl, Rxx, hAx⟩ := hA.form0
       have Z5 := hid (HZ.out.on b5)
       obtain ⟨z30, z31⟩ := Z5.out.c
       obtain ⟨f30, f31⟩ := Z5.out.f
       have HB5 := hid (Bt HBr.out b5)
       have HAx := hid hAx
       have HRxx := hid Rxx
       clear hA hAx Rxx b5
       go_wp2
       have z := Z5.out.set2 sx ax nx cx
       obtain ⟨y0, y1⟩ := z.c
       have rx2 := HAx.out _ (HRxx.out.setBox2 Z5.out sx (.slice ax nx cx))
       rw [HVV.out] at rx2
       refine bodyPost_ret (v := .tuple #[.agg #[.bool sx, .slice ax nx cx], .int .i64 en]) (by simp [results, Tryz.results70, go_sem, y0, y1]) rfl ⟨_, _, rfl, (HB5.out.setCell (p := ⟨w.heap.size, 0, none⟩) (by simp) _).setCell (p := ⟨w.heap.size, 1, none⟩) (by simp) _, .inr (.inr ⟨⟨hr1, hr2⟩, HTD.out, ?_⟩)⟩
       rw [HCS.out] at rx2 ⊢
       exact rx2
 ·have HCS : Hid (cutS (bs s) = (false, (bs s).drop 0)) := by unfold Hid; rw [cutS_plain hcr hsg, hcr]; rfl
  have eS : (((s[0]'hp).toNat : Int) == 45) = false := E0 45 (by omega)
  have eP : (((s[0]'hp).toNat : Int) == 43) = false := E0 43 (by omega)
  have e9 : ((0 : Int) == s.size) = false := by simp; omega
  clear E0 E1 hsg hcc hcr
  go_enter Tryz.func70, Tryz.ntmps70
  go_wp2
  have X := hid X0
  clear X0
  generalize w.alloc (.cells #[.bool false, .slice none 0 0] 55) = W0 at *
  go_loop [7, 8] (fun i _ => ∃ k : Nat, 0 <= k /\ k <= s.size /\ i = .int .i64 k /\ Hid (∀ j, 0 <= j -> j < k -> dgt ((bs s).getD j 0) < rx)) (fun i _ => s.size - (intOf i).toNat)
  case atStart => exact ⟨0, Nat.le_refl _, by omega, rfl, fun j hj hj2 => by omega⟩
  case round =>
   obtain ⟨k, hk0, hk, rfl, hI⟩ := hrel
   by_cases hlt : k < s.size
   ·have hd := bs_get s k hlt
    obtain ⟨d, hdd⟩ : ∃ d, d = dgt (s[k]'hlt).toNat := ⟨_, rfl⟩
    have hd36 : d <= 36 := by rw [hdd]; exact dgt_le _
    have HD : Hid (d = dgt ((bs s).getD k 0)) := by unfold Hid; rw [hd, hdd]
    obtain ⟨z, hz⟩ : ∃ z, z = dgi (s[k]'hlt).toNat := ⟨_, rfl⟩
    have HC : Hid (∀ wx, Calls Tryz.prog 93 #[.int .u8 ((s[k]'hlt).toNat : Nat)] wx fun e w' => e = .returned (.int .i64 z) /\ w' = wx) := fun wx => by rw [hz]; exact rdigit_any _ (s[k]'hlt).toNat_lt wx
    unfold dgi at hz
    rw [<- hdd] at hz
    clear hdd hd
    by_cases hdr : d < rx
    ·rw [if_neg (by omega)] at hz
     subst hz
     go_wp2_with (go_at_call 93; refine (HC.out _).mono ?_; rintro e w' ⟨rfl, rfl⟩)
     go_round
     case rel => exact ⟨k + 1, by omega, by omega, by go_num, by
      intro j hj0 hj
      by_cases hjk : j < k
      ·exact hI.out j hj0 hjk
      ·obtain rfl : j = k := by omega
       rw [<- HD.out]; exact hdr⟩
     case measure => simp [intOf]; omega
    ·have HF : Hid (digitsB (rx : Int) (cutS (bs s)).2 = false) := by
      unfold Hid
      rw [HCS.out]
      refine digitsB_not (j := k - 0) (by rw [List.length_drop, bs_length]; omega) ?_
      rw [getD_drop', show 0 + (k - 0) = k by omega, <- HD.out]; omega
     obtain ⟨q0, q1⟩ := X.out.c
     obtain ⟨f0, f1⟩ := X.out.f
     by_cases h36 : d = 36
     ·rw [if_pos h36] at hz
      subst hz
      go_wp2_with (go_at_call 93; refine (HC.out _).mono ?_; rintro e w' ⟨rfl, rfl⟩)
      have y := X.out.set2 false none 0 0
      obtain ⟨y0, y1⟩ := y.c
      exact bodyPost_ret (v := .tuple #[.agg #[.bool false, .slice none 0 0], .int .i64 12]) (by simp [results, Tryz.results70, go_sem, y0, y1]) rfl ⟨_, _, rfl, (HB0.out.setCell (Nat.le_refl _) _).setCell (Nat.le_refl _) _, .inr (.inl ⟨⟨hr1, hr2⟩, HF.out, rfl, rfl⟩)⟩
     ·rw [if_neg h36] at hz
      subst hz
      go_wp2_with (go_at_call 93; refine (HC.out _).mono ?_; rintro e w' ⟨rfl, rfl⟩)
      have y := X.out.set2 false none 0 0
      obtain ⟨y0, y1⟩ := y.c
      exact bodyPost_ret (v := .tuple #[.agg #[.bool false, .slice none 0 0], .int .i64 12]) (by simp [results, Tryz.results70, go_sem, y0, y1]) rfl ⟨_, _, rfl, (HB0.out.setCell (Nat.le_refl _) _).setCell (Nat.le_refl _) _, .inr (.inl ⟨⟨hr1, hr2⟩, HF.out, rfl, rfl⟩)⟩
   ·obtain rfl : k = s.size := by omega
    have HAll := hid hI.out
    clear hI hlt
    have HTD : Hid (digitsB (rx : Int) (cutS (bs s)).2 = true) := by
     unfold Hid
     rw [HCS.out]
     refine digitsB_of (by rw [List.length_drop, bs_length]; omega) (fun j hj => ?_)
     rw [List.length_drop, bs_length] at hj
     rw [getD_drop']
     exact HAll.out _ (by omega) (by omega)
    have HSZ : Hid (W0.heap.size = w.heap.size + 1) := HSZ0
    go_wp2
    go_loopw [9, 10, 11, 12] (fun v i _ _ wr => ∃ k n : Nat, ∃ r : List Nat, 0 <= k /\ k <= s.size /\ i = .int .i64 k /\ n <= 160 /\ Hid (wr.ownsRow (w.heap.size + 1) 5 1 v n (cs .u8 r) /\ Dg 256 r /\ Tr r /\ val 256 r = hv rx (((bs s).drop 0).take (k - 0)) /\ Below (w.heap.size + 1) W0 wr)) (fun _ i _ _ _ => s.size - (intOf i).toNat)
    case atStart => exact ⟨0, 0, [], Nat.le_refl _, by omega, rfl, by omega, World.ownsRow_nil _ _ _ _, Dg.nil _, Tr.nil, by simp [hv, val], Below.refl _ _⟩
    case round =>
     obtain ⟨k, n, r, hk0, hk, rfl, hn, hI⟩ := hrel
     have hlr : r.length = n := by have := hI.out.1.1; rw [cs_length] at this; omega
     have HLR := hid hlr
     clear hlr
     by_cases hlt : k < s.size
     ·have hgk := bs_get s k hlt
      obtain ⟨d, hdd⟩ : ∃ d, d = dgt (s[k]'hlt).toNat := ⟨_, rfl⟩
      have hdr : d < rx := by rw [hdd, <- hgk]; exact HAll.out k hk0 hlt
      have HC : Hid (∀ wx, Calls Tryz.prog 93 #[.int .u8 ((s[k]'hlt).toNat : Nat)] wx fun e w' => e = .returned (.int .i64 d) /\ w' = wx) := fun wx => (rdigit_any _ (s[k]'hlt).toNat_lt wx).mono fun e w' ⟨h1, h2⟩ => ⟨by rw [h1]; unfold dgi; rw [<- hdd, if_neg (by omega)], h2⟩
      have HV : Hid (hv rx (((bs s).drop 0).take (k + 1 - 0)) = val 256 r * rx + d) := by
       unfold Hid
       rw [show k + 1 - 0 = (k - 0) + 1 by omega, hv_take_succ rx _ (k - 0) (by rw [List.length_drop, bs_length]; omega), getD_drop', show 0 + (k - 0) = k by omega, hgk, <- hdd, hI.out.2.2.2.1]
      clear hdd hgk
      have HTr := hid hI.out.2.2.1
      have HDr := hid hI.out.2.1
      have HOw := hid hI.out.1
      have HBl := hid hI.out.2.2.2.2
      clear hI
      go_wp2_with (go_at_call 93; refine (HC.out _).mono ?_; rintro e wx ⟨rfl, hwx⟩; rw [hwx]; clear hwx)
      go_loopw [9, 11, 12] (fun v c kv wr => ∃ kk cc m : Nat, ∃ q : List Nat, kv = .int .i64 kk /\ c = .int .i64 cc /\ cc <= 36 /\ kk <= n + 1 /\ (kk <= n -> m = n) /\ (n < kk -> m = n + 1) /\ Hid (wr.ownsRow (w.heap.size + 1) 5 1 v m (cs .u8 (q ++ r.drop kk)) /\ Mul1 r q rx d kk cc /\ Below (w.heap.size + 1) W0 wr)) (fun _ _ kv _ => n + 1 - (intOf kv).toNat)
      case atStart => exact ⟨0, d, n, [], rfl, rfl, by omega, by omega, fun _ => rfl, fun h => by omega, by simpa using HOw.out, Mul1.start r (by omega), HBl.out⟩
      case round =>
       obtain ⟨kk, cc, m, q, rfl, rfl, hcc, hkk, hm1, hm2, hJ⟩ := hrel
       have hsz : Hid (w.heap.size + 1 <= wr.heap.size) := by have := hJ.out.2.2.size; unfold Hid; rw [HSZ.out] at this; exact this
       by_cases hkn : kk < n
       ·obtain rfl : m = n := hm1 (by omega)
        clear hm1 hm2
        have ek : decide ((kk : Int) < m) = true := by simp; omega
        obtain ⟨g, cap, cur, hu, hg, hnc, hcm, hcs, hW⟩ := owns_win hJ.out.1 (by omega)
        subst hu
        obtain ⟨x, hx⟩ : ∃ x, x = r.getD kk 0 := ⟨_, rfl⟩
        have hxb : x < 256 := by rw [hx]; exact HDr.out.getD _ (by rw [HLR.out]; exact hkn)
        have hcx : wr.cell? ⟨g, kk, none⟩ = some (.int .u8 x) := by
         have h1 := hW.cell (i := kk) hkn
         have h2 : (q ++ r.drop kk).getD kk 0 = x := by
          rw [hx, drop_cons r kk (by rw [HLR.out]; exact hkn)]
          exact getD_mid hJ.out.2.1.len
         rw [h2, Nat.zero_add] at h1
         exact h1
        have hfz : wr.frozen? ⟨g, kk, none⟩ = false := hW.frozen _
        have hxr : x * rx <= 255 * 36 := Nat.mul_le_mul (show x <= 255 by omega) (show rx <= 36 by omega)
        obtain ⟨t, ht⟩ : ∃ t, t = x * rx + cc := ⟨_, rfl⟩
        have hand : bits .and .i64 ((cc : Int) + x * rx) 255 = ((t % 256 : Nat) : Int) := by
         rw [show ((cc : Int) + x * rx) = ((t : Nat) : Int) by rw [ht]; simp; omega]
         exact and_255n t (by omega)
        obtain ⟨rr, hrr⟩ : ∃ rr, rr = t % 256 := ⟨_, rfl⟩
        have hrb : rr < 256 := by rw [hrr]; exact Nat.mod_lt _ (by decide)
        rw [<- hrr] at hand
        have HRR := hid hrr
        clear hrr
        have hcap2 : cap <= 9223372036854775807 := by unfold maxLen at hcm; omega
        have HT := hid ht
        have HX := hid hx
        have HG := hid (And.intro hg (And.intro hnc (And.intro hcm hcs)))
        have HW := hid hW
        clear hx ht hg hcm hcs hW
        go_wp2
        have hO := HW.out.onto.store (i := kk) hkn rr
        rw [Nat.zero_add, set_append_drop hJ.out.2.1.len (by rw [HLR.out]; exact hkn)] at hO
        have e1 : ((cc : Int) + x * rx) / 256 = ((t / 256 : Nat) : Int) := by rw [HT.out]; simp; omega
        rw [e1]
        have hst := hJ.out.2.1.step (by rw [HLR.out]; exact hkn) HX.out hxb (by omega)
        rw [<- HT.out, <- HRR.out] at hst
        exact ⟨⟨kk + 1, t / 256, m, q ++ [rr], by go_num, rfl, hst.small, by omega, fun _ => rfl, fun h => by omega, owns_onto HG.out.1 HG.out.2.1 HG.out.2.2.1 HG.out.2.2.2 hO, hst, hJ.out.2.2.trans (hO.below HG.out.1)⟩, by simp [intOf] <;> omega⟩
       ·have ek : decide ((kk : Int) < n) = false := by simp; omega
        have hdn : r.drop kk = [] := List.drop_of_length_le (by rw [HLR.out]; omega)
        have hown0 := hJ.out.1
        rw [hdn, List.append_nil] at hown0
        have HOW := hid hown0
        clear hown0
        have HMu := hid hJ.out.2.1
        have HBJ := hid hJ.out.2.2
        obtain ⟨ao, cap, hu, hO⟩ := own_of HOW.out HMu.out.dg
        subst hu
        have HO := hid hO
        have hmx := hO.row.most
        unfold maxLen at hmx
        clear hJ hdn hO
        by_cases hc0 : cc = 0
        ·subst hc0
         have em : ((kk : Int) < m) \/ kk = m := by omega
         have hmk : m = kk := by
          by_cases h : kk <= n
          ·have := hm1 h; omega
          ·have := hm2 (by omega); omega
         subst hmk
         clear hm1 hm2 em
         have em : decide ((m : Int) < m) = false := by simp
         have HDn := hid (HMu.out.done (by rw [HLR.out]; omega) HTr.out (by omega))
         by_cases hbig : 160 < m
         ·have eb : decide ((160 : Int) < m) = true := by simp; omega
          have HBG : Hid (Big (hv rx (cutS (bs s)).2)) := by
           have hm161 : m = 161 := by omega
           have h1 : Big (hv rx (((bs s).drop 0).take (k + 1 - 0))) := by rw [HV.out, <- HDn.out.1]; exact big_len (by rw [HMu.out.len, hm161]) HDn.out.2.1
           have hl : ((bs s).drop 0).length = s.size - 0 := by rw [List.length_drop, bs_length]
           have h2 := hv_mono rx (by omega) ((bs s).drop 0) (k + 1 - 0) (s.size - (k + 1)) (by rw [hl]; omega)
           rw [show k + 1 - 0 + (s.size - (k + 1)) = s.size - 0 by omega, List.take_of_length_le (l := (bs s).drop 0) (i := s.size - 0) (by rw [hl]; exact Nat.le_refl _)] at h2
           unfold Hid
           rw [HCS.out]
           unfold Big at *
           exact Nat.le_trans h1 h2
          have Z := X.out.below HBJ.out (Nat.lt_succ_self _)
          obtain ⟨q0, q1⟩ := Z.c
          obtain ⟨f0, f1⟩ := Z.f
          have HZ := hid Z
          have HBr := hid (HB0.out.trans (HBJ.out.mono (Nat.le_succ _)))
          clear Z
          go_wp2
          have y := HZ.out.set2 false none 0 0
          obtain ⟨y0, y1⟩ := y.c
          exact bodyPost_ret (v := .tuple #[.agg #[.bool false, .slice none 0 0], .int .i64 10]) (by simp [results, Tryz.results70, go_sem, y0, y1]) rfl ⟨_, _, rfl, (HBr.out.setCell (Nat.le_refl _) _).setCell (Nat.le_refl _) _, .inr (.inr ⟨⟨hr1, hr2⟩, HTD.out, .inr ⟨HBG.out, rfl, rfl⟩⟩)⟩
         ·have eb : decide ((160 : Int) < m) = false := by simp; omega
          go_wp2
          exact ⟨⟨k + 1, m, q, by omega, by omega, by go_num, by omega, HOW.out, HMu.out.dg, HDn.out.2.1, by rw [HV.out]; exact HDn.out.1, HBJ.out⟩, by simp [intOf] <;> omega⟩
        ·have hkn2 : kk = n := by
          have h1 := HMu.out.most
          have h2 := HMu.out.end_
          rw [HLR.out] at h1 h2
          by_cases h : kk = n + 1
          ·exact absurd (h2 h).1 hc0
          ·omega
         have hmn : m = n := hm1 (by omega)
         subst hkn2
         subst hmn
         clear hm1 hm2
         have ec : decide ((0 : Int) < cc) = true := by simp; omega
         have hand : bits .and .i64 (cc : Int) 255 = ((cc : Nat) : Int) := by
          rw [and_255n cc (by omega)]; omega
         have em : decide ((m : Int) < m) = false := by simp
         go_wp2_with (at_builtin; refine app1 rfl _ _ 22 rfl (w.heap.size + 1) 5 .u8 1 (by decide) Tryz.underlying22 info_u8 _ _ _ rfl (HOW.out.alloc _) ⟨wr.heap.size, 0, none⟩ 1 cc rfl ?c3 (by omega) (by have := hsz.out; simp; omega) ?_; rotate_right; intro g cap' w1 hown hbel)
         case c3 => rw [cell_new]
         have hst := HMu.out.more HLR.out.symm hc0
         refine ⟨⟨m + 1, 0, m + 1, q ++ [cc], by go_num, ?_, by omega, by omega, fun h => by omega, fun _ => rfl, ?_, hst, ?_⟩, by simp [intOf] <;> omega⟩
         ·exact congrArg (Value.int .i64) (by omega)
         ·rw [List.drop_of_length_le (by rw [HLR.out]; omega), List.append_nil]; exact hown
         ·exact (HBJ.out.alloc hsz.out _).trans hbel
     ·obtain rfl : k = s.size := by omega
      obtain ⟨ao, cap, hu, hO⟩ := own_of hI.out.1 hI.out.2.1
      subst hu
      have HO := hid hO
      have HBJ := hid hI.out.2.2.2.2
      have HVV : Hid (val 256 r = hv rx (cutS (bs s)).2) := by
       unfold Hid
       rw [hI.out.2.2.2.1, HCS.out, List.take_of_length_le (by rw [List.length_drop, bs_length]; exact Nat.le_refl _)]
      have HZ := hid (X.out.below HBJ.out (Nat.lt_succ_self _))
      have HBr := hid (HB0.out.trans (HBJ.out.mono (Nat.le_succ _)))
      clear hO hI
      go_wp2_with fail
      refine (rwhole_any false ao n cap r wr HO.out.row (by omega)).mono ?_
      rintro e w5 ⟨x, en, rfl, hA, b5⟩
      obtain ⟨sx, ax, nx, cx, lx, rfl, Rxx, hAx⟩ := hA.form0
      have Z5 := hid (HZ.out.on b5)
      obtain ⟨z30, z31⟩ := Z5.out.c
      obtain ⟨f30, f31⟩ := Z5.out.f
      have HB5 := hid (Bt HBr.out b5)
      have HAx := hid hAx
      have HRxx := hid Rxx
      clear hA hAx Rxx b5
      go_wp2
      have z := Z5.out.set2 sx ax nx cx
      obtain ⟨y0, y1⟩ := z.c
      have rx2 := HAx.out _ (HRxx.out.setBox2 Z5.out sx (.slice ax nx cx))
      rw [HVV.out] at rx2
      refine bodyPost_ret (v := .tuple #[.agg #[.bool sx, .slice ax nx cx], .int .i64 en]) (by simp [results, Tryz.results70, go_sem, y0, y1]) rfl ⟨_, _, rfl, (HB5.out.setCell (p := ⟨w.heap.size, 0, none⟩) (by simp) _).setCell (p := ⟨w.heap.size, 1, none⟩) (by simp) _, .inr (.inr ⟨⟨hr1, hr2⟩, HTD.out, ?_⟩)⟩
      rw [HCS.out] at rx2 ⊢
      exact rx2
end Go.Proofs.YtbkfinjajkjhaaaGreatDoor
