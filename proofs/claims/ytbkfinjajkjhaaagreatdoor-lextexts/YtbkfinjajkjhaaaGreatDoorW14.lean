import Derived.Test.YtbkfinjajkjhaaaGreatDoorW13
import Derived.Deep.LoopGhost
set_option linter.unusedVariables false
set_option linter.unusedSimpArgs false
namespace Go.Proofs.YtbkfinjajkjhaaaGreatDoor
open Go.RowKit
def Turned (n k : Nat) (l L : List Nat) : Prop := ∀ x, x < n -> L.getD x 0 = if x < k \/ n <= x + k then l.getD (n - 1 - x) 0 else l.getD x 0
theorem turned_start (n : Nat) (l : List Nat) : Turned n 0 l l := by
 intro x hx
 rw [if_neg (by omega)]
theorem turned_step {n k j : Nat} {l L : List Nat} (hn : k + j + 1 = n) (hkj : k < j) (hL : L.length = n) (h : Turned n k l L) : Turned n (k + 1) l ((L.set k (l.getD j 0)).set j (l.getD k 0)) := by
 intro x hx
 rw [getD_set (by simp; omega), getD_set (by omega)]
 by_cases h1 : x = j
 ·subst h1
  rw [if_pos rfl, if_pos (by omega), show n - 1 - x = k by omega]
 ·rw [if_neg h1]
  by_cases h2 : x = k
  ·subst h2
   rw [if_pos rfl, if_pos (by omega), show n - 1 - x = j by omega]
  ·rw [if_neg h2, h x hx]
   by_cases h3 : x < k \/ n <= x + k
   ·rw [if_pos h3, if_pos (by omega)]
   ·rw [if_neg h3, if_neg (by omega)]
theorem turned_end {n k j : Nat} {l L : List Nat} (hn : k + j + 1 = n) (hkj : j <= k) (hl : l.length = n) (hL : L.length = n) (h : Turned n k l L) : L = l.reverse := by
 apply List.ext_getElem (by simp [hl, hL])
 intro i h1 h2
 have hi : i < n := by omega
 have := h i hi
 rw [List.getD_eq_getElem?_getD, List.getElem?_eq_getElem h1] at this
 rw [List.getElem_reverse]
 simp only [Option.getD_some] at this
 rw [this]
 by_cases h3 : i < k \/ n <= i + k
 ·rw [if_pos h3, List.getD_eq_getElem?_getD, List.getElem?_eq_getElem (by omega)]
  simp only [Option.getD_some, hl]
 ·rw [if_neg h3, List.getD_eq_getElem?_getD, List.getElem?_eq_getElem (by omega)]
  simp only [Option.getD_some, hl]
  congr 1
  omega
set_option maxHeartbeats 1000000 in
theorem reverse_any (g n cap : Nat) (cur : Array Value) (l : List Nat) (w : World) (W : Win .u8 5 w g 0 n cur l) (hd : Dg 256 l) (hn : n <= maxLen) (hn0 : 0 < n) :
  Calls Tryz.prog 112 #[.slice (some ⟨g, 0, none⟩) n cap] w fun e w' => e = .returned (.tuple #[]) /\ Onto .u8 5 g 0 n w w' cur l.reverse := by
 have HW := hid W
 have HL := hid W.len
 unfold maxLen at hn
 clear W hd
 go_enter Tryz.func112, Tryz.ntmps112
 go_wp2
 go_loopw [2, 3] (fun a b wr => ∃ k j : Nat, ∃ L : List Nat, k <= n /\ j < n /\ a = .int .i64 k /\ b = .int .i64 j /\ Hid (k + j + 1 = n /\ Onto .u8 5 g 0 n w wr cur L /\ Turned n k l L)) (fun _ b _ => (intOf b).toNat)
 case atStart => exact ⟨0, n - 1, l, by omega, by omega, rfl, by go_num, by omega, HW.out.onto, turned_start _ _⟩
 case round =>
  obtain ⟨k, j, L, hk, hj, rfl, rfl, hI⟩ := hrel
  by_cases hlt : k < j
  ·obtain ⟨h1, h2, h3⟩ := hI.out
   have c1 : wr.cell? ⟨g, k, none⟩ = some (.int .u8 (l.getD k 0 : Nat)) := by
    have := h2.cell (i := k) (by omega)
    rw [h3 k (by omega), if_neg (by omega), Nat.zero_add] at this
    exact this
   have c2 : wr.cell? ⟨g, j, none⟩ = some (.int .u8 (l.getD j 0 : Nat)) := by
    have := h2.cell (i := j) (by omega)
    rw [h3 j (by omega), if_neg (by omega), Nat.zero_add] at this
    exact this
   have f1 := h2.frozen k
   have f2 := h2.frozen j
   obtain ⟨x, hx⟩ : ∃ x, x = l.getD k 0 := ⟨_, rfl⟩
   obtain ⟨y, hy⟩ : ∃ y, y = l.getD j 0 := ⟨_, rfl⟩
   rw [<- hx] at c1
   rw [<- hy] at c2
   have HX := hid hx
   have HY := hid hy
   have hpos : (0 : Int) <= j := by omega
   clear h1 h2 h3 hx hy
   go_wp2
   go_region
   go_wp2
   go_roundw
   case rel =>
    obtain ⟨h1, h2, h3⟩ := hI.out
    have s1 := h2.store (i := k) (by omega) y
    have s2 := s1.store (i := j) (by omega) x
    rw [Nat.zero_add, Nat.zero_add] at s2
    refine ⟨k + 1, j - 1, (L.set k y).set j x, by omega, by omega, by go_num, by go_num, by omega, s2.drewN 1, ?_⟩
    rw [HX.out, HY.out]
    exact turned_step h1 hlt h2.len h3
   case measure => simp [intOf]; omega
  ·go_wp2
   go_end0
   obtain ⟨h1, h2, h3⟩ := hI.out
   exact ⟨rfl, h2.congr (turned_end h1 (by omega) HL.out h2.len h3)⟩
def chr (d : Nat) : Nat := if d < 10 then 48 + d else 87 + d
theorem chr_lt {d : Nat} (h : d < 36) : chr d < 256 := by unfold chr; split <;> omega
def digitText : ByteArray := ⟨#[48, 49, 50, 51, 52, 53, 54, 55, 56, 57, 97, 98, 99, 100, 101, 102, 103, 104, 105, 106, 107, 108, 109, 110, 111, 112, 113, 114, 115, 116, 117, 118, 119, 120, 121, 122]⟩
theorem dt_get (d : Nat) (h : d < 36) : (digitText[d]'h).toNat = chr d := by
 have : ∀ d : Fin 36, (digitText[d.1]'d.2).toNat = chr d.1 := by decide
 exact this ⟨d, h⟩
theorem pow_bound {l : List Nat} (h : Dg B32 l) (hl : l.length <= 40) : ∃ N, N <= 1280 /\ val B32 l < 2 ^ N := by
 refine ⟨32 * l.length, by omega, ?_⟩
 have := val_lt h
 rw [show B32 = 2 ^ 32 from rfl, <- Nat.pow_mul] at this
 exact this
theorem half_lt {v radix gk : Nat} (hr : 2 <= radix) (hv : v ≠ 0) (h : v < 2 ^ gk) : 1 <= gk /\ v / radix < 2 ^ (gk - 1) := by
 cases gk with
 | zero => simp at h; omega
 | succ k =>
  refine ⟨by omega, ?_⟩
  rw [Nat.add_sub_cancel, Nat.div_lt_iff_lt_mul (by omega)]
  rw [Nat.pow_succ] at h
  have : 2 ^ k * 2 <= 2 ^ k * radix := Nat.mul_le_mul_left _ hr
  omega
theorem print_val {radix vD P v V : Nat} (h : vD + P * v = V) : vD + P * (v % radix) + P * radix * (v / radix) = V := by
 rw [Nat.add_assoc, Nat.mul_assoc, <- Nat.mul_add, Nat.add_comm (v % radix), Nat.div_add_mod]; exact h
def PrintPost (w : World) (neg : Bool) (v : Nat) (radix : Nat) (e : Ending) (w' : World) : Prop :=
 ∃ s D, e = .returned (.tuple #[.string s, .int .i64 0]) /\ Dg radix D /\ Tr D /\ val radix D = v /\ bs s = (if neg then [45] else []) ++ (D.map chr).reverse /\ Below w.heap.size w w'
theorem conv_run {w : World} {g n cap : Nat} {cur : Array Value} {l : List Nat} (hW : Win .u8 5 w g 0 n cur l) (hd : Dg 256 l) :
  ∃ S : ByteArray, (convert 22 9 (.slice (some ⟨g, 0, none⟩) n cap)).run Tryz.prog w = .ok (.string S) w /\ bs S = l := by
 have hl := hW.len
 have hu : (l.map UInt8.ofNat).map UInt8.toNat = l := by
  rw [List.map_map]
  conv => rhs; rw [<- List.map_id l]
  apply List.map_congr_left
  intro x hx
  have := hd x hx
  simp only [Function.comp, id]
  rw [UInt8.toNat_ofNat']
  omega
 refine ⟨⟨(l.map UInt8.ofNat).toArray⟩, ?_, ?_⟩
 ·have := run_convert_bytes_back (P := Tryz.prog) w 22 9 5 ⟨g, 0, none⟩ cap (l.map UInt8.ofNat) Tryz.underlying22 Tryz.underlying5 Tryz.underlying9 (fun j hj => by
   rw [List.length_map, hl] at hj
   have h1 := hW.cell (i := j) hj
   have h2 : (l.map UInt8.ofNat)[j].toNat = l.getD j 0 := by
    rw [List.getElem_map, List.getD_eq_getElem?_getD, List.getElem?_eq_getElem (by omega), UInt8.toNat_ofNat']
    have := hd l[j] (List.getElem_mem _)
    simp only [Option.getD_some]
    omega
   rw [h2]
   unfold Addr.add
   by_cases h0 : j = 0
   ·subst h0; simpa using h1
   ·rw [if_neg h0]; exact h1)
  rw [List.length_map, hl] at this
  exact this
 ·unfold bs; simpa using hu
set_option maxHeartbeats 2000000 in
theorem print_any (neg : Bool) (ao : Option Addr) (n cap : Nat) (l : List Nat) (radix : Nat) (w : World) (R : Row .u32 B32 w ao n cap l) (g1 : goodB neg l = true) (hr1 : 2 <= radix) (hr2 : radix <= 36) (h0 : n ≠ 0) :
  Calls Tryz.prog 88 #[.agg #[.bool neg, .slice ao n cap], .int .i64 radix] w (PrintPost w neg (val B32 l) radix) := by
 have HR := hid R
 have G1 := hid g1
 have hn40 : n <= 40 := by rw [<- R.len]; exact goodB_len g1
 have hmx := R.most
 have hft := R.fits
 unfold maxLen at hmx
 have e1 : ((n : Int) == 0) = false := by simp; omega
 have HC : Hid (∀ wx, Calls Tryz.prog 103 #[.int .i64 radix] wx fun e w' => e = .returned (.bool true) /\ w' = wx) := fun wx => (isRadix_any radix wx).mono fun e w' ⟨h1, h2⟩ => ⟨by rw [h1]; simp; omega, h2⟩
 clear R g1
 go_enter Tryz.func88, Tryz.ntmps88
 go_wp2_with fail
 refine (HC.out _).mono ?_
 rintro e wx ⟨rfl, hwx⟩
 rw [hwx]
 clear hwx
 go_wp2_with fail
 refine (good_any neg ao n cap l _ (HR.out.below (Ba _ _))).mono ?_
 rintro e w1 ⟨rfl, hb1⟩
 rw [G1.out]
 have X1 := hid ((Box.new 55 w neg ao n cap).on hb1)
 have HB1 := hid (Bt (Ba w (.cells #[.bool neg, .slice ao n cap] 55)) hb1)
 obtain ⟨c0, c1⟩ := X1.out.c
 clear hb1
 go_wp2_with fail
 refine (clone_any ao n cap l w1 (HR.out.below HB1.out) (by omega)).mono ?_
 rintro e w2 ⟨ao2, cap2, rfl, hO, hb2⟩
 obtain ⟨g, cur, rfl, hg, hW⟩ := hO.own.resolve_left h0
 have X2 := hid (X1.out.on hb2)
 have HB2 := hid (Bt HB1.out hb2)
 have hgp : Hid (w.heap.size < g) := by have := X1.out.lt; unfold Hid; omega
 have hg2 : Hid (g < w2.heap.size) := hW.lt
 have hdl := hO.row.dg
 have hcf2 := hO.row.fits
 have hcm2 := hO.row.most
 have HW := hid hW
 have HDL := hid hdl
 unfold maxLen at hcm2
 clear c0 c1 hb2 hO hW hdl hg
 go_wp2
 obtain ⟨N, hN, hNv⟩ := pow_bound HDL.out (by rw [HR.out.len]; exact hn40)
 have HNV := hid hNv
 clear hNv
 go_loopg [6, 7] N (fun gk t v wr => ∃ m c : Nat, ∃ r D : List Nat, v = .slice (some ⟨g, 0, none⟩) m c /\ m <= c /\ c <= cap2 /\ m <= 40 /\ D.length + gk <= N /\ Hid ((∃ cur', Win .u32 97 wr g 0 m cur' r) /\ Dg B32 r /\ Tr r /\ wr.ownsRow w2.heap.size 5 1 t D.length (cs .u8 (D.map chr)) /\ Dg radix D /\ (r = [] -> Tr D) /\ val radix D + radix ^ D.length * val B32 r = val B32 l /\ Box 55 wr w.heap.size neg ao n cap /\ Below w.heap.size w wr /\ w2.heap.size <= wr.heap.size /\ val B32 r < 2 ^ gk))
 case atStart =>
  refine ⟨n, cap2, l, [], rfl, hcf2, Nat.le_refl _, hn40, by simp, ⟨cur, HW.out⟩, HDL.out, goodB_tr G1.out, World.ownsRow_nil _ _ _ _, Dg.nil _, fun h => ?_, by simp [val], X2.out, HB2.out, Nat.le_refl _, ?_⟩
  ·exact absurd (by rw [<- HR.out.len, h]; rfl) h0
  ·exact HNV.out
 case round =>
  obtain ⟨m, c, r, D, rfl, hmc, hcc, hm40, hDk, hI⟩ := hrel
  by_cases hm0 : m = 0
  ·subst hm0
   obtain ⟨⟨cur', hW'⟩, i2, i3, i4, i5, i6, i7, i8, i9, i10, i11⟩ := hI.out
   have hrn : r = [] := List.length_eq_zero_iff.1 hW'.len
   subst hrn
   have hDl : D.length ≠ 0 := by
    intro e
    have hD0 : D = [] := List.length_eq_zero_iff.1 e
    subst hD0
    simp [val] at i7
    exact (goodB_tr G1.out).ne_zero (B := B32) (by decide) (fun e => h0 (by rw [<- HR.out.len, e]; rfl)) i7.symm
   have HTD := hid (i6 rfl)
   have HVD : Hid (val radix D = val B32 l) := by have := i7; simp [val] at this; exact this
   have HDD := hid i5
   have HOW := hid i4
   have HBX := hid i8
   have HBL := hid i9
   have HZ := hid i10
   obtain ⟨c0, c1⟩ := HBX.out.c
   clear hI hW' i2 i3 i4 i5 i6 i7 i8 i9 i10 i11
   cases neg
   ·obtain ⟨g3, cap3, cur3, hu, hg3, hnc, hcm, hcs, hW3⟩ := owns_win HOW.out (by omega)
    subst hu
    have HW3 := hid hW3
    have HG3 := hid hg3
    have HD3 : Hid (Dg 256 (D.map chr)) := by
     intro x hx
     obtain ⟨y, hy, rfl⟩ := List.mem_map.1 hx
     exact chr_lt (by have := HDD.out y hy; omega)
    clear hW3 hg3
    go_wp2_with fail
    refine (reverse_any g3 D.length cap3 cur3 (D.map chr) wr HW3.out HD3.out (Nat.le_trans hnc hcm) (by omega)).mono ?_
    rintro e w3 ⟨rfl, hO⟩
    obtain ⟨cur4, hW4, _, _⟩ := hO.row
    obtain ⟨S, hS, hbS⟩ := conv_run (cap := cap3) hW4 (by intro x hx; exact HD3.out x (by simpa using hx))
    have HBS := hid hbS
    have HBE := hid (HBL.out.trans (hO.below (Nat.le_trans HB2.out.size HG3.out)))
    clear hO hW4 hbS
    go_wp2
    go_ret2
    exact ⟨S, D, rfl, HDD.out, HTD.out, HVD.out, by rw [HBS.out]; rfl, HBE.out⟩
   ·have HD3 : Hid (Dg 256 (D.map chr ++ [45])) := by
     refine Dg.append ?_ (Dg.one (by omega))
     intro x hx
     obtain ⟨y, hy, rfl⟩ := List.mem_map.1 hx
     exact chr_lt (by have := HDD.out y hy; omega)
    have hsw : Hid (w.heap.size <= wr.heap.size) := HBL.out.size
    go_wp2_with (at_builtin; refine app1 rfl _ _ 22 rfl w2.heap.size 5 .u8 1 (by decide) Tryz.underlying22 info_u8 _ D.length (D.map chr) rfl (HOW.out.alloc _) ⟨wr.heap.size, 0, none⟩ 1 45 rfl (cell_new _ _ _) (by omega) (by have := HZ.out; simp; omega) ?_; intro g2 cap3 w4 hown hbel)
    obtain ⟨g3, cap4, cur3, hu, hg3, hnc, hcm, hcs, hW3⟩ := owns_win hown (by omega)
    cases hu
    have HBL4 := hid ((HBL.out.alloc hsw.out _).trans (hbel.mono HB2.out.size))
    clear hown hbel
    refine (reverse_any g2 (D.length + 1) cap3 cur3 (D.map chr ++ [45]) w4 hW3 HD3.out (Nat.le_trans hnc hcm) (by omega)).mono ?_
    rintro e w3 ⟨rfl, hO⟩
    obtain ⟨cur4, hW4, _, _⟩ := hO.row
    obtain ⟨S, hS, hbS⟩ := conv_run (cap := cap3) hW4 (by intro x hx; exact HD3.out x (List.mem_reverse.1 hx))
    have HBS := hid hbS
    have HBE := hid (HBL4.out.trans (hO.below (Nat.le_trans HB2.out.size hg3)))
    clear hO hW4 hbS hW3
    go_wp2
    go_ret2
    exact ⟨S, D, rfl, HDD.out, HTD.out, HVD.out, by rw [HBS.out]; simp, HBE.out⟩
  ·have e0 : decide ((0 : Int) < m) = true := by simp; omega
   obtain ⟨⟨cur', hW'⟩, i2, i3, i4, i5, i6, i7, i8, i9, i10, i11⟩ := hI.out
   have hlr := hW'.len
   obtain ⟨d, hd⟩ : ∃ d, d = val B32 r % radix := ⟨_, rfl⟩
   have hdr : d < radix := by rw [hd]; exact Nat.mod_lt _ (by omega)
   have HDV : Hid (Calls Tryz.prog 111 #[.slice (some ⟨g, 0, none⟩) m c, .int .u32 radix] wr fun e w' => e = .returned (.int .u32 (d : Nat)) /\ ∃ l', Onto .u32 97 g 0 m wr w' cur' l' /\ Dg B32 l' /\ val B32 l' = val B32 r / radix) := by
    rw [hd]; exact divSmall_any g 0 m c cur' r radix wr hW' i2 (by unfold maxLen; omega) (by omega) (by unfold B32; omega)
   have HD := hid hd
   have I := hid (And.intro i3 (And.intro i4 (And.intro i5 (And.intro i7 (And.intro i8 (And.intro i9 (And.intro i10 i11)))))))
   have HLR := hid hlr
   clear hd hI hW' i2 i3 i4 i5 i6 i7 i8 i9 i10 i11 hlr
   go_wp2_with fail
   refine HDV.out.mono ?_
   rintro e w3 ⟨rfl, l', hO, hD', hV'⟩
   have HO := hid hO
   have HD' := hid hD'
   have HV' := hid hV'
   have hsz3 := hid hO.size
   clear hO hD' hV'
   have hbig3 : Hid (w2.heap.size <= w3.heap.size) := by unfold Hid; rw [hsz3.out]; exact I.out.2.2.2.2.2.2.1
   have hdt := dt_get d (by omega)
   have HDT : Hid (∀ h, (digitText[d]'h).toNat = chr d) := fun h => dt_get d (by omega)
   have HOT := hid (owns_far I.out.2.1 hg2.out HO.out)
   clear hdt
   go_wp2_with (at_builtin; refine app1 rfl _ _ 22 rfl w2.heap.size 5 .u8 1 (by decide) Tryz.underlying22 info_u8 _ D.length (D.map chr) rfl (HOT.out.alloc _) ⟨w3.heap.size, 0, none⟩ 1 (chr d) rfl ?c1 (by omega) (by have := hbig3.out; simp; omega) ?_; rotate_right; intro g2 cap3 w4 hown hbel)
   case c1 => exact (cell_new _ _ _).trans (congrArg (fun z : Nat => some (Value.int .u8 z)) (HDT.out _))
   obtain ⟨cur3, hW3, _, _⟩ := HO.out.row
   have hW4 := (hW3.below (Ba w3 _)).on hbel hg2.out
   have hbw : Below w.heap.size w w4 := ((I.out.2.2.2.2.2.1.trans (HO.out.below (Nat.le_of_lt hgp.out))).alloc (by have := hbig3.out; have := HB2.out.size; omega) _).trans (hbel.mono HB2.out.size)
   have hbx : Box 55 w4 w.heap.size neg ao n cap := ((show Box 55 w3 w.heap.size neg ao n cap from (HO.out.block _ (by have := hgp.out; omega)).trans I.out.2.2.2.2.1).alloc _).below hbel (by have := hgp.out; have := hg2.out; omega)
   have HW4 := hid hW4
   have HBW := hid hbw
   have HBX := hid hbx
   have HOWN := hid hown
   have hsz4 : Hid (w2.heap.size <= w4.heap.size) := by have := hbel.size; have := hbig3.out; unfold Hid; simp at *; omega
   clear hW3 hW4 hbw hbx hown hbel
   have hRow : Row .u32 B32 w4 (some ⟨g, 0, none⟩) m c l' := ⟨HW4.out.len, hmc, by unfold maxLen; omega, fun h => (by cases h), HD'.out, HW4.out.rd⟩
   refine (trim_any (some ⟨g, 0, none⟩) m c l' w4 hRow).mono ?_
   rintro e w5 ⟨m', hm', rfl, hw5, ht5, hv5⟩
   rw [hw5]
   have HT5 := hid ht5
   have HV5 := hid hv5
   clear hw5 ht5 hv5 hRow
   go_wp2
   go_roundg (gk - 1)
   case measure =>
    have h1 := I.out.1.ne_zero (B := B32) (by decide) (fun e => hm0 (by rw [<- HLR.out, e]; rfl))
    have := (half_lt hr1 h1 I.out.2.2.2.2.2.2.2).1
    omega
   case rel =>
    have hne := I.out.1.ne_zero (B := B32) (by decide) (fun e => hm0 (by rw [<- HLR.out, e]; rfl))
    have hhalf := half_lt hr1 hne I.out.2.2.2.2.2.2.2
    refine ⟨m', m', l'.take m', D ++ [d], rfl, Nat.le_refl _, by omega, by omega, by simp; omega, ⟨_, HW4.out.take hm'⟩, HD'.out.take m', HT5.out, ?_, I.out.2.2.1.append (Dg.one hdr), ?_, ?_, HBX.out, HBW.out, hsz4.out, ?_⟩
    ·have := HOWN.out
     rw [List.length_append, List.map_append]
     exact this
    ·intro hnil
     refine tr_snoc fun hd0 => ?_
     have h1 : val B32 l' = 0 := by rw [<- HV5.out, hnil]; rfl
     rw [HV'.out] at h1
     have h2 := Nat.div_add_mod (val B32 r) radix
     rw [h1, <- HD.out, hd0] at h2
     simp at h2
     omega
    ·rw [val_snoc, List.length_append, HV5.out, HV'.out, HD.out]
     show val radix D + radix ^ D.length * (val B32 r % radix) + radix ^ (D.length + 1) * (val B32 r / radix) = _
     rw [Nat.pow_succ]
     exact print_val I.out.2.2.2.1
    ·rw [HV5.out, HV'.out]; exact hhalf.2
end Go.Proofs.YtbkfinjajkjhaaaGreatDoor
