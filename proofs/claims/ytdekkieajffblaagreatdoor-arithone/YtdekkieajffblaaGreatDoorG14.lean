import Derived.Test.YtdekkieajffblaaGreatDoorG10
import Derived.Maps.OwnSet
import Derived.DeepKeys4
import Derived.DeepKeys5
set_option linter.unusedVariables false
set_option linter.unusedSimpArgs false
namespace Go.Proofs.YtdekkieajffblaaGreatDoor
open Go.RowKit
def smallG (ns : List Nd) : Prop := ∀ d ∈ ns, d.text.size <= 2000
theorem smallG.get {ns : List Nd} (h : smallG ns) {i : Nat} (hi : i < ns.length) : (ns.getD i default).text.size <= 2000 := by
 rw [List.getD_eq_getElem?_getD, List.getElem?_eq_getElem hi]; exact h _ (List.getElem_mem hi)
set_option maxHeartbeats 2000000 in
theorem good_g (an ar : Option Addr) (nn cn nr cr : Nat) (ns : List Nd) (rs : List Int) (w : World) (G : GIs w an nn cn ar nr cr ns rs) (hs : smallG ns) (hn : nn <= 2500) (hT : Tabs w) :
  Calls Tryz.prog 92 #[GVal an nn cn ar nr cr] w fun e w' => e = .returned (.bool (goodG ns rs)) /\ Below w.heap.size w w' := by
 have HG := hid G
 have HS := hid hs
 have HT := hid hT
 have hn1 := G.nodes.fits
 have hn2 := G.nodes.most
 have hr1 := G.roots.fits
 have hr2 := G.roots.most
 unfold maxLen at hn2 hr2
 unfold GVal
 have b1 := Ba w (.cells #[.slice an nn cn, .slice ar nr cr] 78)
 have x1 := GBox.new 78 w an ar nn cn nr cr
 clear G hs hT
 go_enter Tryz.func92, Tryz.ntmps92
 go_wp2_with fail
 obtain ⟨g, hg⟩ : ∃ g, g = w.heap.size := ⟨_, rfl⟩
 rw [<- hg] at x1
 rw [<- hg]
 generalize w.alloc (.cells #[.slice an nn cn, .slice ar nr cr] 78) = W1 at *
 have HGB := hid x1
 have HB1 := hid b1
 have HG1 := hid (HG.out.below b1)
 have HT1 := hid (HT.out.below b1)
 clear b1 x1 hg HG HT
 go_loopw [8] (fun i wr => ∃ m : Nat, m <= nn /\ i = .int .i64 m /\ Hid ((ns.take m).all (nodeB nn) = true /\ Below W1.heap.size W1 wr)) (fun i _ => nn - (intOf i).toNat)
 case atStart => exact ⟨0, Nat.zero_le _, rfl, rfl, Below.refl _ _⟩
 case round =>
  obtain ⟨m, hmn, rfl, hI⟩ := hrel
  have hbw := hI.out.2
  obtain ⟨q0, q1⟩ := (HGB.out.on hbw).c
  by_cases hlt : m < nn
  ·have hlen : m < ns.length := by rw [HG1.out.nodes.len]; exact hlt
   obtain ⟨b, o, rfl, hl, hc⟩ := (HG1.out.nodes.below hbw).some (by omega)
   obtain ⟨k1, k2, k3, ak, nk, ck, k4, k5⟩ := hc m hlt
   have hok := HG1.out.nodes.get hlt
   have hsm := HS.out.get hlen
   have hst : Hid ((ns.take (m + 1)).all (nodeB nn) = nodeB nn (ns.getD m default)) := by
    unfold Hid
    rw [all_take_succ (nodeB nn) hlen, hI.out.1, Bool.true_and]
   clear hc
   generalize ns.getD m default = d at *
   obtain ⟨dk, dn, dt, dl⟩ := d
   simp only [] at k1 k2 k3 k5 hok hsm
   obtain ⟨⟨o1, o2⟩, ⟨o3, o4⟩, o5⟩ := hok
   have ba := Ba wr (.cells #[.int .i64 dk, .int .i64 dn, .string dt, .slice ak nk ck] 75)
   have HA := hid ba
   have HK := hid (k5.below ba)
   have HT2 := hid ((HT1.out.below hbw).below ba)
   have r0 : ∀ ob, (wr.alloc ob).cell? ⟨g, 0, none⟩ = some (.slice (some ⟨b, o, none⟩) nn cn) := fun ob => (cell_old _ _ _ _ (HGB.out.on hbw).lt).trans q0
   have HBW := hid hbw
   clear k5 hbw hI ba o5
   go_wp2_with fail
   refine (goodNode_any dk dn dt ak nk ck dl nn (by omega) _ HK.out (by omega) HT2.out).mono ?_
   rintro e w2 ⟨rfl, b2⟩
   have HB2 := hid (Bt (Bt HBW.out HA.out) b2)
   clear b2 r0 q0 q1 k1 k2 k3 k4
   cases hnb : nodeB nn ⟨dk, dn, dt, dl⟩
   ·go_wp2_with fail
    go_ret
    refine ⟨ret_b ?_, Bt HB1.out HB2.out⟩
    have := all_false (nodeB nn) (l := ns) (k := m + 1) (by rw [hst.out]; exact hnb)
    unfold goodG
    rw [HG1.out.nodes.len, this]; rfl
   ·go_wp2_with fail
    exact ⟨⟨m + 1, by omega, by go_num, by rw [hst.out]; exact hnb, HB2.out⟩, by simp [intOf] <;> omega⟩
  ·obtain rfl : m = nn := by omega
   have HR := hid (HG1.out.roots.below hbw)
   have HBW := hid hbw
   have hal := hid hI.out.1
   clear hbw hI
   go_wp2_with fail
   refine (arePlaces_any ar nr cr rs m (by omega) _ HR.out).mono ?_
   rintro e wz ⟨rfl, hwz⟩
   rw [hwz]
   clear hwz
   go_wp2_with fail
   go_ret
   refine ⟨ret_b ?_, Bt HB1.out HBW.out⟩
   unfold goodG
   have h := hal.out
   rw [List.take_of_length_le (by rw [HG1.out.nodes.len]; omega)] at h
   rw [HG1.out.nodes.len, h]; rfl
def cz (l : List Int) : List Value := l.map (Value.int .i64)
theorem cz_length (l : List Int) : (cz l).length = l.length := by simp [cz]
theorem cz_append (l r : List Int) : cz (l ++ r) = cz l ++ cz r := by simp [cz]
theorem cz_get {l : List Int} {j : Nat} (hj : j < l.length) : (cz l)[j]? = some (.int .i64 (l.getD j 0)) := by
 unfold cz
 rw [List.getElem?_map, List.getD_eq_getElem?_getD, List.getElem?_eq_getElem hj]; rfl
theorem cz_set (l : List Int) (i : Nat) (z : Int) : (cz l).set i (.int .i64 z) = cz (l.set i z) := by
 unfold cz; rw [List.map_set]
def Blk (w : World) (g : Nat) (l : List Int) : Prop := w.heap[g]? = some (.cells (cz l).toArray 3 (0, 0))
theorem Blk.lt {w : World} {g : Nat} {l : List Int} (h : Blk w g l) : g < w.heap.size := (Array.getElem?_eq_some_iff.1 h).1
theorem Blk.cell {w : World} {g : Nat} {l : List Int} (h : Blk w g l) {i : Nat} (hi : i < l.length) : w.cell? ⟨g, i, none⟩ = some (.int .i64 (l.getD i 0)) := by
 rw [blk_cell h]; simp only [List.getElem?_toArray]; exact cz_get hi
theorem Blk.free {w : World} {g : Nat} {l : List Int} (h : Blk w g l) (i : Nat) : w.frozen? ⟨g, i, none⟩ = false := blk_free h i
theorem Blk.set {w : World} {g : Nat} {l : List Int} (h : Blk w g l) (i : Nat) (z : Int) : Blk (w.setCell ⟨g, i, none⟩ (.int .i64 z)) g (l.set i z) := by
 have := blk_set (i := i) h (.int .i64 z)
 unfold Blk
 rw [this]
 congr 2
 rw [<- cz_set]; simp
theorem made_cz (N : Nat) : madeCells #[Value.int .i64 0] N = (cz (List.replicate N 0)).toArray := by
 apply Array.ext
 ·rw [size_madeCells]; simp [cz]
 ·intro i h1 h2
  simp [madeCells, cz, Nat.mod_one]
theorem law : Maps.Keyed Tryz.prog 170 :=
 Maps.Keyed.of_law (deep_law_laid (m := 2) (by kernel_rfl) (by omega) (of_decide_eq_true (by kernel_rfl)) (by kernel_rfl) (by rw [Tryz.underlying170]))
theorem zeroInt64 (w : World) : (zeroValue 3).run Tryz.prog w = .ok (.int .i64 0) w := by kernel_rfl
def KVal (k n : Int) (t : ByteArray) : Value := .agg #[.int .i64 k, .int .i64 n, .string t]
theorem cells_int : Tryz.prog.cellsOf 3 = 1 := by kernel_rfl
theorem cells_str : Tryz.prog.cellsOf 9 = 1 := by kernel_rfl
theorem cells_atom : Tryz.prog.cellsOf 170 = 3 := by kernel_rfl
theorem keyT : Tryz.prog.keyType 170 = true := by kernel_rfl
theorem key_lits (d : Nat) (k n : Int) (t : ByteArray) (hk : I64 k) (hn : I64 n) (ht : t.size <= maxLen) : Tryz.prog.keyLits (d + 2) 170 [.int .i64 k, .int .i64 n, .string t] = some [.int .i64 k, .int .i64 n, .string t.data.toList] := by
 have w1 : (Lit.int .i64 k).wf = true := WalkArith.wf_i64 (by unfold I64 at hk; omega)
 have w2 : (Lit.int .i64 n).wf = true := WalkArith.wf_i64 (by unfold I64 at hn; omega)
 simp [Program.keyLits, Tryz.underlying170, Tryz.underlying3, Tryz.underlying9, cells_int, cells_str, cells_atom, w1, w2, ht]
theorem key_of (k n : Int) (t : ByteArray) (hk : I64 k) (hn : I64 n) (ht : t.size <= maxLen) : ∃ kl, keyOf Tryz.prog 170 (KVal k n t) = some kl := by
 unfold keyOf KVal
 rw [Tryz.underlying170]
 obtain ⟨d, hd⟩ : ∃ d, Tryz.prog.types.size = d + 1 := ⟨Tryz.prog.types.size - 1, by have : 0 < Tryz.prog.types.size := of_decide_eq_true (by kernel_rfl); omega⟩
 have hf : (Value.agg #[.int .i64 k, .int .i64 n, .string t]).formed Tryz.prog 170 = true := by simp [Value.formed, Tryz.underlying170, cells_atom]
 simp only [keyT, hf, Bool.and_self, if_true, hd]
 have := key_lits d k n t hk hn ht
 have e : (Value.agg #[.int .i64 k, .int .i64 n, .string t]).cells.toList = [.int .i64 k, .int .i64 n, .string t] := rfl
 rw [e, show d + 1 + 1 = d + 2 from rfl, this]
 exact ⟨_, rfl⟩
theorem key_inj {k n k' n' : Int} {t t' : ByteArray} {kl : Lit} (h : keyOf Tryz.prog 170 (KVal k n t) = some kl) (h' : keyOf Tryz.prog 170 (KVal k' n' t') = some kl) : k = k' /\ n = n' /\ t = t' := by
 have := law.inj h h'
 unfold KVal at this
 simp at this
 exact this
theorem info_int : (Tryz.prog.info? 3).map (fun i => (i.zero, i.size, i.bytes)) = some (some (.int .i64 0), 1, 8) := by kernel_rfl
theorem lay4 (w : World) (o1 o2 o3 o4 : Obj) :
  ∀ W, W = ((((w.alloc o1).alloc o2).alloc o3).alloc o4).drew -> W.heap[w.heap.size + 1]? = some o2 /\ W.heap[w.heap.size + 1 + 1]? = some o3 /\ W.heap[w.heap.size + 1 + 1 + 1]? = some o4 /\ Below w.heap.size w W := by
 rintro W rfl
 have hsz0 := size_alloc w o1
 have hsz1 := size_alloc (w.alloc o1) o2
 have hsz2 := size_alloc ((w.alloc o1).alloc o2) o3
 have bA := Ba w o1
 have bB := Ba (w.alloc o1) o2
 have bC := Ba ((w.alloc o1).alloc o2) o3
 have bD := Ba (((w.alloc o1).alloc o2).alloc o3) o4
 have h1 : ((w.alloc o1).alloc o2).heap[w.heap.size + 1]? = some o2 := by rw [<- hsz0]; exact heap_alloc_new _ _
 have h2 : (((w.alloc o1).alloc o2).alloc o3).heap[w.heap.size + 1 + 1]? = some o3 := by rw [<- hsz0, <- hsz1]; exact heap_alloc_new _ _
 have h3 : ((((w.alloc o1).alloc o2).alloc o3).alloc o4).drew.heap[w.heap.size + 1 + 1 + 1]? = some o4 := by rw [<- hsz0, <- hsz1, <- hsz2]; exact heap_alloc_new _ _
 refine ⟨?_, ?_, h3, Bt (Bt (Bt (Bt bA bB) bC) bD) (Bd _ 1)⟩
 ·exact (bD.block _ (by rw [hsz2, hsz1, hsz0]; omega)).trans ((bC.block _ (by rw [hsz1, hsz0]; omega)).trans h1)
 ·exact (bD.block _ (by rw [hsz2, hsz1, hsz0]; omega)).trans h2
set_option maxHeartbeats 1000000 in
theorem newWalk_any (an ar : Option Addr) (nn cn nr cr : Nat) (hn : nn <= 2500) (hn1 : nn <= cn) (hn2 : cn <= 9223372036854775807) (w : World) :
  Calls Tryz.prog 93 #[GVal an nn cn ar nr cr] w fun e w' => ∃ B0 gp Bm, e = .returned (.pointer (some ⟨B0, 0, none⟩)) /\ w.heap.size <= B0 /\ w.heap.size <= gp /\ w.heap.size <= Bm /\ B0 ≠ gp /\ B0 ≠ Bm /\ gp ≠ Bm /\
   w'.heap[B0]? = some (.cells #[.slice an nn cn, .slice ar nr cr, .slice (some ⟨gp, 0, none⟩) nn nn, .slice none 0 0, .map (some Bm)] 156 (0, 0)) /\ Blk w' gp (List.replicate nn (-1)) /\ w'.ownsMap (H := Unit) Tryz.prog 170 (plainElem Tryz.prog 3) Bm 0 (.map []) /\ Below w.heap.size w w' := by
 have hmm := @run_makeMap Tryz.prog
 have hmk := fun wx => run_make_row' (P := Tryz.prog) 73 3 (.int .i64 0) 8 Tryz.underlying73 info_int rfl .i64 .i64 nn (by omega) (by omega) wx
 unfold GVal
 go_enter Tryz.func93, Tryz.ntmps93
 go_wp2
 go_region
 ·obtain ⟨h1, h2, h3, bF⟩ := lay4 w (.cells #[.slice an nn cn, .slice ar nr cr] 78) (.cells (madeCells #[.int .i64 0] nn) 3) (.map #[] 0) (.cells #[.slice an nn cn, .slice ar nr cr, .slice (some ⟨w.heap.size + 1, 0, none⟩) nn nn, .slice none 0 0, .map (some (w.heap.size + 1 + 1))] 156) _ rfl
  have hgp : Blk (((((w.alloc (.cells #[.slice an nn cn, .slice ar nr cr] 78)).alloc (.cells (madeCells #[.int .i64 0] nn) 3)).alloc (.map #[] 0)).alloc (.cells #[.slice an nn cn, .slice ar nr cr, .slice (some ⟨w.heap.size + 1, 0, none⟩) nn nn, .slice none 0 0, .map (some (w.heap.size + 1 + 1))] 156)).drew) (w.heap.size + 1) (List.replicate nn 0) := by unfold Blk; rw [<- made_cz]; exact h1
  have hbm : (((((w.alloc (.cells #[.slice an nn cn, .slice ar nr cr] 78)).alloc (.cells (madeCells #[.int .i64 0] nn) 3)).alloc (.map #[] 0)).alloc (.cells #[.slice an nn cn, .slice ar nr cr, .slice (some ⟨w.heap.size + 1, 0, none⟩) nn nn, .slice none 0 0, .map (some (w.heap.size + 1 + 1))] 156)).drew).heap[w.heap.size + 1 + 1]? = some (.map #[] 0) := h2
  obtain ⟨B0, hB0⟩ : ∃ g, g = w.heap.size + 1 + 1 + 1 := ⟨_, rfl⟩
  obtain ⟨gp, hgpe⟩ : ∃ g, g = w.heap.size + 1 := ⟨_, rfl⟩
  obtain ⟨Bm, hBme⟩ : ∃ g, g = w.heap.size + 1 + 1 := ⟨_, rfl⟩
  have hne : Hid (w.heap.size <= B0 /\ w.heap.size <= gp /\ w.heap.size <= Bm /\ B0 ≠ gp /\ B0 ≠ Bm /\ gp ≠ Bm) := by refine ⟨?_, ?_, ?_, ?_, ?_, ?_⟩ <;> omega
  generalize hWW : ((((w.alloc (.cells #[.slice an nn cn, .slice ar nr cr] 78)).alloc (.cells (madeCells #[.int .i64 0] nn) 3)).alloc (.map #[] 0)).alloc (.cells #[.slice an nn cn, .slice ar nr cr, .slice (some ⟨w.heap.size + 1, 0, none⟩) nn nn, .slice none 0 0, .map (some (w.heap.size + 1 + 1))] 156)).drew = W at *
  rw [<- hgpe] at hgp
  rw [<- hBme] at hbm
  rw [<- hB0, <- hBme, <- hgpe] at h3
  rw [<- hB0, <- hBme, <- hgpe]
  have HB := hid bF
  have HGP := hid hgp
  have HBM := hid hbm
  have H3 := hid h3
  clear h1 h2 h3 bF hgp hbm hWW hB0 hgpe hBme hmm hmk
  have hc0 : W.cell? ⟨B0, 2, none⟩ = some (.slice (some ⟨gp, 0, none⟩) nn nn) := blk_cell H3.out 2
  go_wp2
  go_loopw [18] (fun i wr => ∃ m : Nat, m <= nn /\ i = .int .i64 m /\ Hid (Blk wr gp (List.replicate m (-1) ++ List.replicate (nn - m) 0) /\ (∀ b, b ≠ gp -> wr.heap[b]? = W.heap[b]?) /\ Below w.heap.size w wr)) (fun i _ => nn - (intOf i).toNat)
  case atStart => exact ⟨0, Nat.zero_le _, rfl, by simpa using HGP.out, fun _ _ => rfl, HB.out⟩
  case round =>
   obtain ⟨m, hmn, rfl, hI⟩ := hrel
   have hw3 := (hI.out.2.1 B0 hne.out.2.2.2.1).trans H3.out
   have c2 : wr.cell? ⟨B0, 2, none⟩ = some (.slice (some ⟨gp, 0, none⟩) nn nn) := blk_cell hw3 2
   have HW3 := hid hw3
   clear hw3 hc0
   by_cases hlt : m < nn
   ·have hcc : wr.cell? ⟨gp, m, none⟩ = some (.int .i64 0) := by
     have := hI.out.1.cell (i := m) (by simp; omega)
     rw [List.getD_eq_getElem?_getD, List.getElem?_append_right (by simp), List.length_replicate, Nat.sub_self, show nn - m = (nn - m - 1) + 1 by omega, List.replicate_succ] at this
     simpa using this
    have hff : wr.frozen? ⟨gp, m, none⟩ = false := hI.out.1.free m
    go_wp2
    refine ⟨⟨m + 1, by omega, by go_num, ?_, fun b hb => (Below.heap_setCell _ _ _ _ hb).trans (hI.out.2.1 b hb), hI.out.2.2.setCell (p := ⟨gp, m, none⟩) hne.out.2.1 _⟩, by simp [intOf] <;> omega⟩
    have := hI.out.1.set m (-1)
    have e1 : (List.replicate m (-1 : Int) ++ List.replicate (nn - m) 0).set m (-1) = List.replicate (m + 1) (-1) ++ List.replicate (nn - (m + 1)) 0 := by
     rw [List.set_append, if_neg (by simp), show nn - m = (nn - (m + 1)) + 1 by omega, List.replicate_succ (n := nn - (m + 1))]
     simp [List.replicate_succ', List.append_assoc]
    rw [e1] at this
    exact this
   ·obtain rfl : m = nn := by omega
    go_wp2
    go_ret
    obtain ⟨n1, n2, n3, n4, n5, n6⟩ := hne.out
    refine ⟨B0, gp, Bm, rfl, n1, n2, n3, n4, n5, n6, HW3.out, ?_, ?_, hI.out.2.2⟩
    ·have := hI.out.1
     rwa [Nat.sub_self, List.replicate_zero, List.append_nil] at this
    ·have hb := (hI.out.2.1 Bm (fun e => n6 e.symm)).trans HBM.out
     exact ⟨#[], 0, hb, ⟨by simp, MapKept.stamped_empty 0, by simp⟩, Nat.le_refl _, rfl⟩
 ·obtain ⟨h1, h2, h3, bF⟩ := lay4 w (.cells #[.slice an nn cn, .slice ar nr cr] 78) (.map #[] 0) (.cells (madeCells #[.int .i64 0] nn) 3) (.cells #[.slice an nn cn, .slice ar nr cr, .slice (some ⟨w.heap.size + 1 + 1, 0, none⟩) nn nn, .slice none 0 0, .map (some (w.heap.size + 1))] 156) _ rfl
  have hgp : Blk (((((w.alloc (.cells #[.slice an nn cn, .slice ar nr cr] 78)).alloc (.map #[] 0)).alloc (.cells (madeCells #[.int .i64 0] nn) 3)).alloc (.cells #[.slice an nn cn, .slice ar nr cr, .slice (some ⟨w.heap.size + 1 + 1, 0, none⟩) nn nn, .slice none 0 0, .map (some (w.heap.size + 1))] 156)).drew) (w.heap.size + 1 + 1) (List.replicate nn 0) := by unfold Blk; rw [<- made_cz]; exact h2
  have hbm : (((((w.alloc (.cells #[.slice an nn cn, .slice ar nr cr] 78)).alloc (.map #[] 0)).alloc (.cells (madeCells #[.int .i64 0] nn) 3)).alloc (.cells #[.slice an nn cn, .slice ar nr cr, .slice (some ⟨w.heap.size + 1 + 1, 0, none⟩) nn nn, .slice none 0 0, .map (some (w.heap.size + 1))] 156)).drew).heap[w.heap.size + 1]? = some (.map #[] 0) := h1
  obtain ⟨B0, hB0⟩ : ∃ g, g = w.heap.size + 1 + 1 + 1 := ⟨_, rfl⟩
  obtain ⟨gp, hgpe⟩ : ∃ g, g = w.heap.size + 1 + 1 := ⟨_, rfl⟩
  obtain ⟨Bm, hBme⟩ : ∃ g, g = w.heap.size + 1 := ⟨_, rfl⟩
  have hne : Hid (w.heap.size <= B0 /\ w.heap.size <= gp /\ w.heap.size <= Bm /\ B0 ≠ gp /\ B0 ≠ Bm /\ gp ≠ Bm) := by refine ⟨?_, ?_, ?_, ?_, ?_, ?_⟩ <;> omega
  generalize hWW : ((((w.alloc (.cells #[.slice an nn cn, .slice ar nr cr] 78)).alloc (.map #[] 0)).alloc (.cells (madeCells #[.int .i64 0] nn) 3)).alloc (.cells #[.slice an nn cn, .slice ar nr cr, .slice (some ⟨w.heap.size + 1 + 1, 0, none⟩) nn nn, .slice none 0 0, .map (some (w.heap.size + 1))] 156)).drew = W at *
  rw [<- hgpe] at hgp
  rw [<- hBme] at hbm
  rw [<- hB0, <- hgpe, <- hBme] at h3
  rw [<- hB0, <- hgpe, <- hBme]
  have HB := hid bF
  have HGP := hid hgp
  have HBM := hid hbm
  have H3 := hid h3
  clear h1 h2 h3 bF hgp hbm hWW hB0 hgpe hBme hmm hmk
  have hc0 : W.cell? ⟨B0, 2, none⟩ = some (.slice (some ⟨gp, 0, none⟩) nn nn) := blk_cell H3.out 2
  go_wp2
  go_loopw [18] (fun i wr => ∃ m : Nat, m <= nn /\ i = .int .i64 m /\ Hid (Blk wr gp (List.replicate m (-1) ++ List.replicate (nn - m) 0) /\ (∀ b, b ≠ gp -> wr.heap[b]? = W.heap[b]?) /\ Below w.heap.size w wr)) (fun i _ => nn - (intOf i).toNat)
  case atStart => exact ⟨0, Nat.zero_le _, rfl, by simpa using HGP.out, fun _ _ => rfl, HB.out⟩
  case round =>
   obtain ⟨m, hmn, rfl, hI⟩ := hrel
   have hw3 := (hI.out.2.1 B0 hne.out.2.2.2.1).trans H3.out
   have c2 : wr.cell? ⟨B0, 2, none⟩ = some (.slice (some ⟨gp, 0, none⟩) nn nn) := blk_cell hw3 2
   have HW3 := hid hw3
   clear hw3 hc0
   by_cases hlt : m < nn
   ·have hcc : wr.cell? ⟨gp, m, none⟩ = some (.int .i64 0) := by
     have := hI.out.1.cell (i := m) (by simp; omega)
     rw [List.getD_eq_getElem?_getD, List.getElem?_append_right (by simp), List.length_replicate, Nat.sub_self, show nn - m = (nn - m - 1) + 1 by omega, List.replicate_succ] at this
     simpa using this
    have hff : wr.frozen? ⟨gp, m, none⟩ = false := hI.out.1.free m
    go_wp2
    refine ⟨⟨m + 1, by omega, by go_num, ?_, fun b hb => (Below.heap_setCell _ _ _ _ hb).trans (hI.out.2.1 b hb), hI.out.2.2.setCell (p := ⟨gp, m, none⟩) hne.out.2.1 _⟩, by simp [intOf] <;> omega⟩
    have := hI.out.1.set m (-1)
    have e1 : (List.replicate m (-1 : Int) ++ List.replicate (nn - m) 0).set m (-1) = List.replicate (m + 1) (-1) ++ List.replicate (nn - (m + 1)) 0 := by
     rw [List.set_append, if_neg (by simp), show nn - m = (nn - (m + 1)) + 1 by omega, List.replicate_succ (n := nn - (m + 1))]
     simp [List.replicate_succ', List.append_assoc]
    rw [e1] at this
    exact this
   ·obtain rfl : m = nn := by omega
    go_wp2
    go_ret
    obtain ⟨n1, n2, n3, n4, n5, n6⟩ := hne.out
    refine ⟨B0, gp, Bm, rfl, n1, n2, n3, n4, n5, n6, HW3.out, ?_, ?_, hI.out.2.2⟩
    ·have := hI.out.1
     rwa [Nat.sub_self, List.replicate_zero, List.append_nil] at this
    ·have hb := (hI.out.2.1 Bm (fun e => n6 e.symm)).trans HBM.out
     exact ⟨#[], 0, hb, ⟨by simp, MapKept.stamped_empty 0, by simp⟩, Nat.le_refl _, rfl⟩
end Go.Proofs.YtdekkieajffblaaGreatDoor
