import Derived.Test.YticimejfjjmikaaGreatDoorSL6
set_option linter.unusedVariables false
set_option linter.unusedSimpArgs false
set_option maxRecDepth 100000
namespace Go.Proofs.YticimejfjjmikaaGreatDoor
open Go.RowKit
def layB (ns : List Nd) (rs : List Int) : Bool := goodG ns rs && (canonN ns rs).1.all (fun d => decide (0 <= sizeN d))
def LayableP (ns : List Nd) (rs : List Int) (w : World) (e : Ending) (w' : World) : Prop :=
 if layB ns rs = true then ∃ a1 n1 c1 a2 n2 c2, e = .returned (.tuple #[GVal a1 n1 c1 a2 n2 c2, .bool true]) /\ GIs w' a1 n1 c1 a2 n2 c2 (canonN ns rs).1 (canonN ns rs).2 /\ GKeep w.heap.size w' a1 n1 c1 a2 n2 c2 (canonN ns rs).1 (canonN ns rs).2 /\ Below w.heap.size w w'
 else e = .returned (.tuple #[.agg #[.slice none 0 0, .slice none 0 0], .bool false]) /\ Below w.heap.size w w'
theorem LayableP.no {ns : List Nd} {rs : List Int} {w w' : World} (h : layB ns rs = false) (hb : Below w.heap.size w w') : LayableP ns rs w (.returned (.tuple #[.agg #[.slice none 0 0, .slice none 0 0], .bool false])) w' := by
 unfold LayableP; rw [if_neg (by rw [h]; decide)]; exact ⟨rfl, hb⟩
set_option maxHeartbeats 8000000 in
theorem playable_any (an ar : Option Addr) (nn cn nr cr : Nat) (ns : List Nd) (rs : List Int) (w : World) (G : GOk w an nn cn ar nr cr ns rs) (hn : nn <= 100) (hT : Tabs w) :
  Calls Tryz.prog 84 #[GVal an nn cn ar nr cr] w (LayableP ns rs w) := by
 have HG := hid G
 have HT := hid hT
 have hlen : ns.length = nn := G.is.nodes.len
 have HCN : Hid (goodG ns rs = true -> (∀ d ∈ (canonN ns rs).1, CNd d) /\ (canonN ns rs).1.length <= 100 /\ (canonN ns rs).2.length = rs.length /\ goodG (canonN ns rs).1 (canonN ns rs).2 = true) := fun h => canon_nodes h G.small G.kids (by omega)
 have f1 := G.is.nodes.fits
 have f2 := G.is.nodes.most
 have f3 := G.is.roots.fits
 have f4 := G.is.roots.most
 unfold maxLen at f2 f4
 have bA := Bt (Ba w (.cells #[.slice an nn cn, .slice ar nr cr] 34)) (Ba (w.alloc (.cells #[.slice an nn cn, .slice ar nr cr] 34)) (.cells #[.slice none 0 0, .slice none 0 0] 34))
 have x1 := (GBox.new 34 w an ar nn cn nr cr).on (Ba (w.alloc (.cells #[.slice an nn cn, .slice ar nr cr] 34)) (.cells #[.slice none 0 0, .slice none 0 0] 34))
 have x2 := GBox.new 34 (w.alloc (.cells #[.slice an nn cn, .slice ar nr cr] 34)) none none 0 0 0 0
 have hsz : ((w.alloc (.cells #[.slice an nn cn, .slice ar nr cr] 34)).alloc (.cells #[.slice none 0 0, .slice none 0 0] 34)).heap.size = w.heap.size + 1 + 1 := by rw [size_alloc, size_alloc]
 rw [size_alloc] at x2
 obtain ⟨z1, z2⟩ := x1.c
 unfold GVal
 clear G hT
 go_enter Tryz.func84, Tryz.ntmps84
 go_wp2_with fail
 clear z1 z2
 generalize (w.alloc (.cells #[.slice an nn cn, .slice ar nr cr] 34)).alloc (.cells #[.slice none 0 0, .slice none 0 0] 34) = W1 at *
 obtain ⟨gb, hgb⟩ : ∃ g, g = w.heap.size := ⟨_, rfl⟩
 obtain ⟨gr, hgr⟩ : ∃ g, g = w.heap.size + 1 := ⟨_, rfl⟩
 rw [<- hgr] at x2
 rw [<- hgb] at x1
 rw [<- hgr, <- hgb]
 have hne : Hid (gb ≠ gr /\ w.heap.size <= gb /\ w.heap.size <= gr /\ gb < W1.heap.size /\ gr < W1.heap.size) := by refine ⟨?_, ?_, ?_, ?_, ?_⟩ <;> omega
 refine (good_g an ar nn cn nr cr ns rs W1 (HG.out.is.below bA) HG.out.small (by omega) (HT.out.below bA)).mono ?_
 rintro e w2 ⟨rfl, b2⟩
 have y1 := x1.on b2
 have y2 := x2.on b2
 have HB2 := hid (bA.trans (b2.mono bA.size))
 have HW12 := hid b2.size
 have Y2 := hid y2
 obtain ⟨z1, z2⟩ := y1.c
 obtain ⟨v1, v2⟩ := y2.c
 have fv1 : w2.frozen? ⟨gr, 0, none⟩ = false := blk_free y2 0
 have fv2 : w2.frozen? ⟨gr, 1, none⟩ = false := blk_free y2 1
 have hsw : Hid (w.heap.size <= w2.heap.size) := HB2.out.size
 clear bA x1 x2 hsz hgb hgr b2 y1 y2
 have fin : Hid (∀ (wz : World), Below w2.heap.size w2 wz -> layB ns rs = false -> LayableP ns rs w (.returned (.tuple #[.agg #[.slice none 0 0, .slice none 0 0], .bool false])) ((wz.setCell ⟨gr, 0, none⟩ (.slice none 0 0)).setCell ⟨gr, 1, none⟩ (.slice none 0 0)) /\ ((wz.setCell ⟨gr, 0, none⟩ (.slice none 0 0)).setCell ⟨gr, 1, none⟩ (.slice none 0 0)).heap[gr]? = some (.cells #[.slice none 0 0, .slice none 0 0] 34 (0, 0))) := fun wz hb hl => by
  have hz := (hb.block gr (Nat.lt_of_lt_of_le hne.out.2.2.2.2 HW12.out)).trans Y2.out
  exact ⟨LayableP.no hl (store2_below (HB2.out.trans (hb.mono HB2.out.size)) hne.out.2.2.1), store2 hz⟩
 obtain ⟨gd, hgd⟩ : ∃ gd, gd = goodG ns rs := ⟨_, rfl⟩
 rw [<- hgd]
 have HGD := hid hgd
 cases gd
 ·clear hgd
  obtain ⟨q1, q2⟩ := fin.out w2 (Below.refl _ _) (by unfold layB; rw [<- HGD.out]; rfl)
  have r0 := blk_cell q2 0
  have r1 := blk_cell q2 1
  have Q1 := hid q1
  clear q1 q2
  go_wp2_with fail
  (try simp only [Exit.inBlock, Exit.then]); refine bodyPost_ret (by simp [results, Tryz.results84, go_sem, r0, r1]; rfl) rfl ?_
  exact Q1.out
 ·clear hgd
  obtain ⟨cnd, cl, crl, cgd⟩ := HCN.out HGD.out.symm
  have C2 := hid (canon_own an ar nn cn nr cr ns rs w2 (HG.out.is.below HB2.out) HG.out.small HG.out.kids (by omega) HG.out.nr_le (HT.out.below HB2.out) 300001 (by omega) (by omega))
  have HLB : Hid (layB ns rs = (canonN ns rs).1.all (fun d => decide (0 <= sizeN d))) := by unfold Hid layB; rw [<- HGD.out]; rfl
  have ec : canonG ns rs 300001 = canonN ns rs := rfl
  rw [ec] at C2
  obtain ⟨cs, hcs⟩ : ∃ c, c = (canonN ns rs).1 := ⟨_, rfl⟩
  obtain ⟨crs, hcrs⟩ : ∃ c, c = (canonN ns rs).2 := ⟨_, rfl⟩
  rw [<- hcs] at C2 HLB cnd cl
  rw [<- hcrs] at C2
  have HCND := hid cnd
  have HCS := hid hcs
  have HCRS := hid hcrs
  unfold GVal at C2
  clear HCN cnd crl cgd hcs hcrs ec
  go_wp2_with (go_at_call 40; (with_reducible refine C2.out.mono ?_); rintro e w3 ⟨a1, n1, c1, a2, n2, c2, rfl, g3, gk3, b3⟩; have h1 := g3.nodes.fits; have h2 := g3.nodes.most; have h3 := g3.roots.fits; have h4 := g3.roots.most; have h5 := g3.nodes.len; have HB3 := hid (Bt b3 (Ba w3 (.cells #[.slice a1 n1 c1, .slice a2 n2 c2] 34))); have HS3 := hid b3.size; have HN3 := hid (g3.nodes.below (Ba w3 (.cells #[.slice a1 n1 c1, .slice a2 n2 c2] 34))); have HGK := hid gk3; have hx3 := GBox.new 34 w3 a1 a2 n1 c1 n2 c2; have HX3 := hid hx3; obtain ⟨d0, d1⟩ := hx3.c; clear b3 g3 gk3 hx3 z1 z2)
  unfold maxLen at h2 h4
  obtain ⟨W3, hW3⟩ : ∃ W, W = w3.alloc (.cells #[.slice a1 n1 c1, .slice a2 n2 c2] 34) := ⟨_, rfl⟩
  obtain ⟨gc, hgc⟩ : ∃ g, g = w3.heap.size := ⟨_, rfl⟩
  have hsz3 : Hid (W3.heap.size = w3.heap.size + 1) := by unfold Hid; rw [hW3, size_alloc]
  have hblk3 : Hid (∀ b, b < w3.heap.size -> W3.heap[b]? = w3.heap[b]?) := fun b hb => by rw [hW3]; exact (Ba w3 _).block b hb
  rw [<- hW3] at HB3 HN3 HX3 ⊢
  rw [<- hgc] at HX3 ⊢
  clear d0 d1 hW3 hgc v1 v2 fv1 fv2
  go_loopw [6, 16] (fun _ i wr => ∃ q : Nat, q <= n1 /\ i = .int .i64 q /\ Hid ((cs.take q).all (fun d => decide (0 <= sizeN d)) = true /\ Below W3.heap.size W3 wr)) (fun _ i _ => n1 - (intOf i).toNat)
  case atStart => exact ⟨0, Nat.zero_le _, rfl, rfl, Below.refl _ _⟩
  case round =>
   obtain ⟨q, hq, rfl, hI⟩ := hrel
   have HA := hid hI.out.1
   have HBQ := hid hI.out.2
   have hx4 := HX3.out.on HBQ.out
   have HX4 := hid hx4
   have HBW := hid (HB3.out.trans (HBQ.out.mono HB3.out.size))
   clear hI
   by_cases hlt : q < n1
   ·have hql : q < cs.length := by omega
    obtain ⟨b, o, rfl, hlb, hc⟩ := (HN3.out.below HBQ.out).some (by omega)
    obtain ⟨k1, k2, k3, ak, nk, ck, k4, k5⟩ := hc q hlt
    have hm : cs.getD q default ∈ cs := by rw [List.getD_eq_getElem?_getD, List.getElem?_eq_getElem hql]; exact List.getElem_mem _
    have hd := HCND.out _ hm
    have hkd := hd.kind
    have hneg := size_neg hd
    have HTA := hid (all_take_succ (fun d => decide (0 <= sizeN d)) hql)
    rw [HA.out] at HTA
    obtain ⟨d, hdd⟩ : ∃ d, d = cs.getD q default := ⟨_, rfl⟩
    rw [<- hdd] at k1 k2 k3 hneg HTA hkd
    have HNG := hid hneg
    have hbad : Hid (¬ 0 <= sizeN d -> cs.all (fun d => decide (0 <= sizeN d)) = false) := fun h => all_false _ (k := q + 1) (by rw [HTA.out, decide_eq_false h]; rfl)
    obtain ⟨dk, dn, dt, dl⟩ := d
    simp only at k1 k2 k3 hkd
    have hx := blk_new wr #[.int .i64 dk, .int .i64 dn, .string dt, .slice ak nk ck] 54
    have b0 : (wr.alloc (.cells #[.int .i64 dk, .int .i64 dn, .string dt, .slice ak nk ck] 54)).cell? ⟨wr.heap.size, 0, none⟩ = some (.int .i64 dk) := blk_cell hx 0
    have HBN := hid (Ba wr (.cells #[.int .i64 dk, .int .i64 dn, .string dt, .slice ak nk ck] 54))
    clear hc hm hd hdd k5 hneg hx hx4
    by_cases hk : 11 < dk
    ·have hsn : Hid (¬ 0 <= sizeN ⟨dk, dn, dt, dl⟩) := by have := HNG.out.2 hk; unfold Hid; omega
     have e9 : decide (9 < dk) = true := by simp; omega
     have e10 : (dk != 10) = true := by simp; omega
     have e11 : (dk != 11) = true := by simp; omega
     have hbz := HBW.out.trans (HBN.out.mono HBW.out.size)
     have hz := (hbz.block gr (Nat.lt_of_lt_of_le hne.out.2.2.2.2 HW12.out)).trans Y2.out
     have v1 : (wr.alloc (.cells #[.int .i64 dk, .int .i64 dn, .string dt, .slice ak nk ck] 54)).cell? ⟨gr, 0, none⟩ = some (.slice none 0 0) := blk_cell hz 0
     have v2 : (wr.alloc (.cells #[.int .i64 dk, .int .i64 dn, .string dt, .slice ak nk ck] 54)).cell? ⟨gr, 1, none⟩ = some (.slice none 0 0) := blk_cell hz 1
     have fv1 : (wr.alloc (.cells #[.int .i64 dk, .int .i64 dn, .string dt, .slice ak nk ck] 54)).frozen? ⟨gr, 0, none⟩ = false := blk_free hz 0
     have fv2 : (wr.alloc (.cells #[.int .i64 dk, .int .i64 dn, .string dt, .slice ak nk ck] 54)).frozen? ⟨gr, 1, none⟩ = false := blk_free hz 1
     obtain ⟨q1, q2⟩ := fin.out _ hbz (by rw [HLB.out]; exact hbad.out hsn.out)
     have r0 := blk_cell q2 0
     have r1 := blk_cell q2 1
     have Q1 := hid q1
     clear q1 q2 hz hbz
     go_wp2_with fail
     (try simp only [Exit.inBlock, Exit.then]); refine bodyPost_ret (by simp [results, Tryz.results84, go_sem, r0, r1]; rfl) rfl ?_
     exact Q1.out
    ·have hok : Hid ((cs.take (q + 1)).all (fun d => decide (0 <= sizeN d)) = true) := by
      unfold Hid
      rw [HTA.out]
      have := mt HNG.out.1 hk
      rw [decide_eq_true (by omega)]; rfl
     have HE := hid (HBQ.out.trans (HBN.out.mono HBQ.out.size))
     by_cases k9 : 9 < dk
     ·have e9 : decide (9 < dk) = true := decide_eq_true k9
      by_cases k10 : dk = 10
      ·subst k10
       go_wp2_with fail
       exact ⟨⟨q + 1, by omega, by go_num, hok.out, HE.out⟩, by simp [intOf] <;> omega⟩
      ·obtain rfl : dk = 11 := by omega
       go_wp2_with fail
       exact ⟨⟨q + 1, by omega, by go_num, hok.out, HE.out⟩, by simp [intOf] <;> omega⟩
     ·have e9 : decide (9 < dk) = false := decide_eq_false k9
      go_wp2_with fail
      exact ⟨⟨q + 1, by omega, by go_num, hok.out, HE.out⟩, by simp [intOf] <;> omega⟩
   ·obtain rfl : q = n1 := by omega
    have hall := HA.out
    rw [List.take_of_length_le (by omega)] at hall
    have HALL := hid hall
    obtain ⟨d0, d1⟩ := hx4.c
    have hz := (HBW.out.block gr (Nat.lt_of_lt_of_le hne.out.2.2.2.2 HW12.out)).trans Y2.out
    have v1 : wr.cell? ⟨gr, 0, none⟩ = some (.slice none 0 0) := blk_cell hz 0
    have v2 : wr.cell? ⟨gr, 1, none⟩ = some (.slice none 0 0) := blk_cell hz 1
    have fv1 : wr.frozen? ⟨gr, 0, none⟩ = false := blk_free hz 0
    have fv2 : wr.frozen? ⟨gr, 1, none⟩ = false := blk_free hz 1
    have hst := store2 (v1 := .slice a1 q c1) (v2 := .slice a2 n2 c2) hz
    have r0 := blk_cell hst 0
    have r1 := blk_cell hst 1
    clear hall hx4 hz hst
    go_wp2_with fail
    (try simp only [Exit.inBlock, Exit.then]); refine bodyPost_ret (by simp [results, Tryz.results84, go_sem, r0, r1]; rfl) rfl ?_
    have hss : ((wr.setCell ⟨gr, 0, none⟩ (.slice a1 q c1)).setCell ⟨gr, 1, none⟩ (.slice a2 n2 c2)).heap.size = wr.heap.size := by simp [World.setCell]
    have s3 := hsz3.out
    have s4 := HBQ.out.size
    have s5 := HS3.out
    have key : ∀ wz : World, wr.heap.size <= wz.heap.size -> (∀ b, w2.heap.size <= b -> b < wr.heap.size -> wz.heap[b]? = wr.heap[b]?) -> GIs wz a1 q c1 a2 n2 c2 cs crs := fun wz hz1 hz2 => by
     refine HGK.out wz (by omega) (fun b e1 e2 => ?_)
     rw [hz2 b e1 (by omega), HBQ.out.block b (by omega), hblk3.out b e2]
    unfold LayableP
    rw [if_pos (by rw [HLB.out]; exact HALL.out), <- HCS.out, <- HCRS.out]
    have hgr2 : gr < w2.heap.size := Nat.lt_of_lt_of_le hne.out.2.2.2.2 HW12.out
    refine ⟨_, _, _, _, _, _, rfl, key _ (by rw [hss]; exact Nat.le_refl _) (fun b e1 _ => store2_far (by omega)), fun wz hz1 hz2 => key wz (by rw [hss] at hz1; exact hz1) (fun b e1 e2 => (hz2 b (Nat.le_trans hsw.out e1) (by rw [hss]; exact e2)).trans (store2_far (by omega))), store2_below (HB2.out.trans (HBW.out.mono HB2.out.size)) hne.out.2.2.1⟩
theorem word_nohd (k n : Int) (hk : k ≠ 8) : isHd (wordR k n 0) = false := by
 unfold isHd
 refine decide_eq_false (fun e => ?_)
 cases h : rightB k n 0
 ·have e0 : wordR k n 0 = 0 := by unfold wordR; rw [h]; rfl
  rw [e0] at e
  revert e; decide
 ·have := (say h hk rfl).1
  unfold nK at this
  rw [this] at e
  exact hk e
theorem plainWd_nohd (ls : List ByteArray) (d : Nd) : isHd (plainWd ls d) = false := by
 unfold plainWd
 repeat' split
 all_goals exact word_nohd _ _ (by decide)
theorem putS_nohd {nm : List ByteArray} {a : Nat} {cs : List Nd} : ∀ q, q <= cs.length -> ∀ z ∈ (putS nm a (cs.take q)).ws, isHd z = false
 | 0, _ => by simp [putS]
 | q + 1, h => by
  rw [putS_take (by omega)]
  have ih := putS_nohd (nm := nm) (a := a) (cs := cs) q (by omega)
  unfold stepP
  split
  ·intro z hz
   rcases List.mem_append.1 hz with hz | hz
   ·exact ih z hz
   ·obtain rfl := List.mem_singleton.1 hz; exact plainWd_nohd _ _
  ·intro z hz
   rcases List.mem_append.1 hz with hz | hz
   ·exact ih z hz
   ·obtain rfl := List.mem_singleton.1 hz; exact word_nohd _ _ (by decide)
theorem zero_nohd : isHd 0 = false := by decide
theorem getD_nohd {ws : List Int} (h : ∀ z ∈ ws, isHd z = false) (i : Nat) : isHd (ws.getD i 0) = false := by
 by_cases hi : i < ws.length
 ·exact h _ (getD_mem_w hi)
 ·rw [List.getD_eq_getElem?_getD, List.getElem?_eq_none (by omega)]; exact zero_nohd
theorem fields_nohd (d : Nd) {ws : List Int} (h : ∀ z ∈ ws, isHd z = false) : ∀ z ∈ fieldsL d ws, isHd z = false := by
 intro z hz
 unfold fieldsL at hz
 split at hz
 ·unfold bigL at hz
  rcases List.mem_cons.1 hz with rfl | hz
  ·exact word_nohd _ _ (by decide)
  ·obtain ⟨x, _, rfl⟩ := List.mem_map.1 hz; exact word_nohd _ _ (by decide)
 split at hz
 ·obtain ⟨x, _, rfl⟩ := List.mem_map.1 hz; exact word_nohd _ _ (by decide)
 split at hz
 ·unfold bytesL at hz
  obtain ⟨x, _, rfl⟩ := List.mem_map.1 hz; exact word_nohd _ _ (by decide)
 ·obtain ⟨x, _, rfl⟩ := List.mem_map.1 hz; exact getD_nohd h _
def objsOf (ws : List Int) (cs : List Nd) : List Ob := (cs.filter (fun d => decide (0 < sizeN d))).map (fun d => ⟨fieldsK d, fieldsL d ws⟩)
theorem fieldsK_rng (d : Nd) : 1 <= fieldsK d /\ fieldsK d <= 5 := by
 unfold fieldsK
 repeat' split
 all_goals omega
theorem objsOf_take {ws : List Int} {cs : List Nd} {q : Nat} (h : q < cs.length) : objsOf ws (cs.take (q + 1)) = objsOf ws (cs.take q) ++ (if 0 < sizeN (cs.getD q default) then [⟨fieldsK (cs.getD q default), fieldsL (cs.getD q default) ws⟩] else []) := by
 have e : cs.getD q default = cs[q] := by rw [List.getD_eq_getElem?_getD, List.getElem?_eq_getElem h]; rfl
 unfold objsOf
 rw [List.take_succ_eq_append_getElem h, List.filter_append, List.map_append, e]
 congr 1
 by_cases hz : 0 < sizeN cs[q]
 ·rw [if_pos hz, List.filter_cons_of_pos (by exact decide_eq_true hz)]; rfl
 ·rw [if_neg hz, List.filter_cons_of_neg (by rw [decide_eq_false hz]; decide)]; rfl
theorem objsOf_used {ws : List Int} {cs : List Nd} (hs : cs.all (fun d => decide (0 <= sizeN d)) = true) : ∀ q, q <= cs.length -> ((usedL (objsOf ws (cs.take q)) : Nat) : Int) = sumN (cs.take q)
 | 0, _ => by simp [objsOf, usedL, sumN]
 | q + 1, h => by
  have hq : q < cs.length := by omega
  have ih := objsOf_used (ws := ws) hs q (by omega)
  have hm : cs.getD q default ∈ cs := by rw [List.getD_eq_getElem?_getD, List.getElem?_eq_getElem hq]; exact List.getElem_mem _
  have h0 := of_decide_eq_true (List.all_eq_true.1 hs _ hm)
  rw [objsOf_take hq, sumN_take hq, usedL_append]
  by_cases hz : 0 < sizeN (cs.getD q default)
  ·have := fieldsL_len (ws := ws) hz
   rw [if_pos hz]
   show ((usedL (objsOf ws (cs.take q)) + (1 + (fieldsL (cs.getD q default) ws).length + 0) : Nat) : Int) = _
   omega
  ·rw [if_neg hz]
   show ((usedL (objsOf ws (cs.take q)) + 0 : Nat) : Int) = _
   omega
theorem putO_is {N : Int} {os : List Ob} {ws : List Int} {cs : List Nd} (hw : ∀ z ∈ ws, isHd z = false) (hs : cs.all (fun d => decide (0 <= sizeN d)) = true) (hr : ((usedL os : Nat) : Int) + sumN cs <= N) : ∀ q, q <= cs.length -> putO N ws os (cs.take q) = os ++ objsOf ws (cs.take q)
 | 0, _ => by simp [putO, objsOf]
 | q + 1, h => by
  have hq : q < cs.length := by omega
  have ih := putO_is (N := N) (os := os) hw hs hr q (by omega)
  have hu := objsOf_used (ws := ws) hs q (by omega)
  have hsum := sumN_le hs (q + 1)
  rw [sumN_take hq] at hsum
  rw [putO_take hq, objsOf_take hq, ih]
  by_cases hz : 0 < sizeN (cs.getD q default)
  ·rw [if_pos hz, if_pos hz]
   have hk := fieldsK_rng (cs.getD q default)
   have hl := fieldsL_len (ws := ws) hz
   have hany : (fieldsL (cs.getD q default) ws).any isHd = false := by
    rw [List.any_eq_false]
    intro z hz'
    rw [fields_nohd _ hw z hz']; decide
   have hal : (allocM (os ++ objsOf ws (cs.take q)) N (fieldsK (cs.getD q default)) (fieldsL (cs.getD q default) ws)).2 = 0 := by
    unfold allocM
    rw [if_neg (by omega), hany, if_neg (by decide), if_neg (by rw [usedL_append]; omega)]
   unfold allocO
   rw [if_pos hal, List.append_assoc]
  ·rw [if_neg hz, if_neg hz, List.append_nil]
section
variable {N : Int} {os : List Ob} {nm : List ByteArray} {cs : List Nd}
structure PutOk (N : Int) (os : List Ob) (nm : List ByteArray) (cs : List Nd) : Prop where
 nd : ∀ d ∈ cs, nodeB cs.length d = true
 cn : ∀ d ∈ cs, CNd d
 sz : cs.all (fun d => decide (0 <= sizeN d)) = true
 room : ((usedL os : Nat) : Int) + sumN cs <= N
 most : N <= 4194304
 nms : nm.length + cs.length <= 1000000000
theorem PutOk.objs (h : PutOk N os nm cs) : putO N (putS nm (usedL os) cs).ws os cs = os ++ objsOf (putS nm (usedL os) cs).ws cs := by
 have hw := putS_nohd (nm := nm) (a := usedL os) (cs := cs) cs.length (Nat.le_refl _)
 rw [List.take_length] at hw
 have := putO_is (N := N) (os := os) hw h.sz h.room cs.length (Nat.le_refl _)
 rw [List.take_length] at this
 exact this
theorem PutOk.used (h : PutOk N os nm cs) : ((usedL (os ++ objsOf (putS nm (usedL os) cs).ws cs) : Nat) : Int) = (usedL os : Nat) + sumN cs /\ usedL (os ++ objsOf (putS nm (usedL os) cs).ws cs) <= 4194304 := by
 have := objsOf_used (ws := (putS nm (usedL os) cs).ws) h.sz cs.length (Nat.le_refl _)
 rw [List.take_length] at this
 have hr := h.room
 have hm := h.most
 rw [usedL_append]
 omega
theorem PutOk.place (h : PutOk N os nm cs) {i : Nat} (hi : i < cs.length) (hz : 0 < sizeN (cs.getD i default)) :
  ∃ k, findM (os ++ objsOf (putS nm (usedL os) cs).ws cs) ((putS nm (usedL os) cs).ws.getD i 0) = some k /\ (os ++ objsOf (putS nm (usedL os) cs).ws cs).getD k default = ⟨fieldsK (cs.getD i default), fieldsL (cs.getD i default) (putS nm (usedL os) cs).ws⟩ /\ (putS nm (usedL os) cs).ws.getD i 0 = wordR 2 ((putS nm (usedL os) (cs.take i)).at_ : Nat) 0 /\ ((putS nm (usedL os) (cs.take i)).at_ : Int) = (usedL os : Nat) + sumN (cs.take i) /\ k = (os ++ objsOf (putS nm (usedL os) cs).ws (cs.take i)).length := by
 have hu := h.used.2
 have hw := putS_word (nm := nm) (a := usedL os) hi
 rw [if_neg (by omega)] at hw
 have hat := putS_at (nm := nm) (a := usedL os) h.sz i (by omega)
 generalize hws : (putS nm (usedL os) cs).ws = ws at *
 have hou := objsOf_used (ws := ws) h.sz i (by omega)
 have hsplit : ∃ rest, objsOf ws cs = objsOf ws (cs.take i) ++ (⟨fieldsK (cs.getD i default), fieldsL (cs.getD i default) ws⟩ :: rest) := by
  have e1 : cs = cs.take (i + 1) ++ cs.drop (i + 1) := (List.take_append_drop _ _).symm
  refine ⟨objsOf ws (cs.drop (i + 1)), ?_⟩
  conv => lhs; rw [e1]
  have e2 : ∀ x y : List Nd, objsOf ws (x ++ y) = objsOf ws x ++ objsOf ws y := fun x y => by unfold objsOf; rw [List.filter_append, List.map_append]
  rw [e2, objsOf_take hi, if_pos hz, List.append_assoc]; rfl
 obtain ⟨rest, hsp⟩ := hsplit
 have hk : (os ++ objsOf ws (cs.take i)).length < (os ++ objsOf ws cs).length := by
  rw [hsp, <- List.append_assoc]; simp
 have hatk : atO (os ++ objsOf ws cs) (os ++ objsOf ws (cs.take i)).length = (putS nm (usedL os) (cs.take i)).at_ := by
  unfold atO
  rw [hsp, <- List.append_assoc, List.take_left, usedL_append]
  omega
 refine ⟨(os ++ objsOf ws (cs.take i)).length, ?_, ?_, hw, hat, rfl⟩
 ·rw [hw, <- hatk]
  exact find_ptr hk (by omega)
 ·rw [hsp, <- List.append_assoc, List.getD_eq_getElem?_getD, List.getElem?_append_right (Nat.le_refl _), Nat.sub_self]; rfl
end
def dd : List Int -> List Int
 | [] => []
 | x :: l => if x ∈ l then dd l else x :: dd l
theorem mem_dd : ∀ {l : List Int} {x : Int}, x ∈ dd l ↔ x ∈ l
 | [], x => Iff.rfl
 | y :: l, x => by
  unfold dd
  by_cases h : y ∈ l
  ·rw [if_pos h, mem_dd, List.mem_cons]
   constructor
   ·exact .inr
   ·rintro (rfl | e)
    ·exact h
    ·exact e
  ·rw [if_neg h, List.mem_cons, List.mem_cons, mem_dd]
theorem nodup_dd : ∀ (l : List Int), (dd l).Nodup
 | [] => List.nodup_nil
 | y :: l => by
  unfold dd
  by_cases h : y ∈ l
  ·rw [if_pos h]; exact nodup_dd l
  ·rw [if_neg h]; exact List.nodup_cons.2 ⟨fun e => h (mem_dd.1 e), nodup_dd l⟩
theorem ok_kids {d : Nd} (h : okD d = true) (ha : atomB d.kind = true) : d.kids = [] := by
 unfold okD at h
 rw [Bool.and_eq_true] at h
 have hk : d.kind = 1 \/ d.kind = 2 \/ d.kind = 3 \/ d.kind = 4 \/ d.kind = 6 \/ d.kind = 10 \/ d.kind = 11 := by
  unfold atomB at ha
  simp only [Bool.or_eq_true, decide_eq_true_eq] at ha
  omega
 refine no_kids h.2 ?_ ?_ ?_ ?_ ?_ <;> omega
section
variable {D Dc : Int -> Nd} {roots rootsc W Wc rs rc : List Int} {ns nc : List Nd} {ψ : Int -> Int} {f : Nat}
theorem told_two (T : Told D roots W ns rs) (Tc : Told Dc rootsc Wc nc rc) (hr : roots = rootsc.map ψ) (hok : ∀ x, okD (D x) = true)
  (hψ : ∀ x, Rch Dc rootsc x -> sameA (D (ψ x)) (Dc x) /\ (D (ψ x)).kids = (Dc x).kids.map ψ)
  (hi : ∀ x y, Rch Dc rootsc x -> Rch Dc rootsc y -> ψ x = ψ y -> x = y \/ atomB (Dc x).kind = true)
  (hb : ∀ x, Rch Dc rootsc x -> atomB (Dc x).kind = true -> (Dc x).kids = []) (F : Fine ns rs f) (Fc : Fine nc rc f) : canonG ns rs f = canonG nc rc f := by
 have hin : ∀ i, i < ns.length -> W.getD i 0 ∈ W := fun i hi => getD_mem_w (by rw [T.len]; exact hi)
 have hc : ∀ x ∈ dd W, ∀ y ∈ (D x).kids, y ∈ dd W := fun x hx y hy => by
  obtain ⟨i, hi, rfl⟩ := mem_getD_w (mem_dd.1 hx)
  rw [T.len] at hi
  rw [<- T.kids i hi] at hy
  obtain ⟨k, hk, rfl⟩ := List.mem_map.1 hy
  have := T.kr i hi k hk
  exact mem_dd.2 (hin _ (by omega))
 have hrt : ∀ x ∈ roots, x ∈ dd W := fun x hx => by
  rw [<- T.rts] at hx
  obtain ⟨k, hk, rfl⟩ := List.mem_map.1 hx
  have := T.rr k hk
  exact mem_dd.2 (hin _ (by omega))
 have TM := told_mk (D := D) (roots := roots) (nodup_dd W) hc hrt
 have hg := TM.good (fun x _ => hok x)
 have hn := mk_nodup (D := D) (nodup_dd W)
 have e1 : canonG (mkG D (dd W)) (roots.map (fun y => (((dd W).idxOf y : Nat) : Int))) f = canonG ns rs f := by
  have TM' : Told D (roots.map id) (dd W) (mkG D (dd W)) (roots.map (fun y => (((dd W).idxOf y : Nat) : Int))) := by rw [List.map_id]; exact TM
  exact told_canon T TM' hn (fun x _ => ⟨⟨rfl, rfl, rfl⟩, (List.map_id _).symm⟩) (fun x y _ _ e => .inl e) (fun x _ ha => ok_kids (hok x) ha) F hg
 have e2 : canonG (mkG D (dd W)) (roots.map (fun y => (((dd W).idxOf y : Nat) : Int))) f = canonG nc rc f := by
  rw [hr] at TM hg ⊢
  exact told_canon Tc TM hn hψ hi hb Fc hg
 rw [<- e1, e2]
end
theorem told_self {ns : List Nd} {rs : List Int} (h : goodG ns rs = true) : Told (fun i => ns.getD i.toNat default) rs ((List.range ns.length).map (fun n : Nat => (n : Int))) ns rs := by
 have hW : ∀ i, i < ns.length -> ((List.range ns.length).map (fun n : Nat => (n : Int))).getD i 0 = (i : Int) := fun i hi => by
  rw [List.getD_eq_getElem?_getD, List.getElem?_map, List.getElem?_range hi]; rfl
 obtain ⟨hk, hr⟩ := goodG_parts h
 have hid : ∀ l : List Int, (∀ k ∈ l, 0 <= k /\ k < ns.length) -> l.map (fun k => ((List.range ns.length).map (fun n : Nat => (n : Int))).getD k.toNat 0) = l := fun l hl => by
  conv => rhs; rw [<- List.map_id l]
  refine List.map_congr_left (fun k hk => ?_)
  have := hl k hk
  rw [hW _ (by omega)]
  show (k.toNat : Int) = k
  omega
 have hkr : ∀ i, i < ns.length -> ∀ k ∈ (ns.getD i default).kids, 0 <= k /\ k < ns.length := fun i hi => by
  have hm : ns.getD i default ∈ ns := by rw [List.getD_eq_getElem?_getD, List.getElem?_eq_getElem hi]; exact List.getElem_mem _
  exact places_rng (nodeB_parts (goodG_nodes h _ hm)).2
 refine ⟨by simp, fun i hi => ?_, fun i hi => ?_, hkr, hid rs (places_rng hr), places_rng hr, fun i j hi hj e => .inl ?_⟩
 ·rw [hW i hi]; exact ⟨rfl, rfl, rfl⟩
 ·rw [hW i hi, hid _ (hkr i hi)]; rfl
 ·rw [hW i hi, hW j hj] at e; omega
theorem rch_self {ns : List Nd} {rs : List Int} (h : goodG ns rs = true) {x : Int} (hx : Rch (fun i => ns.getD i.toNat default) rs x) : 0 <= x /\ x < ns.length := by
 obtain ⟨hk, hr⟩ := goodG_parts h
 induction hx with
 | root hm => exact places_rng hr _ hm
 | @kid x y _ hy ih =>
  have hm : ns.getD x.toNat default ∈ ns := by rw [List.getD_eq_getElem?_getD, List.getElem?_eq_getElem (by omega)]; exact List.getElem_mem _
  exact places_rng (nodeB_parts (goodG_nodes h _ hm)).2 y hy
theorem good_bare {ns : List Nd} {rs : List Int} (h : goodG ns rs = true) {x : Int} (hx : 0 <= x /\ x < ns.length) (ha : atomB (ns.getD x.toNat default).kind = true) : (ns.getD x.toNat default).kids = [] := by
 have hm : ns.getD x.toNat default ∈ ns := by rw [List.getD_eq_getElem?_getD, List.getElem?_eq_getElem (by omega)]; exact List.getElem_mem _
 exact goodG_bare h _ hm ha
end Go.Proofs.YticimejfjjmikaaGreatDoor
