import Derived.Test.YtdekkieajffblaaGreatDoorSL34
import Derived.Test.YtdekkieajffblaaGreatDoorG5
import Derived.Test.YtdekkieajffblaaGreatDoorSG2
import Derived.Test.YtdekkieajffblaaGreatDoorST7
import Derived.Test.YtdekkieajffblaaGreatDoorSL29
import Derived.Deep.QuietTactic
import Derived.BigQuiet
import Derived.Test.YtdekkieajffblaaGreatDoorM1
import Derived.Test.YtdekkieajffblaaGreatDoorG14
import Derived.Test.YtdekkieajffblaaGreatDoorM5
import Derived.Test.YtdekkieajffblaaGreatDoorV2
import Derived.Test.YtdekkieajffblaaGreatDoorQ3
set_option linter.unusedVariables false
set_option linter.unusedSimpArgs false
set_option maxRecDepth 100000
namespace Go.Proofs.YtdekkieajffblaaGreatDoor
open Go.RowKit
def ShowD (D : Int -> Nd) (rts : List Int) (w : World) (e : Ending) (w' : World) : Prop :=
 ∃ a1 n1 c1 a2 n2 c2 W ns rs, e = .returned (GVal a1 n1 c1 a2 n2 c2) /\ Told D rts W ns rs /\ Fine ns rs 300001 /\ GIs w' a1 n1 c1 a2 n2 c2 (canonN ns rs).1 (canonN ns rs).2 /\ GKeep w.heap.size w' a1 n1 c1 a2 n2 c2 (canonN ns rs).1 (canonN ns rs).2 /\ Below w.heap.size w w'
section
variable {B : Nat} {v vn : Value} {N : Int} {os : List Ob} {nm : List ByteArray} {F : Nat -> Prop}
set_option maxHeartbeats 16000000 in
theorem sshow_gen {gh : Nat} {op : Option Addr} (D : Int -> Nd) (hok : ∀ x, okD (D x) = true) (ro : Option Addr) (nr cr : Nat) (rts : List Int) (w : World) (R : URow w ro nr cr rts) (L : List Int) (hL : ∀ x, Rch D rts x -> x ∈ L) (hl : L.length <= 2400) (hk : ∀ x ∈ L, (D x).kids.length <= 100 /\ (D x).text.size <= 2000)
  (hnr : nr <= 2400) (hT : TabsS w) (hN : ∀ (wr : World) (x : Int) (gs : Nat), x ∈ L -> U64 x -> Below w.heap.size w wr -> SB gs (.pointer (some ⟨gh, 0, none⟩)) (.pointer op) wr -> Calls Tryz.prog 69 #[.pointer (some ⟨gs, 0, none⟩), .int .u64 x] wr (OPost (D x) wr)) :
  Calls Tryz.prog 41 #[.pointer (some ⟨gh, 0, none⟩), .pointer op, .slice ro nr cr] w (ShowD D rts w) := by
 have HR := hid R
 have HL := hid hL
 have HLL := hid hl
 have HK := hid hk
 have HOK := hid hok
 have HND := hid hN
 have HT := hid hT
 have HRL := hid R.len
 obtain ⟨gr, hgr⟩ : ∃ g, g = w.heap.size := ⟨_, rfl⟩
 have HGR := hid hgr
 obtain ⟨W0, hW0⟩ : ∃ W, W = w.alloc (.cells #[.slice none 0 0, .slice none 0 0] 78) := ⟨_, rfl⟩
 have hs0 : W0.heap.size = gr + 1 := by rw [hW0, size_alloc, hgr]
 have HS0 := hid hs0
 have hb0 : Below w.heap.size w W0 := by rw [hW0]; exact Ba w _
 have HB0 := hid hb0
 have hy0 : W0.heap[gr]? = some (.cells #[.slice none 0 0, .slice none 0 0] 78 (0, 0)) := by rw [hW0, hgr]; exact blk_new _ _ _
 have HY0 := hid hy0
 obtain ⟨W2, hW2⟩ : ∃ W, W = (W0.alloc (.map #[] 0)).alloc (.cells #[.pointer (some ⟨gh, 0, none⟩), .pointer op, .slice none 0 0, .map (some (gr + 1))] 104) := ⟨_, rfl⟩
 have hb2 : Below (gr + 1) W0 W2 := by rw [hW2, <- hs0]; exact Bt (Ba W0 _) (Ba _ _)
 have HSH : Hid (SH (gr + 1) W0 (.pointer (some ⟨gh, 0, none⟩)) (.pointer op) (.slice none 0 0) [] [] W2) := by
  have hx := blk_new (W0.alloc (.map #[] 0)) #[.pointer (some ⟨gh, 0, none⟩), .pointer op, .slice none 0 0, .map (some (gr + 1))] 104
  rw [size_alloc, <- hW2, hs0] at hx
  have hm := MapW.made W0
  rw [hs0] at hm
  refine ⟨hb2, hx, hm.frame ?_, World.ownsRow_nil _ _ _ _⟩
  rw [hW2]
  exact (Ba (W0.alloc (.map #[] 0)) _).block _ (by rw [size_alloc, hs0]; omega)
 have HBX : Hid (∀ wx, Below (gr + 1) W0 wx -> Below w.heap.size w wx) := fun wx hb => HB0.out.trans (hb.mono (by have := HGR.out; omega))
 have CP0 : Hid (Calls Tryz.prog 68 #[.pointer (some ⟨gr + 1 + 1, 0, none⟩), .slice ro nr cr] W2 (PLPost (gr + 1) W0 (.pointer (some ⟨gh, 0, none⟩)) (.pointer op) (.slice none 0 0) [] rts nr W2)) := by
  refine places_any ro nr cr rts W2 HSH.out (fun wx hx => ?_) (by simp; omega)
  have hbw := HBX.out W2 hb2
  refine (HR.out.on hbw).keep hx.size (fun hne a ha => ?_)
  rcases HR.out.rd with e | ⟨bR, oR, e, hlt, _⟩
  ·exact absurd e hne
  ·rw [e] at ha; cases ha
   exact hx.blk bR (Nat.lt_of_lt_of_le hlt hbw.size) (by show bR ≠ gr + 1; omega) (by show bR ≠ gr + 1 + 1; omega) (fun e => by cases e)
 have CN : Hid (∀ (vW : Value) (W : List Int) (wr : World) (x : Int), x ∈ L -> U64 x -> SH (gr + 1) W0 (.pointer (some ⟨gh, 0, none⟩)) (.pointer op) vW W W wr -> Calls Tryz.prog 69 #[.pointer (some ⟨gr + 1 + 1, 0, none⟩), .int .u64 x] wr (OPost (D x) wr)) := fun vW W wr x hxL hx hs => HND.out wr x _ hxL hx (HBX.out wr hs.bel) ⟨blk_cell hs.box 0, blk_cell hs.box 1, (Array.getElem?_eq_some_iff.1 hs.box).1⟩
 have hmm := @run_makeMap Tryz.prog
 have HRU := hid R.bd
 have HM0 := hid (MI.start (D) rts R.bd)
 have HW0 := hid hW0
 have HW2 := hid hW2
 have KEY : Hid (∀ (vW : Value) (W rs : List Int) (ns : List Nd), MI (D) rts W rs ns -> W.length <= 2400) := fun vW W rs ns hM => Nat.le_trans (hM.le HL.out) HLL.out
 clear R hL hl hk hT hok hN hs0 hb0 hy0 hb2 hgr hW0 hW2
 go_enter Tryz.func41, Tryz.ntmps41
 go_wp2_with (go_at_call 68; rw [<- HGR.out, <- HW0.out, <- HW2.out]; (with_reducible refine CP0.out.mono ?_); rintro e W3 ⟨vo, vW0, rfl, p3⟩; obtain ⟨ao, co, rfl, _, _⟩ := slice_form p3.own; have HQ0 := hid (qs_start p3); clear p3)
 clear hmm
 obtain ⟨go, hgo⟩ : ∃ g, g = W3.heap.size := ⟨_, rfl⟩
 obtain ⟨W4, hW4⟩ : ∃ W, W = W3.alloc (.cells #[.slice none 0 0, .slice ao nr co] 78) := ⟨_, rfl⟩
 rw [<- hgo, <- hW4] at HQ0
 rw [<- hW4, <- hgo]
 clear hW4 hgo
 obtain ⟨rs, hrs⟩ : ∃ r, r = plL [] rts := ⟨_, rfl⟩
 rw [<- hrs] at HQ0 HM0
 have HRSL : Hid (rs.length = nr) := by unfold Hid; rw [hrs, pl_len, HRL.out]
 clear hrs
 obtain ⟨v, hv⟩ : ∃ v, v = Value.pointer (some ⟨gh, 0, none⟩) := ⟨_, rfl⟩
 obtain ⟨vn, hvn⟩ : ∃ v, v = Value.pointer op := ⟨_, rfl⟩
 rw [<- hv, <- hvn] at HQ0 CN
 clear hv hvn
 go_loopw [9, 10, 11] (fun p _ _ wr => ∃ q : Nat, p = .int .i64 q /\ Hid (∃ vW vN W xs, QS (gr + 1) W0 v vn (.slice ao nr co) vW vN go nr rs W xs wr /\ MI (D) rts W rs (xs.map Prod.fst) /\ xs.length = q)) (fun p _ _ _ => 3000 - (intOf p).toNat)
 case atStart => exact ⟨0, rfl, vW0, _, _, [], HQ0.out, HM0.out, rfl⟩
 case round =>
  obtain ⟨q, rfl, HI0⟩ := hrel
  obtain ⟨vW, vN, W, xs, hQ, hM, hxl⟩ := HI0.out
  have hWl := KEY.out vW W rs _ hM
  obtain ⟨aW, cW, rfl, hu⟩ := urow_own hQ.sh.ow hM.u
  have HQ := hid hQ
  have HM := hid hM
  have HX := hid hxl
  have c2 : wr.cell? ⟨gr + 1 + 1, 2, none⟩ = some (.slice aW W.length cW) := blk_cell hQ.sh.box 2
  have hf1 := hu.fits
  have hf2 := hu.most
  unfold maxLen at hf2
  by_cases hlt : q < W.length
  ·obtain ⟨bW, oW, rfl, hbW, hcW⟩ := hu.some (by omega)
   have c5 := hcW q hlt
   have hxm : W.getD q 0 ∈ W := getD_mem_w hlt
   have hxu := hM.u _ hxm
   have C1 := hid (CN.out _ W wr _ (HL.out _ (hM.rch _ hxm)) hxu hQ.sh)
   have hdk := HK.out _ (HL.out _ (hM.rch _ hxm))
   have HOKN : Hid (NdOk (D (W.getD q 0))) := ok_nd (HOK.out _) hdk.2
   have HSTEP : Hid (∀ (d : Nd), sameA d (D (W.getD q 0)) -> d.kids = plL W (D (W.getD q 0)).kids -> (∀ y ∈ (D (W.getD q 0)).kids, U64 y) -> MI (D) rts (metW W (D (W.getD q 0)).kids) rs (xs.map Prod.fst ++ [d])) := fun d h1 h2 h3 => by
    have hx2 : (xs.map Prod.fst).length = q := by rw [List.length_map]; exact HX.out
    have := HM.out.step (d := d) (by rw [hx2]; exact hlt) (by rw [hx2]; exact h1) (by rw [hx2]; exact h2) (by rw [hx2]; exact h3)
    rw [hx2] at this; exact this
   obtain ⟨x, hx⟩ : ∃ x, x = W.getD q 0 := ⟨_, rfl⟩
   rw [<- hx] at c5 C1 HOKN HSTEP hdk hxu
   obtain ⟨d, hd⟩ : ∃ d, d = D x := ⟨_, rfl⟩
   rw [<- hd] at C1 HOKN HSTEP hdk
   obtain ⟨dk, dn, dt, dl⟩ := d
   simp only at hdk HSTEP
   have HDL := hid hdk.1
   have CPK : Hid (∀ (W1 : World) (ak : Option Addr) (nk ck : Nat), URow W1 ak nk ck dl -> (∀ a, ak = some a -> wr.heap.size <= a.block) -> Below wr.heap.size wr W1 -> Calls Tryz.prog 68 #[.pointer (some ⟨gr + 1 + 1, 0, none⟩), .slice ak nk ck] (W1.alloc (.cells #[.int .i64 dk, .int .i64 dn, .string dt, .slice none 0 0] 75)) (PLPost (gr + 1) W0 v vn (.slice (some ⟨bW, oW, none⟩) W.length cW) W dl nk (W1.alloc (.cells #[.int .i64 dk, .int .i64 dn, .string dt, .slice none 0 0] 75)))) := fun W1 ak nk ck hu1 ha hb => by
    have hbA := Ba W1 (.cells #[.int .i64 dk, .int .i64 dn, .string dt, .slice none 0 0] 75)
    have h1 := (HQ.out.on hb).on hbA
    have hwl := HQ.out.sh.lt
    have hnk := hu1.len
    have hdl := HDL.out
    refine places_any ak nk ck dl _ h1.sh (fun wx hx => ?_) (by omega)
    refine (hu1.on hbA).keep hx.size (fun hne a e => ?_)
    have h2 := ha a e
    rcases hu1.rd with e2 | ⟨bk, ok, e2, h3, _⟩
    ·exact absurd e2 hne
    ·rw [e2] at e; cases e
     refine hx.blk bk (by rw [size_alloc]; omega) (by simp at h2; omega) (by simp at h2; omega) (fun e => ?_)
     have := (HQ.out.sh.ow.lt _ e).2
     simp at h2
     omega
   obtain ⟨aN, cN, hvN, hn1, hn2⟩ := slice_form hQ.nodes.own
   rw [hxl] at hvN hn1
   subst hvN
   have TRN : Hid (∀ (W1 W5 : World) (nk : Nat) (a5 : Option Addr) (c5 : Nat) (vW5 : Value), Below wr.heap.size wr W1 -> dl.length = nk -> POw (gr + 1) W0 v vn (.slice (some ⟨bW, oW, none⟩) W.length cW) (W1.alloc (.cells #[.int .i64 dk, .int .i64 dn, .string dt, .slice none 0 0] 75)) (.slice a5 nk c5) vW5 nk (plL W dl) (metW W dl) (metW W dl) W5 ->
     W5.cell? ⟨W1.heap.size, 3, none⟩ = some (.slice none 0 0) /\ W5.frozen? ⟨W1.heap.size, 3, none⟩ = false /\ (W5.setCell ⟨W1.heap.size, 3, none⟩ (.slice a5 nk c5)).cell? ⟨go, 0, none⟩ = some (.slice aN q cN) /\
     (W5.setCell ⟨W1.heap.size, 3, none⟩ (.slice a5 nk c5)).cell? ⟨W1.heap.size, 0, none⟩ = some (.int .i64 dk) /\ (W5.setCell ⟨W1.heap.size, 3, none⟩ (.slice a5 nk c5)).cell? ⟨W1.heap.size, 1, none⟩ = some (.int .i64 dn) /\ (W5.setCell ⟨W1.heap.size, 3, none⟩ (.slice a5 nk c5)).cell? ⟨W1.heap.size, 2, none⟩ = some (.string dt) /\ (W5.setCell ⟨W1.heap.size, 3, none⟩ (.slice a5 nk c5)).cell? ⟨W1.heap.size, 3, none⟩ = some (.slice a5 nk c5) /\
     Hid ((∀ j u, (nc ((⟨dk, dn, dt, plL W dl⟩ : Nd), a5, nk, c5))[j]? = some u -> ((W5.setCell ⟨W1.heap.size, 3, none⟩ (.slice a5 nk c5)).alloc (.cells #[.int .i64 dk, .int .i64 dn, .string dt, .slice a5 nk c5] 75)).cell? ⟨W5.heap.size, j, none⟩ = some u) /\
     ((W5.setCell ⟨W1.heap.size, 3, none⟩ (.slice a5 nk c5)).alloc (.cells #[.int .i64 dk, .int .i64 dn, .string dt, .slice a5 nk c5] 75)).ownsRow (go + 1) 75 4 (.slice aN q cN) q (ncs xs) /\
     go + 1 <= ((W5.setCell ⟨W1.heap.size, 3, none⟩ (.slice a5 nk c5)).alloc (.cells #[.int .i64 dk, .int .i64 dn, .string dt, .slice a5 nk c5] 75)).heap.size /\
     (∀ g cap w', w'.ownsRow (go + 1) 75 4 (.slice (some ⟨g, 0, none⟩) (q + 1) cap) (q + 1) (ncs xs ++ nc ((⟨dk, dn, dt, plL W dl⟩ : Nd), a5, nk, c5)) -> ((W5.setCell ⟨W1.heap.size, 3, none⟩ (.slice a5 nk c5)).alloc (.cells #[.int .i64 dk, .int .i64 dn, .string dt, .slice a5 nk c5] 75)).grownBy w' (Value.slice aN q cN).ownBlock -> ((Value.slice aN q cN).ownBlock = some g \/ g = ((W5.setCell ⟨W1.heap.size, 3, none⟩ (.slice a5 nk c5)).alloc (.cells #[.int .i64 dk, .int .i64 dn, .string dt, .slice a5 nk c5] 75)).heap.size) ->
      QS (gr + 1) W0 v vn (.slice ao nr co) vW5 (.slice (some ⟨g, 0, none⟩) (q + 1) cap) go nr rs (metW W dl) (xs ++ [((⟨dk, dn, dt, plL W dl⟩ : Nd), a5, nk, c5)]) (w'.setCell ⟨go, 0, none⟩ (.slice (some ⟨g, 0, none⟩) (q + 1) cap)) /\ w'.frozen? ⟨go, 0, none⟩ = false /\ w'.cell? ⟨go, 0, none⟩ = some (.slice aN q cN)))) := fun W1 W5 nk a5 c5 vW5 hb hnk hp => by
    have hml := met_len dl W
    have hdl := HDL.out
    obtain ⟨t1, t2, t3, t4, t5⟩ := node_turn (HQ.out.on hb) hp (fun z hz => by have := pl_rng hz; unfold I64; omega)
    have hss : (W5.setCell ⟨W1.heap.size, 3, none⟩ (.slice a5 nk c5)).heap.size = W5.heap.size := by simp [World.setCell]
    obtain ⟨S, hS⟩ : ∃ S, S = W5.setCell ⟨W1.heap.size, 3, none⟩ (.slice a5 nk c5) := ⟨_, rfl⟩
    rw [<- hS] at t2 t3 t4 t5 hss
    rw [<- hS]
    have hbS := Ba S (.cells #[.int .i64 dk, .int .i64 dn, .string dt, .slice a5 nk c5] 75)
    have hnew := blk_new S #[.int .i64 dk, .int .i64 dn, .string dt, .slice a5 nk c5] 75
    have h6 := t3.on hbS
    have ho6 := h6.nodes.own
    rw [HX.out] at ho6
    rw [hss] at hnew
    refine ⟨blk_cell t1 3, blk_free t1 3, blk_cell t3.box 0, blk_cell t2 0, blk_cell t2 1, blk_cell t2 2, blk_cell t2 3, fun j u hj => ?_, ho6, ?_, fun g cap w' ho hg hl => ?_⟩
    ·exact news_of (d := ((⟨dk, dn, dt, plL W dl⟩ : Nd), a5, nk, c5)) hnew hj
    ·have := h6.glt; omega
    ·have hx3 := HX.out
     rw [<- hx3] at ho
     have := h6.push (d := ((⟨dk, dn, dt, plL W dl⟩ : Nd), a5, nk, c5)) ho hg hl HOKN.out (t4.below hbS) (fun ad e => ⟨(t5 ad e).1, Nat.lt_of_lt_of_le (t5 ad e).2.1 hbS.size, (t5 ad e).2.2⟩)
     rw [hx3] at this
     exact this
   unfold OPost bareV at C1
   simp only at C1
   obtain ⟨nW, hnW⟩ : ∃ n, n = W.length := ⟨_, rfl⟩
   rw [<- hnW] at c2 hlt hWl CPK TRN hf1
   have hq1 : q <= 1000000 := by omega
   clear hQ hM hu hcW hbW hxm hxu hdk hx hd hxl HI0 hnW hn1 hn2
   go_wp2_with (first
    | (go_at_call 69; (with_reducible refine C1.out.mono ?_); rintro e W1 ⟨ak, nk, ck, rfl, u1, a1, b1⟩; have C2 := hid (CPK.out W1 ak nk ck u1 a1 b1); have HU1 := hid u1.bd; have HNK := hid u1.len; have HB1 := hid b1; clear u1 a1 b1)
    | (go_at_call 68; (with_reducible refine C2.out.mono ?_); rintro e W5 ⟨vo5, vW5, rfl, p5⟩; obtain ⟨a5, c5', rfl, _, _⟩ := slice_form p5.own; obtain ⟨t1, t2, t3, t4, t5, t6, t7, TH⟩ := TRN.out W1 W5 nk a5 c5' vW5 HB1.out HNK.out p5; clear p5)
    | (at_builtin; refine appn rfl _ _ 76 rfl (go + 1) 75 Tryz.underlying76 info_node _ q (ncs xs) rfl TH.out.2.1 W5.heap.size 1 ((⟨dk, dn, dt, plL W dl⟩ : Nd), a5, nk, c5') rfl TH.out.1 hq1 TH.out.2.2.1 ?_; intro g7 cap7 w7 ho7 hg7 hl7 hlt7; obtain ⟨p7, f7, e7⟩ := TH.out.2.2.2 g7 cap7 w7 ho7 hg7 hl7; have HP7 := hid p7; clear p7 ho7 hg7 hl7 hlt7))
   refine ⟨⟨q + 1, by go_num, vW5, .slice (some ⟨g7, 0, none⟩) (q + 1) cap7, metW W dl, xs ++ [((⟨dk, dn, dt, plL W dl⟩ : Nd), a5, nk, c5')], HP7.out, ?_, ?_⟩, by simp [intOf] <;> omega⟩
   ·rw [List.map_append]
    exact HSTEP.out _ ⟨rfl, rfl, rfl⟩ rfl HU1.out
   ·rw [List.length_append, HX.out]; rfl
  ·have hnl := hM.len
   rw [List.length_map, hxl] at hnl
   have hqe : (xs.map Prod.fst).length = W.length := by rw [List.length_map, hxl]; omega
   have HTO := hid (hM.told hqe)
   obtain ⟨hfi, hsm⟩ := hM.fine hqe HOK.out HL.out HLL.out HK.out
   have HFI := hid hfi
   obtain ⟨aN, cN, rfl, hnr0⟩ := hQ.nodes.row
   have hro := hQ.ro
   rw [<- HRSL.out] at hro
   obtain ⟨ao', co', e1, hir⟩ := irow_own hro (fun z hz => by have := hM.rr z hz; unfold I64; omega)
   rw [<- HRSL.out] at HQ
   have e2 : ao = ao' /\ co = co' := by injection e1 with e1 _ e3; exact ⟨e1, e3⟩
   obtain ⟨rfl, rfl⟩ := e2
   have hbw := HBX.out wr hQ.sh.bel
   have CC := hid (canon_own aN ao xs.length cN rs.length co (xs.map Prod.fst) rs wr ⟨hnr0, hir⟩ hsm hfi.kids (by omega) (by have := HRSL.out; omega) (HT.out.below hbw).1 300001 (by omega) (by omega))
   have HBW := hid hbw
   have g0 : wr.cell? ⟨go, 0, none⟩ = some (.slice aN xs.length cN) := blk_cell hQ.box 0
   have g1 : wr.cell? ⟨go, 1, none⟩ = some (.slice ao nr co) := blk_cell hQ.box 1
   have hgrw : gr < wr.heap.size := by have := hQ.sh.lt; omega
   have HGRW := hid hgrw
   have HYR : Hid (wr.heap[gr]? = some (.cells #[.slice none 0 0, .slice none 0 0] 78 (0, 0))) := (hQ.sh.bel.block gr (by omega)).trans HY0.out
   unfold GVal at CC
   rw [hxl, HRSL.out] at CC
   rw [hxl] at g0
   clear hQ hM hu hxl HI0 HQ HM hfi hsm hnr0 hro hir hbw hgrw hqe hnl e1
   go_wp2_with (go_at_call 70; (with_reducible refine CC.out.mono ?_); rintro e w4 ⟨a1, n1, c1, a2, n2, c3, rfl, hGI, hGK, b4⟩; have y4 := (b4.block gr HGRW.out).trans HYR.out; have Y4 := hid y4; have v1 : w4.cell? ⟨gr, 0, none⟩ = some (.slice none 0 0) := blk_cell y4 0; have v2 : w4.cell? ⟨gr, 1, none⟩ = some (.slice none 0 0) := blk_cell y4 1; have fv1 : w4.frozen? ⟨gr, 0, none⟩ = false := blk_free y4 0; have fv2 : w4.frozen? ⟨gr, 1, none⟩ = false := blk_free y4 1; have HGI := hid hGI; have HGK := hid hGK; have HB4 := hid b4; clear y4 hGI hGK b4; try unfold GVal)
   have hst := store2 (v1 := .slice a1 n1 c1) (v2 := .slice a2 n2 c3) Y4.out
   have r0 := blk_cell hst 0
   have r1 := blk_cell hst 1
   (try simp only [Exit.inBlock, Exit.then]); refine bodyPost_ret (by simp [results, Tryz.results41, go_sem, r0, r1]; rfl) rfl ?_
   have hss : ((w4.setCell ⟨gr, 0, none⟩ (.slice a1 n1 c1)).setCell ⟨gr, 1, none⟩ (.slice a2 n2 c3)).heap.size = w4.heap.size := by simp [World.setCell]
   have hfar : ∀ b, wr.heap.size <= b -> ((w4.setCell ⟨gr, 0, none⟩ (.slice a1 n1 c1)).setCell ⟨gr, 1, none⟩ (.slice a2 n2 c3)).heap[b]? = w4.heap[b]? := fun b hb => store2_far (by have := HGRW.out; omega)
   refine ⟨a1, n1, c1, a2, n2, c3, W, xs.map Prod.fst, rs, rfl, HTO.out, HFI.out, HGK.out _ (by rw [hss]; exact Nat.le_refl _) (fun b hb _ => hfar b hb), fun wz hz1 hz2 => HGK.out wz (by rw [hss] at hz1; exact hz1) (fun b hb hb2 => (hz2 b (Nat.le_trans HBW.out.size hb) (by rw [hss]; exact hb2)).trans (hfar b hb)), store2_below (HBW.out.trans (HB4.out.mono HBW.out.size)) (by have := HGR.out; omega)⟩
end
theorem digs_len : ∀ (f k v : Nat), v < 10 ^ k -> (digs f v).length <= k
 | 0, k, v, _ => by simp [digs]
 | f + 1, k, v, h => by
  unfold digs
  split
  ·simp
  ·rename_i hv
   cases k with
   | zero => simp at h; omega
   | succ k =>
    have := digs_len f k (v / 10) (by rw [Nat.pow_succ] at h; omega)
    simp; omega
theorem printL_len {v k : Nat} (neg : Bool) (h : v < 10 ^ k) : (printL neg v).length <= k + 1 := by
 have := digs_len v k v h
 unfold printL
 split
 ·simp
 ·cases neg <;> simp <;> omega
theorem textOf_size (l : List Nat) : (textOf l).size = l.length := by
 show (l.map UInt8.ofNat).toArray.size = l.length
 simp
theorem pow_b40 : B32 ^ 40 < 10 ^ 400 := by decide +kernel
theorem bign_small (f : List Int) : (bigNd f).kids = [] /\ (bigNd f).text.size <= 2000 /\ (bigNd f).kind = (if bigB f = true then 3 else 11) := by
 unfold bigNd
 by_cases h : bigB f = true
 ·rw [if_pos h, if_pos h]
  refine ⟨rfl, ?_, rfl⟩
  unfold bigB at h
  simp only [Bool.and_eq_true, List.all_eq_true] at h
  obtain ⟨_, h2, _, h4, _⟩ := h
  have hl : (numMag f).length <= 40 := by
   unfold goodB at h4
   simp only [Bool.or_eq_true, Bool.and_eq_true, decide_eq_true_eq] at h4
   omega
  have hd : Dg B32 (numMag f) := fun x hx => by
   unfold numMag at hx
   obtain ⟨y, hy, rfl⟩ := List.mem_map.1 hx
   have := h2 y (List.mem_of_mem_drop hy)
   unfold limbB at this
   simp only [Bool.and_eq_true, decide_eq_true_eq] at this
   show (nN y).toNat < 4294967296
   omega
  show (textOf (printL (numNeg f) (val B32 (numMag f)))).size <= 2000
  rw [textOf_size]
  have hv : val B32 (numMag f) < 10 ^ 400 := by
   have h1 := val_lt hd
   have h2 : B32 ^ (numMag f).length <= B32 ^ 40 := Nat.pow_le_pow_right (by decide) hl
   have h3 := pow_b40
   exact Nat.lt_of_lt_of_le (Nat.lt_of_lt_of_le h1 h2) (Nat.le_of_lt h3)
  have := printL_len (numNeg f) hv
  omega
 ·rw [if_neg h, if_neg h]
  exact ⟨rfl, by decide, rfl⟩
theorem canon_one {d : Nd} (hk : d.kids = []) (hg : goodG [d] [0] = true) (f : Nat) : canonG [d] [0] (f + 2) = ([d], [0]) := by
 have hm : meetS [d] [-1] [] 0 = ([0], [0]) := by
  unfold meetS
  split
  ·rfl
  ·rfl
 have e1 : followR [d] (f + 2) [0] (start 1) = ([0], [0]) := by
  show followS [d] (f + 2) [0] [-1] [] = _
  rw [followS, if_neg (by decide)]
  show followS [d] (f + 1) (d.kids ++ []) (meetS [d] [-1] [] 0).1 (meetS [d] [-1] [] 0).2 = _
  rw [hm, hk]
  rfl
 unfold canonG
 rw [if_pos hg]
 show ((followR [d] (f + 2) [0] (start 1)).2.map (newNode [d] (followR [d] (f + 2) [0] (start 1)).1), renum (followR [d] (f + 2) [0] (start 1)).1 [0]) = _
 rw [e1]
 have e2 : newNode [d] [0] 0 = d := nd_ext rfl rfl rfl (by show renum [0] d.kids = d.kids; rw [hk]; rfl)
 show ([newNode [d] [0] 0], [0]) = _
 rw [e2]
theorem told_one {D : Int -> Nd} {a : Int} {W rs : List Int} {ns : List Nd} (hok : ∀ x, okD (D x) = true) (hk : (D a).kids = []) (T : Told D [a] W ns rs) (F : Fine ns rs 300001) : canonN ns rs = ([D a], [0]) := by
 have hr : ∀ x, Rch D [a] x -> x = a := fun x h => by
  induction h with
  | root hm => exact List.mem_singleton.1 hm
  | @kid x y _ hy ih => rw [ih, hk] at hy; cases hy
 have T1 : Told D [a] [a] [D a] [0] := by
  have h0 : ∀ i, i < [D a].length -> i = 0 := fun i hi => by simp at hi; omega
  refine ⟨rfl, fun i hi => ?_, fun i hi => ?_, fun i hi => ?_, rfl, fun k hk => ?_, fun i j hi hj _ => .inl ?_⟩
  ·obtain rfl := h0 i hi; exact ⟨rfl, rfl, rfl⟩
  ·obtain rfl := h0 i hi; show (D a).kids.map _ = (D a).kids; rw [hk]; rfl
  ·obtain rfl := h0 i hi; intro k hk'; have : k ∈ (D a).kids := hk'; rw [hk] at this; cases this
  ·obtain rfl := List.mem_singleton.1 hk; simp
  ·rw [h0 i hi, h0 j hj]
 have F1 : Fine [D a] [0] 300001 := ⟨T1.good (fun x _ => hok x), fun d hd => by obtain rfl := List.mem_singleton.1 hd; rw [hk]; exact Nat.zero_le _, by simp, by simp⟩
 have e := told_two (ψ := id) T T1 (by simp) hok (fun x hx => ⟨⟨rfl, rfl, rfl⟩, by simp⟩) (fun x y hx hy e => .inl e) (fun x hx _ => by rw [hr x hx]; exact hk) F F1
 unfold canonN
 rw [e]
 exact canon_one hk F1.good 299999
end Go.Proofs.YtdekkieajffblaaGreatDoor
