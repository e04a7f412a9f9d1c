import Derived.Test.YticimejfjjmikaaGreatDoorSL12
import Derived.Test.YticimejfjjmikaaGreatDoorSG8
import Derived.Test.YticimejfjjmikaaGreatDoorSL3
import Derived.Test.YticimejfjjmikaaGreatDoorSG1
import Derived.Test.YticimejfjjmikaaGreatDoorW20
import Derived.Laws.Cover4
import Derived.Laws.BytesArg
set_option linter.unusedVariables false
set_option linter.unusedSimpArgs false
set_option maxRecDepth 100000
namespace Go.Proofs.YticimejfjjmikaaGreatDoor
open Go.RowKit
section
variable {B : Nat} {v vn : Value} {N : Int} {os : List Ob} {nm : List ByteArray} {F : Nat -> Prop}
def SPutP (B : Nat) (v vn : Value) (N : Int) (F : Nat -> Prop) (w : World) (r : List Int × Int × List Ob × List ByteArray) (e : Ending) (w' : World) : Prop :=
 ∃ ao cap, e = .returned (.tuple #[.slice ao r.1.length cap, .int .i64 r.2.1]) /\ URow w' ao r.1.length cap r.1 /\
   ∃ F', PN B v vn N r.2.2.1 r.2.2.2 F' w' /\ (∀ b, F' b -> F b \/ w.heap.size <= b) /\ Mod F w w' /\ (∀ a, ao = some a -> ¬ F' a.block) /\ (∀ a, ao = some a -> w.heap.size <= a.block)
theorem urow_nil (w : World) : URow w none 0 0 [] := ⟨rfl, Nat.le_refl _, Nat.zero_le _, fun _ => rfl, fun z h => (by cases h), .inl rfl⟩
set_option maxHeartbeats 8000000 in
theorem sput_is (an ar : Option Addr) (nn cn nr cr : Nat) (ns : List Nd) (rs : List Int) (w : World) (h : PN B v vn N os nm F w) (G : GOk w an nn cn ar nr cr ns rs) (hn : nn <= 100) (hnr : nr <= 100) (hB : B <= w.heap.size) (hnm : nm.length <= 900000) (hT : TabsS w) :
  Calls Tryz.prog 46 #[v, vn, GVal an nn cn ar nr cr] w (SPutP B v vn N F w (putR N os nm ns rs)) := by
 have b0 := Ba w (.cells #[.slice an nn cn, .slice ar nr cr] 34)
 have hx := GBox.new 34 w an ar nn cn nr cr
 obtain ⟨c0, c1⟩ := hx.c
 have C := hid (playable_any an ar nn cn nr cr ns rs (w.alloc (.cells #[.slice an nn cn, .slice ar nr cr] 34)) (G.below b0) hn (hT.1.below b0))
 have HB0 := hid b0
 have hlen : ns.length = nn := G.is.nodes.len
 have hrl : rs.length = nr := G.is.roots.len
 have f1 := G.is.nodes.fits
 have f2 := G.is.nodes.most
 have f3 := G.is.roots.fits
 have f4 := G.is.roots.most
 unfold maxLen at f2 f4
 have HH := hid h
 have HL := hid (layB_need ns rs)
 have HNL := hid (needM_le (rs := rs) G.small G.kids (by omega))
 have HN : Hid (layB ns rs = true -> _) := fun h => layB_nodes h G.small G.kids (by omega)
 obtain ⟨bd1, bd2⟩ := h.bd
 obtain ⟨gh, gp, rfl, rfl⟩ := h.ptrs
 have HBB := hid hB
 have HR : Hid (putR N os nm ns rs = if needM ns rs < 0 then ([], 20, os, nm) else if N - (usedL os : Nat) < needM ns rs then ([], 3, os, nm)
  else ((canonN ns rs).2.map (fun i : Int => (putS nm (usedL os) (canonN ns rs).1).ws.getD i.toNat 0), 0, putO N (putS nm (usedL os) (canonN ns rs).1).ws os (canonN ns rs).1, (putS nm (usedL os) (canonN ns rs).1).nm)) := rfl
 obtain ⟨R, hR⟩ : ∃ R, R = putR N os nm ns rs := ⟨_, rfl⟩
 rw [<- hR] at HR ⊢
 have nofail : Hid (∀ (k : Int) W, Below w.heap.size w W -> R = ([], k, os, nm) -> SPutP B (.pointer (some ⟨gh, 0, none⟩)) (.pointer (some ⟨gp, 0, none⟩)) N F w R (.returned (.tuple #[.slice none 0 0, .int .i64 k])) W) := fun k W b e => by
  rw [e]
  exact ⟨none, 0, rfl, urow_nil _, F, HH.out.on b, fun b e => .inl e, Mod.of_below F b, fun a e => (by cases e), fun a e => (by cases e)⟩
 unfold LayableP at C
 unfold GVal at C ⊢
 rw [HL.out] at HR HNL
 clear G hT hx b0 h hB hR
 cases hb : layB ns rs
 ·simp only [hb, Bool.false_eq_true, ↓reduceIte] at C
  have e1 : (if layB ns rs = true then sumN (canonN ns rs).1 else -1) = -1 := by rw [hb]; rfl
  rw [e1, if_pos (by omega)] at HR
  clear HN HL hb HNL
  go_enter Tryz.func46, Tryz.ntmps46
  go_wp2_with (go_at_call 84; (with_reducible refine C.out.mono ?_); rintro e W1 ⟨rfl, b1⟩; have HB1 := hid (Bt (Bt HB0.out b1) (Ba W1 (.cells #[.slice none 0 0, .slice none 0 0] 34))); clear b1)
  go_ret2
  exact nofail.out 20 _ HB1.out HR.out
 simp only [hb, ↓reduceIte] at C
 have e1 : (if layB ns rs = true then sumN (canonN ns rs).1 else -1) = sumN (canonN ns rs).1 := by rw [hb]; rfl
 rw [e1] at HR HNL
 clear e1
 obtain ⟨n1, n2, n3, n4, n5⟩ := HN.out hb
 have CW : Hid (∀ (a1 : Option Addr) (m1 c1 : Nat) (W : World), NRow W a1 m1 c1 (canonN ns rs).1 -> m1 <= 2500 -> Calls Tryz.prog 85 #[.slice a1 m1 c1] W fun e w' => e = .returned (.int .i64 (sumN (canonN ns rs).1)) /\ Below W.heap.size W w') := fun a1 m1 c1 W R hm => pwords_any a1 m1 c1 _ W R (fun d hd => (n1 d hd).1) hm
 have CR : Hid (∀ W, Below w.heap.size w W -> Calls Tryz.prog 86 #[.pointer (some ⟨gh, 0, none⟩)] W fun e w' => e = .returned (.int .i64 (N - (usedL os : Nat))) /\ Below W.heap.size W w') := fun W b => (HH.out.on b).room
 have hz0 : 0 <= sumN (canonN ns rs).1 := sumN_nonneg (fun d hd => of_decide_eq_true (List.all_eq_true.1 n5 d hd))
 rw [if_neg (by omega)] at HR
 have hnl := HNL.out
 obtain ⟨r, hr⟩ : ∃ r : Int, r = N - (usedL os : Nat) := ⟨_, rfl⟩
 have hrr := hr
 rw [<- hr] at CR HR
 have HN1 := hid n1
 have HN4 := hid n4
 have HN5 := hid n5
 clear HN HL hb HNL n1 n4 n5 hr
 obtain ⟨cs, hcs⟩ : ∃ c, c = (canonN ns rs).1 := ⟨_, rfl⟩
 obtain ⟨crs, hcrs⟩ : ∃ c, c = (canonN ns rs).2 := ⟨_, rfl⟩
 rw [<- hcs] at C CW n2 hz0 hnl HN1 HN4 HN5 HR
 rw [<- hcrs] at C n3 HN4 HR
 obtain ⟨z, hz⟩ : ∃ z, z = sumN cs := ⟨_, rfl⟩
 rw [<- hz] at CW hz0 hnl HR
 have HZ := hid hz
 clear hcs hcrs hz
 by_cases hzr : r < z
 ·have er : decide (r < z) = true := decide_eq_true hzr
  rw [if_pos hzr] at HR
  clear HN1 HN4 HN5
  go_enter Tryz.func46, Tryz.ntmps46
  go_wp2_with (first
   | (go_at_call 84; (with_reducible refine C.out.mono ?_); rintro e W1 ⟨a1, m1, k1, a2, m2, k2, rfl, g1, _, b1⟩; have HB1 := hid (Bt (Bt HB0.out b1) (Ba W1 (.cells #[.slice a1 m1 k1, .slice a2 m2 k2] 34))); have hx1 := GBox.new 34 W1 a1 a2 m1 k1 m2 k2; obtain ⟨d0, d1⟩ := hx1.c; have h5 := g1.nodes.len; have C2 := hid (CW.out a1 m1 k1 _ (g1.nodes.below (Ba W1 (.cells #[.slice a1 m1 k1, .slice a2 m2 k2] 34))) (by omega)); clear b1 g1 hx1 h5)
   | (go_at_call 85; (with_reducible refine C2.out.mono ?_); rintro e W2 ⟨rfl, b2⟩; have HB2 := hid (Bt HB1.out b2); have C3 := hid (CR.out W2 HB2.out); clear b2)
   | (go_at_call 86; (with_reducible refine C3.out.mono ?_); rintro e W3 ⟨rfl, b3⟩; have HB3 := hid (Bt HB2.out b3); clear b3))
  go_ret2
  exact nofail.out 3 _ HB3.out HR.out
 have er : decide (r < z) = false := decide_eq_false hzr
 rw [if_neg hzr] at HR
 have hok : PutOk N os nm cs := ⟨fun d hd => (HN1.out d hd).2, fun d hd => (HN1.out d hd).1.c, HN5.out, by have := HZ.out; omega, bd2, by omega⟩
 have HOK := hid hok
 have hobj := hok.objs
 rw [hobj] at HR
 have CA : Hid (∀ (b1 : Nat) (a1 : Option Addr) (m1 c1 : Nat) (W : World), Below w.heap.size w W -> w.heap.size <= b1 -> b1 <= W.heap.size -> cs.length = m1 -> (∀ wx : World, W.heap.size <= wx.heap.size -> (∀ b, b1 <= b -> b < W.heap.size -> wx.heap[b]? = W.heap[b]?) -> NRow wx a1 m1 c1 cs) -> Calls Tryz.prog 87 #[.pointer (some ⟨gh, 0, none⟩), .pointer (some ⟨gp, 0, none⟩), .slice a1 m1 c1] W (AllPost B (.pointer (some ⟨gh, 0, none⟩)) (.pointer (some ⟨gp, 0, none⟩)) N F W (putS nm (usedL os) cs).ws (os ++ objsOf (putS nm (usedL os) cs).ws cs) (putS nm (usedL os) cs).nm)) := fun b1 a1 m1 c1 W hb h1 h2 hl K =>
  layall_any a1 m1 c1 cs W b1 (HH.out.on hb) HOK.out (fun d hd => (HN1.out d hd).1) (fun b e => by have := (HH.out.ge b e).2; omega) h2 hl K (by omega) (Nat.le_trans HBB.out hb.size) hnm
 have HWL : Hid ((putS nm (usedL os) cs).ws.length = cs.length) := by
  have := putS_len (nm := nm) (a := usedL os) (cs := cs) cs.length (Nat.le_refl _)
  rw [List.take_length] at this
  exact this
 have HWU : Hid (∀ z ∈ (putS nm (usedL os) cs).ws, U64 z) := by
  have := putS_u (nm := nm) (a := usedL os) (cs := cs) cs.length (Nat.le_refl _)
  rw [List.take_length] at this
  exact this
 have HRP : Hid (∀ k ∈ crs, 0 <= k /\ k < cs.length) := places_rng (goodG_parts HN4.out).2
 obtain ⟨ws, hws⟩ : ∃ x, x = (putS nm (usedL os) cs).ws := ⟨_, rfl⟩
 obtain ⟨nm2, hnm2⟩ : ∃ x, x = (putS nm (usedL os) cs).nm := ⟨_, rfl⟩
 obtain ⟨os2, hos2⟩ : ∃ x, x = os ++ objsOf ws cs := ⟨_, rfl⟩
 rw [<- hws] at CA HWL HWU HR
 rw [<- hnm2] at CA HR
 rw [<- hos2] at CA HR
 have HF : Hid (∀ b, F b -> b < w.heap.size) := fun b e => (HH.out.ge b e).2
 unfold AllPost at CA
 clear hok hobj hws hnm2 hos2 HN1 HN4 HN5 nofail HOK
 go_enter Tryz.func46, Tryz.ntmps46
 go_wp2_with (first
  | (go_at_call 84; (with_reducible refine C.out.mono ?_); rintro e W1 ⟨a1, m1, k1, a2, m2, k2, rfl, g1, gk1, b1⟩; have HBC := hid (Ba W1 (.cells #[.slice a1 m1 k1, .slice a2 m2 k2] 34)); have HB1 := hid (Bt (Bt HB0.out b1) HBC.out); have hx1 := GBox.new 34 W1 a1 a2 m1 k1 m2 k2; have HX1 := hid hx1; obtain ⟨d0, d1⟩ := hx1.c; have h5 := g1.nodes.len; have h6 := g1.roots.len; have h7 := g1.roots.fits; have h8 := g1.roots.most; have h9 := g1.nodes.fits; have h10 := g1.nodes.most; have C2 := hid (CW.out a1 m1 k1 _ (g1.nodes.below HBC.out) (by omega)); have HGK := hid gk1; have HSB := hid b1.size; clear b1 g1 gk1 hx1)
  | (go_at_call 85; (with_reducible refine C2.out.mono ?_); rintro e W2 ⟨rfl, b2⟩; have HB2 := hid (Bt HB1.out b2); have HBL2 := hid b2; have C3 := hid (CR.out W2 HB2.out); clear b2)
  | (go_at_call 86; (with_reducible refine C3.out.mono ?_); rintro e W3 ⟨rfl, b3⟩; have HB3 := hid (Bt HB2.out b3); have HBL3 := hid (Bt HBL2.out b3); have hx3 := HX1.out.on HBL3.out; have HX3 := hid hx3; obtain ⟨e0, e1⟩ := hx3.c; have hs3 : Hid (W1.heap.size + 1 <= W3.heap.size) := (by have := HBL3.out.size; rw [size_alloc] at this; exact this); have hag : Hid (∀ b, b < W1.heap.size -> W3.heap[b]? = W1.heap[b]?) := (fun b hb => (HBL3.out.block b (by rw [size_alloc]; omega)).trans (HBC.out.block b hb)); have C4 := hid (CA.out (w.heap.size + 1) a1 m1 k1 W3 HB3.out (by omega) (by have := HB3.out.size; have := hs3.out; have := HSB.out; rw [size_alloc] at this; omega) h5 (fun wx hz1 hz2 => (HGK.out wx (by have := hs3.out; omega) (fun b q1 q2 => by rw [size_alloc] at q1; rw [hz2 b (by omega) (by have := hs3.out; omega)]; exact hag.out b q2)).nodes)); clear b3 hx3)
  | (go_at_call 87; (with_reducible refine C4.out.mono ?_); rintro e W4 ⟨gw, rfl, q1, q2, F4, q3, q4, q5, q6⟩; have HGW := hid q1; have HROW := hid q2; have HP4 := hid q3; have HF4 := hid q4; have HO4 := hid q5; have HM4 := hid q6; have hx4 := (q6.block W1.heap.size (by have := hs3.out; omega) (fun e => by have := HF.out _ e; have := HB0.out.size; have := HSB.out; rw [size_alloc] at *; omega)).trans HX3.out; have HX4 := hid hx4; have y1 : W4.cell? ⟨W1.heap.size, 1, none⟩ = some (.slice a2 m2 k2) := blk_cell hx4 1; clear q1 q2 q3 q4 q5 q6 hx4))
 unfold maxLen at h8 h10
 have HGI : Hid (IRow W4 a2 m2 k2 crs) := by
  refine (HGK.out W4 (by have := hs3.out; have := HM4.out.size; omega) (fun b q1 q2 => ?_)).roots
  rw [size_alloc] at q1
  rw [HM4.out.block b (by have := hs3.out; omega) (fun e => by have := HF.out _ e; omega)]
  exact hag.out b q2
 have HWC : Hid (∀ W, Below W4.heap.size W4 W -> ∀ k, k < ws.length -> W.cell? ⟨gw, k, none⟩ = some (.int .u64 (ws.getD k 0))) := fun W b k hk => by
  rw [b.cell (p := ⟨gw, k, none⟩) (Array.getElem?_eq_some_iff.1 HROW.out).1, blk_cell HROW.out, List.getElem?_toArray, uz_get hk]
 have hwl := HWL.out
 have HBW4 : Hid (w.heap.size <= W4.heap.size) := Nat.le_trans HB3.out.size HM4.out.size
 obtain ⟨nw, hnw⟩ : ∃ n, n = ws.length := ⟨_, rfl⟩
 rw [<- hnw] at hwl HWC ⊢
 obtain ⟨f, hf⟩ : ∃ f : Int -> Int, f = fun i : Int => ws.getD i.toNat 0 := ⟨_, rfl⟩
 have HFE := hid hf
 have HFU : Hid (∀ l : List Int, ∀ z ∈ l.map f, U64 z) := fun l z hz => by
  obtain ⟨i, _, rfl⟩ := List.mem_map.1 hz
  rw [HFE.out]
  show U64 (ws.getD i.toNat 0)
  by_cases hi : i.toNat < ws.length
  ·exact HWU.out _ (getD_in_f hi)
  ·rw [List.getD_eq_getElem?_getD, List.getElem?_eq_none (by omega)]; exact ⟨by decide, by decide⟩
 rw [<- hf] at HR
 have H5 := hid h5
 have H6 := hid h6
 have HW2 := hid hwl
 have hm2 : m2 <= 100 := by omega
 clear e0 e1 d0 d1 hnw hf h5 h6 hwl hrr n3 hlen hrl
 go_loopw [11, 13, 35] (fun v _ i wr => ∃ q : Nat, q <= m2 /\ i = .int .i64 q /\ Hid (wr.ownsRow W4.heap.size 44 1 v q (uz ((crs.take q).map f)) /\ Below W4.heap.size W4 wr)) (fun _ _ i _ => m2 - (intOf i).toNat)
 case atStart => exact ⟨0, Nat.zero_le _, rfl, World.ownsRow_nil _ _ _ _, Below.refl _ _⟩
 case round =>
  obtain ⟨q, hq, rfl, hI⟩ := hrel
  have HOQ := hid hI.out.1
  have HBQ := hid hI.out.2
  clear hI
  by_cases hlt : q < m2
  ·have h5 := H5.out
   have h6 := H6.out
   have hwl := HW2.out
   obtain ⟨b, o, rfl, hlb, hc⟩ := (HGI.out.below HBQ.out).some (by omega)
   have c5 := hc q hlt
   have hin := HRP.out _ (getD_in_f (l := crs) (i := q) (by omega))
   obtain ⟨m, hm⟩ : ∃ m : Nat, crs.getD q 0 = (m : Int) := ⟨(crs.getD q 0).toNat, by omega⟩
   have HT := hid (map_take f (l := crs) (q := q) (by omega))
   have HFM : Hid (f (m : Int) = ws.getD m 0) := by unfold Hid; rw [HFE.out]; rfl
   rw [hm] at c5 hin HT
   rw [HFM.out] at HT
   have x1 := HWC.out wr HBQ.out m (by omega)
   obtain ⟨zx, hzx⟩ : ∃ z, z = ws.getD m 0 := ⟨_, rfl⟩
   rw [<- hzx] at x1 HT
   have hzu : Hid (U64 zx) := by unfold Hid; rw [hzx]; have := HWL.out; exact HWU.out _ (getD_in_f (by omega))
   have HO1 := hid (uown_on HOQ.out (Ba wr (.cells #[.int .u64 zx] 44)))
   have HU1 := hid (urow_one (blk_new wr #[.int .u64 zx] 44) hzu.out)
   have HBA := hid (HBQ.out.trans ((Ba wr (.cells #[.int .u64 zx] 44)).mono HBQ.out.size))
   have HSA := hid HBA.out.size
   have hmn : m < nw := by omega
   clear hc hm hzx h5 h6 hwl hin
   go_wp2_with (at_builtin; refine appU rfl _ _ 23 rfl W4.heap.size 44 Tryz.underlying23 info_word _ q ((crs.take q).map f) rfl HO1.out (some ⟨wr.heap.size, 0, none⟩) 1 1 [zx] rfl HU1.out (by omega) HSA.out ?_; intro v2 w2 ho2 hg2)
   have HE : Hid (Below W4.heap.size W4 w2) := HBA.out.grown hg2 HSA.out (fun b hb => (HO1.out.lt b hb).1)
   refine ⟨⟨q + 1, by omega, by go_num, ?_, HE.out⟩, by simp [intOf] <;> omega⟩
   rw [HT.out]; exact ho2
  ·obtain rfl : m2 = q := by omega
   have hoq := HOQ.out
   rw [List.take_of_length_le (by rw [H6.out]; exact Nat.le_refl _)] at hoq
   have hml : (crs.map f).length = m2 := by rw [List.length_map]; exact H6.out
   rw [<- hml] at hoq
   obtain ⟨ao, cap, hv, hu⟩ := urow_own hoq (HFU.out crs)
   rw [hml] at hv hu
   subst hv
   have HU := hid hu
   have HLT : Hid (∀ a, ao = some a -> W4.heap.size <= a.block) := fun a e => (hoq.lt a.block (by rw [e]; rfl)).1
   have HML := hid hml
   clear hoq hu hml
   go_wp2_with fail
   go_ret2
   rw [HR.out]
   unfold SPutP
   simp only
   rw [HML.out]
   refine ⟨ao, cap, rfl, HU.out, F4, HP4.out.on HBQ.out, fun b e => ?_, ((Mod.of_below F HB3.out).trans HM4.out (fun _ _ e => e)).trans (Mod.of_below F HBQ.out) (fun _ _ e => e), fun a e hf => ?_, fun a e => ?_⟩
   ·rcases HF4.out b e with e | e
    ·exact .inl e
    ·exact .inr (Nat.le_trans HB3.out.size e)
   ·have h1 := HLT.out a e
    have h2 := (HP4.out.ge _ hf).2
    omega
   ·have h1 := HLT.out a e
    have := HBW4.out
    omega
theorem sput_any (an ar : Option Addr) (nn cn nr cr : Nat) (ns : List Nd) (rs : List Int) (w : World) (h : PN B v vn N os nm F w) (G : GOk w an nn cn ar nr cr ns rs) (hn : nn <= 100) (hnr : nr <= 100) (hB : B <= w.heap.size) (hnm : nm.length <= 900000) (hT : TabsS w) :
  Calls Tryz.prog 46 #[v, vn, GVal an nn cn ar nr cr] w fun e w' => ∃ ao cap, e = .returned (.tuple #[.slice ao (putR N os nm ns rs).1.length cap, .int .i64 (putR N os nm ns rs).2.1]) /\ URow w' ao (putR N os nm ns rs).1.length cap (putR N os nm ns rs).1 /\
   ∃ F', PN B v vn N (putR N os nm ns rs).2.2.1 (putR N os nm ns rs).2.2.2 F' w' /\ (∀ b, F' b -> F b \/ w.heap.size <= b) /\ Mod F w w' /\ (∀ a, ao = some a -> ¬ F' a.block) /\ (∀ a, ao = some a -> w.heap.size <= a.block) :=
 sput_is an ar nn cn nr cr ns rs w h G hn hnr hB hnm hT
end
def bareV (d : Nd) : Value := .agg #[.int .i64 d.kind, .int .i64 d.num, .string d.text, .slice none 0 0]
def NZ (g : Nat) (w : World) : Prop := w.heap[g]? = some (.cells #[.int .i64 0, .int .i64 0, .string ⟨#[]⟩, .slice none 0 0] 54 (0, 0))
theorem NZ.c {g : Nat} {w : World} (h : NZ g w) : w.cell? ⟨g, 0, none⟩ = some (.int .i64 0) /\ w.cell? ⟨g, 1, none⟩ = some (.int .i64 0) /\ w.cell? ⟨g, 2, none⟩ = some (.string ⟨#[]⟩) /\ w.cell? ⟨g, 3, none⟩ = some (.slice none 0 0) /\ w.frozen? ⟨g, 0, none⟩ = false /\ w.frozen? ⟨g, 1, none⟩ = false /\ w.frozen? ⟨g, 2, none⟩ = false /\ w.frozen? ⟨g, 3, none⟩ = false :=
 ⟨blk_cell h 0, blk_cell h 1, blk_cell h 2, blk_cell h 3, blk_free h 0, blk_free h 1, blk_free h 2, blk_free h 3⟩
theorem NZ.new (w : World) : NZ w.heap.size (w.alloc (.cells #[.int .i64 0, .int .i64 0, .string ⟨#[]⟩, .slice none 0 0] 54)) := blk_new _ _ _
theorem NZ.on {g : Nat} {w w' : World} (h : NZ g w) (hb : Below w.heap.size w w') : NZ g w' := (hb.block g (Array.getElem?_eq_some_iff.1 h).1).trans h
theorem void_any (w : World) : Calls Tryz.prog 127 #[] w fun e w' => e = .returned (bareV voidN) /\ Below w.heap.size w w' := by
 have hst := blk_new w #[.int .i64 11, .int .i64 0, .string ⟨#[]⟩, .slice none 0 0] 54
 have t0 := blk_cell hst 0
 have t1 := blk_cell hst 1
 have t2 := blk_cell hst 2
 have t3 := blk_cell hst 3
 have HB := hid (Ba w (.cells #[.int .i64 11, .int .i64 0, .string ⟨#[]⟩, .slice none 0 0] 54))
 clear hst
 go_enter Tryz.func127, Tryz.ntmps127
 go_wp2_with fail
 (try simp only [Exit.inBlock, Exit.then]); refine bodyPost_ret (by simp [results, Tryz.results127, go_sem, t0, t1, t2, t3]; rfl) rfl ?_
 exact ⟨rfl, HB.out⟩
def uptoB (most x : Int) : Bool := decide (nK x = 1) && (decide (0 <= nN x) && decide (nN x <= most))
theorem upto_any (most x : Int) (hx : U64 x) (w : World) : Calls Tryz.prog 157 #[.int .i64 most, .int .u64 x] w fun e w' => ∃ n, e = .returned (.tuple #[.int .i64 n, .bool (uptoB most x)]) /\ (uptoB most x = true -> n = nN x) /\ w' = w := by
 have C := hid (int_any x hx w)
 have e1 : isR 1 x = decide (nK x = 1) := rfl
 have e2 : hasR 1 x = if nK x = 1 then nN x else 0 := rfl
 have HU : Hid (uptoB most x = (decide (nK x = 1) && (decide (0 <= nN x) && decide (nN x <= most)))) := rfl
 rw [e1, e2] at C
 obtain ⟨k, hk⟩ : ∃ k, k = nK x := ⟨_, rfl⟩
 obtain ⟨n, hn⟩ : ∃ k, k = nN x := ⟨_, rfl⟩
 rw [<- hk, <- hn] at C HU
 rw [<- hn]
 clear hk hn hx e1 e2
 by_cases h1 : k = 1
 ·subst h1
  rw [if_pos rfl] at C
  by_cases h2 : 0 <= n
  ·have d2 : decide (0 <= n) = true := decide_eq_true h2
   by_cases h3 : n <= most
   ·have d3 : decide (n <= most) = true := decide_eq_true h3
    rw [d2, d3] at HU
    go_enter Tryz.func157, Tryz.ntmps157
    go_wp2_with (go_at_call 128; (with_reducible refine C.out.mono ?_); rintro e W1 ⟨rfl, hw1⟩; rw [hw1]; clear hw1)
    go_ret2
    exact ⟨n, by rw [HU.out]; rfl, fun _ => rfl, rfl⟩
   ·have d3 : decide (n <= most) = false := decide_eq_false h3
    rw [d2, d3] at HU
    go_enter Tryz.func157, Tryz.ntmps157
    go_wp2_with (go_at_call 128; (with_reducible refine C.out.mono ?_); rintro e W1 ⟨rfl, hw1⟩; rw [hw1]; clear hw1)
    go_ret2
    exact ⟨n, by rw [HU.out]; rfl, fun _ => rfl, rfl⟩
  ·have d2 : decide (0 <= n) = false := decide_eq_false h2
   rw [d2] at HU
   go_enter Tryz.func157, Tryz.ntmps157
   go_wp2_with (go_at_call 128; (with_reducible refine C.out.mono ?_); rintro e W1 ⟨rfl, hw1⟩; rw [hw1]; clear hw1)
   go_ret2
   exact ⟨n, by rw [HU.out]; rfl, fun _ => rfl, rfl⟩
 ·rw [if_neg h1, decide_eq_false h1] at C
  rw [decide_eq_false h1, Bool.false_and] at HU
  clear h1
  go_enter Tryz.func157, Tryz.ntmps157
  go_wp2_with (go_at_call 128; (with_reducible refine C.out.mono ?_); rintro e W1 ⟨rfl, hw1⟩; rw [hw1]; clear hw1)
  go_ret2
  exact ⟨0, by rw [HU.out]; rfl, fun h => (by rw [HU.out] at h; cases h), rfl⟩
def KPost (d : Nd) (ao : Option Addr) (w : World) (e : Ending) (w' : World) : Prop := ∃ ak nk ck, e = .returned (.tuple #[bareV d, .slice ak nk ck]) /\ URow w' ak nk ck d.kids /\ (∀ a, ak = some a -> ∃ a0, ao = some a0 /\ a0.block = a.block) /\ Below w.heap.size w w'
theorem unil (w : World) : URow w none 0 0 [] := ⟨rfl, Nat.le_refl _, Nat.zero_le _, fun _ => rfl, fun z h => (by cases h), .inl rfl⟩
theorem KPost.void {ao : Option Addr} {w w' : World} (hb : Below w.heap.size w w') : KPost voidN ao w (.returned (.tuple #[bareV voidN, .slice none 0 0])) w' := ⟨none, 0, 0, rfl, unil _, fun a e => (by cases e), hb⟩
theorem pair_any (ao : Option Addr) (n cap : Nat) (f : List Int) (w : World) (R : URow w ao n cap f) (hn : n <= 5000000) : Calls Tryz.prog 119 #[.slice ao n cap] w (KPost (if f.length = 2 then ⟨7, 0, ByteArray.empty, f⟩ else voidN) ao w) := by
 have hl := R.len
 have hft := R.fits
 have hmx := R.most
 unfold maxLen at hmx
 have HR := hid R
 have hz := NZ.new w
 have HB := hid (Ba w (.cells #[.int .i64 0, .int .i64 0, .string ⟨#[]⟩, .slice none 0 0] 54))
 rw [hl]
 by_cases h2 : n = 2
 ·rw [if_pos h2]
  have hst := blk_new w #[.int .i64 7, .int .i64 0, .string ⟨#[]⟩, .slice none 0 0] 54
  have t0 := blk_cell hst 0
  have t1 := blk_cell hst 1
  have t2 := blk_cell hst 2
  have t3 := blk_cell hst 3
  have HB2 := hid (Ba w (.cells #[.int .i64 7, .int .i64 0, .string ⟨#[]⟩, .slice none 0 0] 54))
  subst h2
  clear hz hst R hl
  go_enter Tryz.func119, Tryz.ntmps119
  go_wp2_with fail
  (try simp only [Exit.inBlock, Exit.then]); refine bodyPost_ret (by simp [results, Tryz.results119, go_sem, t0, t1, t2, t3]; rfl) rfl ?_
  exact ⟨ao, 2, cap, rfl, HR.out.on HB2.out, fun a e => ⟨a, e, rfl⟩, HB2.out⟩
 ·rw [if_neg h2]
  have CV : Hid (∀ W, Calls Tryz.prog 127 #[] W fun e w' => e = .returned (bareV voidN) /\ Below W.heap.size W w') := fun W => void_any W
  have e2 : ((n : Int) != 2) = true := by simp; omega
  have HZ := hid hz
  have eb : bareV voidN = .agg #[.int .i64 11, .int .i64 0, .string ⟨#[]⟩, .slice none 0 0] := rfl
  rw [eb] at CV
  clear hz R hl h2 eb
  go_enter Tryz.func119, Tryz.ntmps119
  go_wp2_with (go_at_call 127; (with_reducible refine (CV.out _).mono ?_); rintro e W1 ⟨rfl, b1⟩; have hz1 := HZ.out.on b1; obtain ⟨c0, c1, c2, c3, f0, f1, f2, f3⟩ := hz1.c; have hst := store4 (v1 := .int .i64 11) (v2 := .int .i64 0) (v3 := .string ⟨#[]⟩) (v4 := .slice none 0 0) hz1; have t0 := blk_cell hst 0; have t1 := blk_cell hst 1; have t2 := blk_cell hst 2; have t3 := blk_cell hst 3; have HB2 := hid (store4_below (v1 := .int .i64 11) (v2 := .int .i64 0) (v3 := .string ⟨#[]⟩) (v4 := .slice none 0 0) (Bt HB.out b1) (Nat.le_refl w.heap.size)); clear b1 hz1 hst)
  (try simp only [Exit.inBlock, Exit.then]); refine bodyPost_ret (by simp [results, Tryz.results119, go_sem, t0, t1, t2, t3]; rfl) rfl ?_
  exact KPost.void HB2.out
theorem vector_any (ao : Option Addr) (n cap : Nat) (f : List Int) (w : World) (R : URow w ao n cap f) (hn : n <= 5000000) : Calls Tryz.prog 121 #[.slice ao n cap] w (KPost (if f.length <= 1024 then ⟨8, 0, ByteArray.empty, f⟩ else voidN) ao w) := by
 have hl := R.len
 have hft := R.fits
 have hmx := R.most
 unfold maxLen at hmx
 have HR := hid R
 have hz := NZ.new w
 have HB := hid (Ba w (.cells #[.int .i64 0, .int .i64 0, .string ⟨#[]⟩, .slice none 0 0] 54))
 rw [hl]
 by_cases h2 : n <= 1024
 ·rw [if_pos h2]
  have e2 : decide ((1024 : Int) < n) = false := by simp; omega
  have hst := blk_new w #[.int .i64 8, .int .i64 0, .string ⟨#[]⟩, .slice none 0 0] 54
  have t0 := blk_cell hst 0
  have t1 := blk_cell hst 1
  have t2 := blk_cell hst 2
  have t3 := blk_cell hst 3
  have HB2 := hid (Ba w (.cells #[.int .i64 8, .int .i64 0, .string ⟨#[]⟩, .slice none 0 0] 54))
  clear hz hst R hl
  go_enter Tryz.func121, Tryz.ntmps121
  go_wp2_with fail
  (try simp only [Exit.inBlock, Exit.then]); refine bodyPost_ret (by simp [results, Tryz.results121, go_sem, t0, t1, t2, t3]; rfl) rfl ?_
  exact ⟨ao, n, cap, rfl, HR.out.on HB2.out, fun a e => ⟨a, e, rfl⟩, HB2.out⟩
 ·rw [if_neg h2]
  have CV : Hid (∀ W, Calls Tryz.prog 127 #[] W fun e w' => e = .returned (bareV voidN) /\ Below W.heap.size W w') := fun W => void_any W
  have e2 : decide ((1024 : Int) < n) = true := by simp; omega
  have HZ := hid hz
  have eb : bareV voidN = .agg #[.int .i64 11, .int .i64 0, .string ⟨#[]⟩, .slice none 0 0] := rfl
  rw [eb] at CV
  clear hz R hl h2 eb
  go_enter Tryz.func121, Tryz.ntmps121
  go_wp2_with (go_at_call 127; (with_reducible refine (CV.out _).mono ?_); rintro e W1 ⟨rfl, b1⟩; have hz1 := HZ.out.on b1; obtain ⟨c0, c1, c2, c3, f0, f1, f2, f3⟩ := hz1.c; have hst := store4 (v1 := .int .i64 11) (v2 := .int .i64 0) (v3 := .string ⟨#[]⟩) (v4 := .slice none 0 0) hz1; have t0 := blk_cell hst 0; have t1 := blk_cell hst 1; have t2 := blk_cell hst 2; have t3 := blk_cell hst 3; have HB2 := hid (store4_below (v1 := .int .i64 11) (v2 := .int .i64 0) (v3 := .string ⟨#[]⟩) (v4 := .slice none 0 0) (Bt HB.out b1) (Nat.le_refl w.heap.size)); clear b1 hz1 hst)
  (try simp only [Exit.inBlock, Exit.then]); refine bodyPost_ret (by simp [results, Tryz.results121, go_sem, t0, t1, t2, t3]; rfl) rfl ?_
  exact KPost.void HB2.out
def kz (k : IntKind) (l : List Int) : List Value := l.map (Value.int k)
theorem kz_append (k : IntKind) (a b : List Int) : kz k (a ++ b) = kz k a ++ kz k b := by simp [kz]
theorem info_u8' : (Tryz.prog.info? 5).map (fun i => (i.zero, i.size, i.bytes)) = some (some (.int .u8 0), 1, 1) := by kernel_rfl
theorem info_i32' : (Tryz.prog.info? 21).map (fun i => (i.zero, i.size, i.bytes)) = some (some (.int .i32 0), 1, 4) := by kernel_rfl
theorem appK {P : Program} {w : World} {ops : Array Oper} {rest : List Oper} {o : Oper} {a : Act} {Q : Exit -> Act -> World -> Prop} (k : IntKind) (by_ : Nat) (hby8 : by_ <= 8) (hgd : o.guard = none) (s x : Operand) (t : TypeId) (ho : o.op = .call { callee := .builtin .append, args := #[s, x], argTypes := #[t, t] })
  (base : Nat) (e : TypeId) (ht : P.underlying t = some (.slice e)) (hi : (P.info? e).map (fun i => (i.zero, i.size, i.bytes)) = some (some (.int k 0), 1, by_))
  (v : Value) (n : Nat) (l : List Int) (hs : a.eval s = v) (hown : w.ownsRow base e 1 v n (kz k l))
  (ad : Addr) (c : Nat) (d : Int) (hx : a.eval x = .slice (some ad) 1 c) (hd : w.cell? ad = some (.int k d)) (hsm : n <= 10000000) (hbase : base <= w.heap.size)
  (h : ∀ g cap w', w'.ownsRow base e 1 (.slice (some ⟨g, 0, none⟩) (n + 1) cap) (n + 1) (kz k (l ++ [d])) -> w.grownBy w' v.ownBlock -> (v.ownBlock = some g \/ g = w.heap.size) -> g < w'.heap.size -> wpList P ops Q rest (a.put o.dst (.slice (some ⟨g, 0, none⟩) (n + 1) cap)) w') :
  wpList P ops Q (o :: rest) a w := by
 obtain ⟨i0, hi0, hz0, hz1, hz2⟩ : ∃ i0, P.info? e = some i0 /\ i0.zero = some (.int k 0) /\ i0.size = 1 /\ i0.bytes = by_ := by
  cases h : P.info? e with
  | none => rw [h] at hi; cases hi
  | some i => rw [h] at hi; simp at hi; exact ⟨i, rfl, hi.1, hi.2.1, hi.2.2⟩
 refine wpList_append_lies w hgd s x t ho base e i0 (.int k 0) 1 by_ ht hi0 hz0 hz1 hz2 rfl (by decide) v n (kz k l) hs hown ad 1 c [.int k d] hx rfl ?_ ?_ (by decide) (by unfold maxLen; omega) ?_ hbase w.heap.size rfl ?_
 ·intro j u hj
  match j, hj with
  | 0, hj => simp at hj; subst hj; simpa [Addr.add] using hd
 ·intro u hu; simp at hu; subst hu; rfl
 ·have : (n + 1) * by_ <= 10000001 * 8 := Nat.mul_le_mul (by omega) hby8
  omega
 ·intro g cap w' h1 h2 h3 h4
  refine h g cap w' ?_ h2 h3 h4
  rw [kz_append]; exact h1
theorem kz_get {k : IntKind} {l : List Int} {i : Nat} (h : i < l.length) : (kz k l)[i]? = some (.int k (l.getD i 0)) := by
 unfold kz
 rw [List.getElem?_map, List.getD_eq_getElem?_getD, List.getElem?_eq_getElem h]; rfl
theorem kz_cell {k : IntKind} {w : World} {base : Nat} {e : TypeId} {v : Value} {l : List Int} (h : w.ownsRow base e 1 v l.length (kz k l)) : (v = .slice none 0 0 /\ l = []) \/ ∃ g cap, v = .slice (some ⟨g, 0, none⟩) l.length cap /\ ∀ j, j < l.length -> w.cell? ((⟨g, 0, none⟩ : Addr).add j) = some (.int k (l.getD j 0)) := by
 rcases h.2 with ⟨e1, e2⟩ | ⟨g, cap, cur, e1, e2, e3, e4, e5, e6, e7⟩
 ·exact .inl ⟨e1, List.length_eq_zero_iff.1 e2⟩
 ·refine .inr ⟨g, cap, e1, fun j hj => ?_⟩
  have hc : w.cell? ⟨g, j, none⟩ = some (.int k (l.getD j 0)) := by
   rw [blk_cell e3, <- kz_get hj, <- e7, List.getElem?_take, if_pos (by omega)]
   simp
  unfold Addr.add
  by_cases h0 : j = 0
  ·subst h0; simpa using hc
  ·rw [if_neg h0]; simpa using hc
theorem conv_bytes {w : World} {base : Nat} {v : Value} {l : List Int} (h : w.ownsRow base 5 1 v l.length (kz .u8 l)) (hb : ∀ x ∈ l, 0 <= x /\ x < 256) : (convert 123 9 v).run Tryz.prog w = .ok (.string (textOf (l.map Int.toNat))) w := by
 rcases kz_cell h with ⟨rfl, rfl⟩ | ⟨g, cap, rfl, hc⟩
 ·exact run_convert_bytes_nil (P := Tryz.prog) w 123 5 Tryz.underlying123 Tryz.underlying5 0 0 9 Tryz.underlying9
 ·have hl : ((l.map Int.toNat).map UInt8.ofNat).length = l.length := by simp
  have := run_convert_bytes_back (P := Tryz.prog) w 123 9 5 ⟨g, 0, none⟩ cap ((l.map Int.toNat).map UInt8.ofNat) Tryz.underlying123 Tryz.underlying5 Tryz.underlying9 (fun j hj => by
   rw [hl] at hj
   rw [hc j hj]
   have hx := hb _ (getD_in_f hj)
   have e : ((l.map Int.toNat).map UInt8.ofNat)[j].toNat = (l.getD j 0).toNat := by
    rw [List.getElem_map, List.getElem_map, UInt8.toNat_ofNat', List.getD_eq_getElem?_getD, List.getElem?_eq_getElem hj]
    rw [List.getD_eq_getElem?_getD, List.getElem?_eq_getElem hj] at hx
    simp only [Option.getD_some] at hx ⊢
    omega
   rw [e]
   congr 2
   omega)
  rw [hl] at this
  exact this
theorem runes_bs : ∀ (ns : List Int) (s : ByteArray), bs (ns.foldl (fun r n => r ++ Utf8.encode n) s) = bs s ++ ns.flatMap (fun n => bs (Utf8.encode n))
 | [], s => by simp
 | n :: ns, s => by
  rw [List.foldl_cons, runes_bs ns, bs_append, List.flatMap_cons, List.append_assoc]
theorem conv_runes {w : World} {base : Nat} {v : Value} {l : List Int} (h : w.ownsRow base 21 1 v l.length (kz .i32 l)) : (convert 214 9 v).run Tryz.prog w = .ok (.string (textOf (l.flatMap (fun n => bs (Utf8.encode n))))) w := by
 have key : ∀ l : List Int, runesBytes l = textOf (l.flatMap (fun n => bs (Utf8.encode n))) := fun l => by
  rw [<- textOf_bs (runesBytes l)]
  unfold runesBytes
  rw [runes_bs]
  congr 1
 rcases kz_cell h with ⟨rfl, rfl⟩ | ⟨g, cap, rfl, hc⟩
 ·exact run_convert_runes_nil (P := Tryz.prog) w 214 9 21 0 0 Tryz.underlying214 Tryz.underlying21 Tryz.underlying9
 ·have := run_convert_runes (P := Tryz.prog) w 214 9 21 ⟨g, 0, none⟩ l.length cap l (Nat.le_refl _) Tryz.underlying214 Tryz.underlying21 Tryz.underlying9 hc
  rw [List.take_length, key] at this
  exact this
end Go.Proofs.YticimejfjjmikaaGreatDoor
