import Derived.Test.YticimejfjjmikaaGreatDoorSA1
import Derived.Test.YticimejfjjmikaaGreatDoorW40
import Derived.Test.YticimejfjjmikaaGreatDoorV4
import Derived.Test.YticimejfjjmikaaGreatDoorSL4
set_option linter.unusedVariables false
set_option linter.unusedSimpArgs false
set_option maxRecDepth 100000
namespace Go.Proofs.YticimejfjjmikaaGreatDoor
open Go.RowKit
structure LA (g : Nat) (w : World) : Prop where
 k : w.heap[g]? = some (.cells #[.int .i64 1, .int .i64 1] 3 (0, 0))
 n : w.heap[g + 1]? = some (.cells #[.int .i64 7, .int .i64 0, .string ⟨#[]⟩, .slice (some ⟨g, 0, none⟩) 2 2, .int .i64 3, .int .i64 0, .string ⟨#[49]⟩, .slice none 0 0] 54 (0, 0))
 r : w.heap[g + 1 + 1]? = some (.cells #[.int .i64 0] 3 (0, 0))
 b : w.heap[g + 1 + 1 + 1]? = some (.cells #[.slice (some ⟨g + 1, 0, none⟩) 2 2, .slice (some ⟨g + 1 + 1, 0, none⟩) 1 1] 34 (0, 0))
theorem LA.lt {g : Nat} {w : World} (h : LA g w) : g + 4 <= w.heap.size := (Array.getElem?_eq_some_iff.1 h.b).1
theorem LA.keep {g : Nat} {w w' : World} (h : LA g w) (hb : ∀ b, g <= b -> b < g + 4 -> w'.heap[b]? = w.heap[b]?) : LA g w' :=
 ⟨(hb g (by omega) (by omega)).trans h.k, (hb (g + 1) (by omega) (by omega)).trans h.n, (hb (g + 1 + 1) (by omega) (by omega)).trans h.r, (hb (g + 1 + 1 + 1) (by omega) (by omega)).trans h.b⟩
theorem LA.on {g : Nat} {w w' : World} (h : LA g w) (hb : Below w.heap.size w w') : LA g w' := h.keep (fun b h1 h2 => hb.block b (by have := h.lt; omega))
theorem LA.mod {g : Nat} {F : Nat -> Prop} {w w' : World} (h : LA g w) (hm : Mod F w w') (hF : ∀ b, F b -> b < g \/ g + 4 <= b) : LA g w' := h.keep (fun b h1 h2 => hm.block b (by have := h.lt; omega) (fun e => by have := hF b e; omega))
theorem LA.new (W : World) : LA W.heap.size ((((W.alloc (.cells #[.int .i64 1, .int .i64 1] 3)).alloc (.cells #[.int .i64 7, .int .i64 0, .string ⟨#[]⟩, .slice (some ⟨W.heap.size, 0, none⟩) 2 2, .int .i64 3, .int .i64 0, .string ⟨#[49]⟩, .slice none 0 0] 54)).alloc (.cells #[.int .i64 0] 3)).alloc (.cells #[.slice (some ⟨W.heap.size + 1, 0, none⟩) 2 2, .slice (some ⟨W.heap.size + 1 + 1, 0, none⟩) 1 1] 34)) := by
 have s1 := size_alloc W (.cells #[.int .i64 1, .int .i64 1] 3)
 have k1 := blk_new W #[.int .i64 1, .int .i64 1] 3
 generalize W.alloc (.cells #[.int .i64 1, .int .i64 1] 3) = W1 at *
 have s2 := size_alloc W1 (.cells #[.int .i64 7, .int .i64 0, .string ⟨#[]⟩, .slice (some ⟨W.heap.size, 0, none⟩) 2 2, .int .i64 3, .int .i64 0, .string ⟨#[49]⟩, .slice none 0 0] 54)
 have k2 := blk_new W1 #[.int .i64 7, .int .i64 0, .string ⟨#[]⟩, .slice (some ⟨W.heap.size, 0, none⟩) 2 2, .int .i64 3, .int .i64 0, .string ⟨#[49]⟩, .slice none 0 0] 54
 have b2 := Ba W1 (.cells #[.int .i64 7, .int .i64 0, .string ⟨#[]⟩, .slice (some ⟨W.heap.size, 0, none⟩) 2 2, .int .i64 3, .int .i64 0, .string ⟨#[49]⟩, .slice none 0 0] 54)
 generalize W1.alloc (.cells #[.int .i64 7, .int .i64 0, .string ⟨#[]⟩, .slice (some ⟨W.heap.size, 0, none⟩) 2 2, .int .i64 3, .int .i64 0, .string ⟨#[49]⟩, .slice none 0 0] 54) = W2 at *
 have s3 := size_alloc W2 (.cells #[.int .i64 0] 3)
 have k3 := blk_new W2 #[.int .i64 0] 3
 have b3 := Ba W2 (.cells #[.int .i64 0] 3)
 generalize W2.alloc (.cells #[.int .i64 0] 3) = W3 at *
 have k4 := blk_new W3 #[.slice (some ⟨W.heap.size + 1, 0, none⟩) 2 2, .slice (some ⟨W.heap.size + 1 + 1, 0, none⟩) 1 1] 34
 have b4 := Ba W3 (.cells #[.slice (some ⟨W.heap.size + 1, 0, none⟩) 2 2, .slice (some ⟨W.heap.size + 1 + 1, 0, none⟩) 1 1] 34)
 rw [s3, s2, s1] at k4
 rw [s2, s1] at k3
 rw [s1] at k2
 exact ⟨(b4.block _ (by omega)).trans ((b3.block _ (by omega)).trans ((b2.block _ (by omega)).trans k1)), (b4.block _ (by omega)).trans ((b3.block _ (by omega)).trans k2), (b4.block _ (by omega)).trans k3, k4⟩
theorem LA.ok {g : Nat} {w : World} (h : LA g w) : GOk w (some ⟨g + 1, 0, none⟩) 2 2 (some ⟨g + 1 + 1, 0, none⟩) 1 1 gA [0] := by
 have hl := h.lt
 have hk : IRow w (some ⟨g, 0, none⟩) 2 2 [1, 1] := lit_ints h.k rfl rfl (by omega) (fun z hz => by simp at hz; subst hz; unfold I64; omega)
 have hN : NRow w (some ⟨g + 1, 0, none⟩) 2 2 gA := lit_nodes (l := [(⟨7, 0, ByteArray.empty, [1, 1]⟩, some ⟨g, 0, none⟩, 2, 2), (⟨3, 0, ⟨#[49]⟩, []⟩, none, 0, 0)]) h.n rfl rfl (by omega) (fun x hx => by
   simp at hx
   rcases hx with rfl | rfl
   ·exact ⟨hk, fun ad had => by cases had; exact ⟨by show g < g + 1; omega, by show g < w.heap.size; omega⟩⟩
   ·exact ⟨IRow.nil w none, fun ad had => (by cases had)⟩) (ok2 _ _ (by unfold NdOk I64 maxLen; decide) (by unfold NdOk I64 maxLen; decide))
 have hR : IRow w (some ⟨g + 1 + 1, 0, none⟩) 1 1 [0] := lit_ints h.r rfl rfl (by omega) (fun z hz => by simp at hz; subst hz; unfold I64; omega)
 exact ⟨⟨hN, hR⟩, smallA.1, smallA.2, by omega, by omega⟩
theorem osok_of (l : List Ob) (hl : (l.all (fun x => decide (1 <= x.kind) && decide (x.kind <= 22) && x.f.all (fun z => decide (0 <= z) && decide (z < 18446744073709551616) && !isHd z))) = true) : OsOk l := by
 rw [List.all_eq_true] at hl
 refine ⟨fun x hx => ?_, fun x hx z hz => ?_, fun x hx z hz => ?_⟩ <;> have := hl x hx <;> simp only [Bool.and_eq_true, decide_eq_true_eq, List.all_eq_true, Bool.not_eq_true'] at this
 ·exact this.1
 ·exact (this.2 z hz).1
 ·exact (this.2 z hz).2
theorem wA1 : wordD oA [] 1 = ⟨7, 0, ByteArray.empty, [8, 8]⟩ := by kernel_rfl
theorem wA8 : wordD oA [] 8 = ⟨3, 0, ⟨#[49]⟩, []⟩ := by kernel_rfl
theorem rchA {x : Int} (h : Rch (wordD oA []) [1] x) : x ∈ [(1 : Int), 8] := by
 induction h with
 | root hm => rw [List.mem_singleton.1 hm]; simp
 | @kid x y _ hy ih =>
  simp at ih
  rcases ih with rfl | rfl
  ·rw [wA1] at hy; simp at hy; simp [hy]
  ·rw [wA8] at hy; cases hy
theorem fineA : Fine gA [0] 300001 := ⟨by kernel_rfl, smallA.2, by decide, by decide⟩
theorem toldA {W rs : List Int} {ns : List Nd} (T : Told (wordD oA []) [1] W ns rs) (F : Fine ns rs 300001) : canonN ns rs = (gA, [0]) := by
 have e : canonG ns rs 300001 = canonG gA [0] 300001 := by
  refine told_two (ψ := fun i => if i = 0 then 1 else 8) T (told_self fineA.good) rfl (fun x => ok_word _ _ x) (fun x hx => ?_) (fun x y hx hy e => ?_) (fun x hx ha => good_bare fineA.good (rch_self fineA.good hx) ha) F fineA
  ·have hr := rch_self fineA.good hx
   have h01 : x = 0 \/ x = 1 := by have : gA.length = 2 := rfl; omega
   rcases h01 with rfl | rfl
   ·show sameA (wordD oA [] 1) _ /\ (wordD oA [] 1).kids = _
    rw [wA1]; exact ⟨⟨rfl, rfl, rfl⟩, rfl⟩
   ·show sameA (wordD oA [] 8) _ /\ (wordD oA [] 8).kids = _
    rw [wA8]; exact ⟨⟨rfl, rfl, rfl⟩, rfl⟩
  ·have hx' := rch_self fineA.good hx
   have hy' := rch_self fineA.good hy
   have : gA.length = 2 := rfl
   left
   by_cases h1 : x = 0 <;> by_cases h2 : y = 0 <;> simp [h1, h2] at e <;> omega
 have e2 : canonN gA [0] = (gA, [0]) := canA
 unfold canonN at e2 ⊢; rw [e, e2]
section
variable {B g : Nat} {v vn : Value} {F : Nat -> Prop} {w : World}
theorem put_A (h : PN B v vn 50 [] [] F w) (L : LA g w) (hF : ∀ b, F b -> b < g) (hs : w.heap.size = g + 4) (hB : B <= w.heap.size) (hT : TabsS w) :
  Calls Tryz.prog 46 #[v, vn, .agg #[.slice (some ⟨g + 1, 0, none⟩) 2 2, .slice (some ⟨g + 1 + 1, 0, none⟩) 1 1]] w fun e w' => ∃ ao cap F', e = .returned (.tuple #[.slice ao 1 cap, .int .i64 0]) /\ URow w' ao 1 cap [1] /\ PN B v vn 50 oA [] F' w' /\ LA g w' /\ (∀ b, F' b -> b < g \/ g + 4 <= b) /\ Below B w w' := by
 have := sput_any (some ⟨g + 1, 0, none⟩) (some ⟨g + 1 + 1, 0, none⟩) 2 2 1 1 gA [0] w h L.ok (by omega) (by omega) hB (by decide) hT
 rw [putA] at this
 refine this.mono ?_
 rintro e w' ⟨ao, cap, rfl, hu, F', p1, p2, p3, p4⟩
 exact ⟨ao, cap, F', rfl, hu, p1, L.mod p3 (fun b e => .inl (hF b e)), fun b e => by rcases p2 b e with e | e; exact .inl (hF b e); right; omega, p3.below (fun b e => (h.ge b e).1) hB⟩
theorem show_A {ao : Option Addr} {cap : Nat} (h : PN B v vn 50 oA [] F w) (R : URow w ao 1 cap [1]) (hT : TabsS w) :
  Calls Tryz.prog 11 #[v, vn, .slice ao 1 cap] w fun e w' => ∃ a1 c1 a2 c2, e = .returned (.agg #[.slice a1 2 c1, .slice a2 1 c2]) /\ GKeep w.heap.size w' a1 2 c1 a2 1 c2 gA [0] /\ Below w.heap.size w w' := by
 refine (sshow_any ao 1 cap [1] w h R [1, 8] (fun x hx => rchA hx) (by decide) (fun x hx => ?_) (by omega) (by decide) (fun s hs => (by cases hs)) hT).mono ?_
 ·simp at hx
  rcases hx with rfl | rfl
  ·rw [wA1]; decide
  ·rw [wA8]; decide
 ·rintro e w' ⟨a1, n1, c1, a2, n2, c2, W, ns, rs, rfl, hTd, hF, hGI, hK, hB⟩
  rw [toldA hTd hF] at hGI hK
  obtain rfl : 2 = n1 := hGI.nodes.len
  obtain rfl : 1 = n2 := hGI.roots.len
  exact ⟨a1, c1, a2, c2, rfl, hK, hB⟩
theorem show_B {ao : Option Addr} {cap : Nat} (h : PN B v vn 50 oB [] F w) (R : URow w ao 1 cap [25]) (hT : TabsS w) :
  Calls Tryz.prog 11 #[v, vn, .slice ao 1 cap] w fun e w' => ∃ a1 c1 a2 c2, e = .returned (.agg #[.slice a1 1 c1, .slice a2 1 c2]) /\ GIs w' a1 1 c1 a2 1 c2 [voidN] [0] /\ Below w.heap.size w w' := by
 refine (sshow_any ao 1 cap [25] w h R [25] (fun x hx => by rw [rchV hx]; simp) (by decide) (fun x hx => ?_) (by omega) (by decide) (fun s hs => (by cases hs)) hT).mono ?_
 ·rw [List.mem_singleton.1 hx, wordA]; decide
 ·rintro e w' ⟨a1, n1, c1, a2, n2, c2, W, ns, rs, rfl, hTd, hF, hGI, hK, hB⟩
  rw [toldV hTd hF] at hGI
  obtain rfl : 1 = n1 := hGI.nodes.len
  obtain rfl : 1 = n2 := hGI.roots.len
  exact ⟨a1, c1, a2, c2, rfl, hGI, hB⟩
theorem alloc_A (h : PN B v vn 50 oA [] F w) (hB : B <= w.heap.size) :
  Calls Tryz.prog 47 #[v, .int .i64 3, .slice (some ⟨w.heap.size, 0, none⟩) 1 1] (w.alloc (.cells #[.int .u64 2] 44)) fun e w' => e = .returned (.tuple #[.int .u64 25, .int .i64 0]) /\ PNPost B v vn 50 F (w.alloc (.cells #[.int .u64 2] 44)) oB [] w' := by
 have := pn_alloc (h.on (Ba w (.cells #[.int .u64 2] 44))) 3 (by unfold Z64; omega) (some ⟨w.heap.size, 0, none⟩) 1 1 [2] (urow_one (blk_new w _ _) (by unfold U64; omega)) (by rw [size_alloc]; omega) (fun a ha hf => by cases ha; have := (h.ge _ hf).2; simp at this) (by omega) (by rw [allocA.2]; exact osok_of _ (by decide))
 rw [allocA.1, allocA.2] at this
 exact this
end
def sa : ByteArray := ⟨#[97]⟩
def sb : ByteArray := ⟨#[98]⟩
theorem ids : idM [] sa = 0 /\ idL [] sa = [sa] /\ idM [sa] sa = 0 /\ idL [sa] sa = [sa] /\ idM [sa] sb = 1 := ⟨by kernel_rfl, by kernel_rfl, by kernel_rfl, by kernel_rfl, by kernel_rfl⟩
theorem sameA_ : sameGB gA [0] gA [0] = true := by
 unfold sameGB
 rw [canA]; kernel_rfl
set_option maxHeartbeats 16000000 in
theorem sawake_any (w : World) (hT : TabsS w) : Calls Tryz.prog 15 #[] w fun e w' => e = .returned (.bool true) /\ Below w.heap.size w w' := by
 have HT := hid hT
 clear hT
 have CN : Hid (∀ wx, Calls Tryz.prog 29 #[.int .i64 50] wx fun e w' => ∃ v F, e = .returned (.tuple #[v, .int .i64 0]) /\ PH wx.heap.size v 50 [] F w' /\ Below wx.heap.size wx w') := fun wx => by
  refine (pnew_is 50 (by unfold Z64; omega) wx).mono (fun e w' h => ?_)
  unfold NewP at h
  rw [if_neg (by omega)] at h
  exact h
 go_enter Tryz.func15, Tryz.ntmps15
 go_wp2_with (first
  | (go_at_call 29; (with_reducible refine (CN.out w).mono ?_); rintro e W2 ⟨v, F1, rfl, hp2, b2⟩; have HP2 := hid hp2; have HB2 := hid b2; clear hp2 b2)
  | (go_at_call 31; (with_reducible refine (pnames_any W2).mono ?_); rintro e W3 ⟨vn, F2, rfl, hp3, b3⟩; have HP3 := hid hp3; have HB3 := hid b3; clear hp3 b3))
 have HPN := hid (pn_new HP2.out HB2.out HP3.out HB3.out)
 have HBW : Hid (Below w.heap.size w W3) := HB2.out.trans (HB3.out.mono HB2.out.size)
 obtain ⟨gh, gp, rfl, rfl⟩ := HPN.out.ptrs
 have hLA := LA.new W3
 have b4 := Bt (Baaa W3 (.cells #[.int .i64 1, .int .i64 1] 3) (.cells #[.int .i64 7, .int .i64 0, .string ⟨#[]⟩, .slice (some ⟨W3.heap.size, 0, none⟩) 2 2, .int .i64 3, .int .i64 0, .string ⟨#[49]⟩, .slice none 0 0] 54) (.cells #[.int .i64 0] 3)) (Ba _ (.cells #[.slice (some ⟨W3.heap.size + 1, 0, none⟩) 2 2, .slice (some ⟨W3.heap.size + 1 + 1, 0, none⟩) 1 1] 34))
 have hs4 : ((((W3.alloc (.cells #[.int .i64 1, .int .i64 1] 3)).alloc (.cells #[.int .i64 7, .int .i64 0, .string ⟨#[]⟩, .slice (some ⟨W3.heap.size, 0, none⟩) 2 2, .int .i64 3, .int .i64 0, .string ⟨#[49]⟩, .slice none 0 0] 54)).alloc (.cells #[.int .i64 0] 3)).alloc (.cells #[.slice (some ⟨W3.heap.size + 1, 0, none⟩) 2 2, .slice (some ⟨W3.heap.size + 1 + 1, 0, none⟩) 1 1] 34)).heap.size = W3.heap.size + 4 := by simp only [size_alloc]
 generalize (((W3.alloc (.cells #[.int .i64 1, .int .i64 1] 3)).alloc (.cells #[.int .i64 7, .int .i64 0, .string ⟨#[]⟩, .slice (some ⟨W3.heap.size, 0, none⟩) 2 2, .int .i64 3, .int .i64 0, .string ⟨#[49]⟩, .slice none 0 0] 54)).alloc (.cells #[.int .i64 0] 3)).alloc (.cells #[.slice (some ⟨W3.heap.size + 1, 0, none⟩) 2 2, .slice (some ⟨W3.heap.size + 1 + 1, 0, none⟩) 1 1] 34) = W4 at *
 have HB4 : Hid (Below w.heap.size w W4) := HBW.out.trans (b4.mono HBW.out.size)
 have CP := hid (put_A (HPN.out.on b4) hLA (fun b e => (HPN.out.ge b e).2) hs4 HB4.out.size (TabsS.below HT.out HB4.out))
 obtain ⟨g, hg⟩ : ∃ g, g = W3.heap.size := ⟨_, rfl⟩
 rw [<- hg] at CP
 rw [<- hg]
 clear hg hLA b4 hs4
 with_reducible refine CP.out.mono ?_
 rintro e W5 ⟨ao, cap, F5, rfl, hu5, p5, l5, f5, b5⟩
 have HB5 : Hid (Below w.heap.size w W5) := HB4.out.trans b5
 have HP5 := hid p5
 have HL5 := hid l5
 have HF5 := hid f5
 have CS := hid (show_A p5 hu5 (TabsS.below HT.out HB5.out))
 clear CP CN HP2 HP3 HB2 HB3 HPN HBW hu5 p5 l5 f5 b5
 go_wp2_with (first
  | (go_at_call 11; (with_reducible refine CS.out.mono ?_); rintro e W6 ⟨a1, c1, a2, c2, rfl, k6, b6⟩; have HK6 := hid k6; have HB6 := hid b6; clear k6 b6))
 have y6 := GBox.new 34 W6 a1 a2 2 c1 1 c2
 have b6 := Ba W6 (.cells #[.slice a1 2 c1, .slice a2 1 c2] 34)
 rw [<- size_alloc W6 (.cells #[.slice a1 2 c1, .slice a2 1 c2] 34)]
 have hs6 := size_alloc W6 (.cells #[.slice a1 2 c1, .slice a2 1 c2] 34)
 generalize W6.alloc (.cells #[.slice a1 2 c1, .slice a2 1 c2] 34) = W7 at *
 have HB7 : Hid (Below w.heap.size w W7) := HB5.out.trans ((Bt HB6.out b6).mono HB5.out.size)
 have CA := hid (alloc_A (HP5.out.on (Bt HB6.out b6)) HB7.out.size)
 have HX7 := hid y6
 have HBW6 := hid b6
 have hs5 := HB6.out.size
 obtain ⟨ga, hga⟩ : ∃ g, g = W6.heap.size := ⟨_, rfl⟩
 rw [<- hga] at HX7
 rw [<- hga]
 clear y6 b6
 with_reducible refine CA.out.mono ?_
 rintro e W8 ⟨rfl, F8, p8, q8, m8⟩
 have HB8 : Hid (Below w.heap.size w W8) := (HB7.out.trans ((Ba W7 (.cells #[.int .u64 2] 44)).mono HB7.out.size)).trans (m8.below (fun b e => (HP5.out.ge b e).1) (by rw [size_alloc]; have := HB7.out.size; omega))
 have hfar : Hid (∀ b, (∀ e : F5 b, False) -> b < W7.heap.size -> W8.heap[b]? = W7.heap[b]?) := fun b h1 h2 => (m8.block b (by rw [size_alloc]; omega) h1).trans ((Ba W7 (.cells #[.int .u64 2] 44)).block b h2)
 have HL8 : Hid (LA g W8) := ((HL5.out.on (Bt HB6.out HBW6.out)).on (Ba W7 (.cells #[.int .u64 2] 44))).mod m8 HF5.out
 have HX8 : Hid (GBox 34 W8 ga a1 2 c1 a2 1 c2) := (hfar.out ga (fun e => by have := (HP5.out.ge ga e).2; omega) HX7.out.lt).trans HX7.out
 have hs8 : W7.heap.size <= W8.heap.size := by have := m8.size; rw [size_alloc] at this; omega
 have HG8 : Hid (GIs W8 a1 2 c1 a2 1 c2 gA [0]) := HK6.out W8 (by omega) (fun b h1 h2 => (hfar.out b (fun e => by have := (HP5.out.ge b e).2; omega) (by omega)).trans (HBW6.out.block b h2))
 have HP8 := hid p8
 have CS2 := hid (show_B (p8.on (Ba W8 (.cells #[.int .u64 25] 44))) (urow_one (blk_new W8 _ _) (by unfold U64; omega)) (TabsS.below HT.out (HB8.out.trans ((Ba W8 (.cells #[.int .u64 25] 44)).mono HB8.out.size))))
 clear CS CA HP5 HL5 HF5 HK6 HX7 hfar p8 q8 m8 hs5 hs6 hga hs8 HBW6 HB6 HB7 HB4 HB5
 go_wp2_with (first
  | (go_at_call 11; (with_reducible refine CS2.out.mono ?_); rintro e W9 ⟨d1, e1, d2, e2, rfl, g9, b9⟩; have HG9 := hid g9; have HB9 := hid (Bt (Ba W8 (.cells #[.int .u64 25] 44)) b9); clear g9 b9))
 have bX := Ba W9 (.cells #[.slice d1 1 e1, .slice d2 1 e2] 34)
 have y9 := GBox.new 34 W9 d1 d2 1 e1 1 e2
 have HBX : Hid (Below W8.heap.size W8 (W9.alloc (.cells #[.slice d1 1 e1, .slice d2 1 e2] 34))) := Bt HB9.out bX
 have HGX := hid (HG9.out.below bX)
 generalize W9.alloc (.cells #[.slice d1 1 e1, .slice d2 1 e2] 34) = W10 at *
 have HX10 := hid y9
 obtain ⟨gx, hgx⟩ : ∃ g, g = W9.heap.size := ⟨_, rfl⟩
 rw [<- hgx] at HX10
 rw [<- hgx]
 have HBA : Hid (Below w.heap.size w W10) := HB8.out.trans (HBX.out.mono HB8.out.size)
 have HPA : Hid (∀ wx, Below W10.heap.size W10 wx -> PN w.heap.size (.pointer (some ⟨gh, 0, none⟩)) (.pointer (some ⟨gp, 0, none⟩)) 50 oB [] F8 wx) := fun wx hb => (HP8.out.on HBX.out).on hb
 have CU : Hid (Calls Tryz.prog 48 #[.pointer (some ⟨gh, 0, none⟩)] W10 fun e w' => e = .returned (.int .i64 5) /\ Below W10.heap.size W10 w') := (HPA.out W10 (Below.refl _ _)).used
 have CE : Hid (∀ wx, Below W10.heap.size W10 wx -> Calls Tryz.prog 49 #[.agg #[.slice a1 2 c1, .slice a2 1 c2], .agg #[.slice (some ⟨g + 1, 0, none⟩) 2 2, .slice (some ⟨g + 1 + 1, 0, none⟩) 1 1]] wx fun e w' => e = .returned (.bool true) /\ Below wx.heap.size wx w') := fun wx hb => by
  have := grsame_any a1 a2 2 c1 1 c2 gA [0] (some ⟨g + 1, 0, none⟩) (some ⟨g + 1 + 1, 0, none⟩) 2 2 1 1 gA [0] wx ⟨(HG8.out.below HBX.out).below hb, smallA.1, smallA.2, by omega, by omega⟩ ((HL8.out.on HBX.out).on hb).ok (by omega) (by omega) (by omega) (by omega)
  rw [sameA_] at this
  exact this
 have CI1 : Hid (∀ wx, Below W10.heap.size W10 wx -> Calls Tryz.prog 32 #[.pointer (some ⟨gp, 0, none⟩), .string ⟨#[97]⟩] wx fun e w' => e = .returned (.int .i64 0) /\ ∃ F', PN w.heap.size (.pointer (some ⟨gh, 0, none⟩)) (.pointer (some ⟨gp, 0, none⟩)) 50 oB [sa] F' w' /\ Below w.heap.size w w') := fun wx hb => by
  have hB : w.heap.size <= wx.heap.size := Nat.le_trans HBA.out.size hb.size
  refine (pn_id (HPA.out wx hb) sa hB (by decide) (by decide)).mono ?_
  rintro e w' ⟨rfl, F', q1, q2, q3⟩
  exact ⟨rfl, F', q1, (HBA.out.trans (hb.mono HBA.out.size)).trans (q3.below (fun b e => ((HPA.out wx hb).ge b e).1) hB)⟩
 have CI2 : Hid (∀ F' wx, PN w.heap.size (.pointer (some ⟨gh, 0, none⟩)) (.pointer (some ⟨gp, 0, none⟩)) 50 oB [sa] F' wx -> Below w.heap.size w wx -> Calls Tryz.prog 32 #[.pointer (some ⟨gp, 0, none⟩), .string ⟨#[97]⟩] wx fun e w' => e = .returned (.int .i64 0) /\ ∃ F', PN w.heap.size (.pointer (some ⟨gh, 0, none⟩)) (.pointer (some ⟨gp, 0, none⟩)) 50 oB [sa] F' w' /\ Below w.heap.size w w') := fun F' wx h hb => by
  have := pn_id h sa hb.size (by decide) (by decide)
  rw [ids.2.2.1, ids.2.2.2.1] at this
  refine this.mono ?_
  rintro e w' ⟨rfl, F', q1, q2, q3⟩
  exact ⟨rfl, F', q1, hb.trans (q3.below (fun b e => (h.ge b e).1) hb.size)⟩
 have CI3 : Hid (∀ F' wx, PN w.heap.size (.pointer (some ⟨gh, 0, none⟩)) (.pointer (some ⟨gp, 0, none⟩)) 50 oB [sa] F' wx -> Below w.heap.size w wx -> Calls Tryz.prog 32 #[.pointer (some ⟨gp, 0, none⟩), .string ⟨#[98]⟩] wx fun e w' => e = .returned (.int .i64 1) /\ Below w.heap.size w w') := fun F' wx h hb => by
  have := pn_id h sb hb.size (by decide) (by decide)
  rw [ids.2.2.2.2] at this
  refine this.mono ?_
  rintro e w' ⟨rfl, F', q1, q2, q3⟩
  exact ⟨rfl, hb.trans (q3.below (fun b e => (h.ge b e).1) hb.size)⟩
 have HCK : Hid (∀ wx, Below W10.heap.size W10 wx -> ∃ bn on, d1 = some ⟨bn, on, none⟩ /\ wx.cell? ⟨bn, on, none⟩ = some (.int .i64 11)) := fun wx hb => by
  obtain ⟨bn, on, e1, hl, hc⟩ := (HGX.out.below hb).nodes.some (by omega)
  exact ⟨bn, on, e1, by have := (hc 0 (by omega)).1; simpa [voidN] using this⟩
 obtain ⟨bn, on, rfl, _⟩ := HCK.out W10 (Below.refl _ _)
 have HXL : Hid (∀ wx, Below W10.heap.size W10 wx -> wx.cell? ⟨ga, 0, none⟩ = some (.slice a1 2 c1) /\ wx.cell? ⟨ga, 1, none⟩ = some (.slice a2 1 c2) /\ wx.cell? ⟨g + 1 + 1 + 1, 0, none⟩ = some (.slice (some ⟨g + 1, 0, none⟩) 2 2) /\ wx.cell? ⟨g + 1 + 1 + 1, 1, none⟩ = some (.slice (some ⟨g + 1 + 1, 0, none⟩) 1 1)) := fun wx hb => ⟨((HX8.out.on HBX.out).on hb).c.1, ((HX8.out.on HBX.out).on hb).c.2, blk_cell ((HL8.out.on HBX.out).on hb).b 0, blk_cell ((HL8.out.on HBX.out).on hb).b 1⟩
 have HXN : Hid (∀ wx, Below W10.heap.size W10 wx -> wx.cell? ⟨gx, 0, none⟩ = some (.slice (some ⟨bn, on, none⟩) 1 e1) /\ wx.cell? ⟨bn, on, none⟩ = some (.int .i64 11)) := fun wx hb => ⟨(HX10.out.on hb).c.1, by
  obtain ⟨bn', on', e, hc⟩ := HCK.out wx hb
  cases e; exact hc⟩
 have hc1 := HGX.out.nodes.fits
 have hc2 := HGX.out.nodes.most
 unfold maxLen at hc2
 clear bX y9 hgx HCK CS2
 with_reducible refine CU.out.mono ?_
 rintro e W11 ⟨rfl, b11⟩
 have HB11 := hid b11
 obtain ⟨y0, y1, y2, y3⟩ := HXL.out W11 b11
 clear b11
 go_wp2_with (first
  | (go_at_call 49; (with_reducible refine (CE.out W11 HB11.out).mono ?_); rintro e W12 ⟨rfl, b12⟩; have HB12 := hid (Bt HB11.out b12); obtain ⟨z0, z1⟩ := HXN.out W12 (Bt HB11.out b12); clear b12)
  | (go_at_call 32; (with_reducible refine (CI1.out W12 HB12.out).mono ?_); rintro e W13 ⟨rfl, F13, p13, b13⟩; have HP13 := hid p13; have HB13 := hid b13; clear p13 b13)
  | (go_at_call 32; (with_reducible refine (CI2.out F13 W13 HP13.out HB13.out).mono ?_); rintro e W14 ⟨rfl, F14, p14, b14⟩; have HP14 := hid p14; have HB14 := hid b14; clear p14 b14)
  | (go_at_call 32; (with_reducible refine (CI3.out F14 W14 HP14.out HB14.out).mono ?_); rintro e W15 ⟨rfl, b15⟩; have HB15 := hid b15; clear b15))
 go_ret
 exact ⟨rfl, HB15.out⟩
structure TRow (w : World) (ao : Option Addr) (n cap : Nat) (ts : List ByteArray) : Prop where
 len : ts.length = n
 fits : n <= cap
 most : cap <= maxLen
 bd : ∀ s ∈ ts, s.size <= maxLen
 rd : ts = [] \/ ∃ b o, ao = some ⟨b, o, none⟩ /\ b < w.heap.size /\ ∀ i, i < ts.length -> w.cell? ⟨b, o + i, none⟩ = some (.string (ts.getD i ByteArray.empty))
structure Sf where
 is_ : Bool
 to_ : Int
 w : Int
deriving Inhabited
structure SfOk (f : Sf) : Prop where
 to_ : Z64 f.to_
 w : U64 f.w
def SfAt (w : World) (b o : Nat) (f : Sf) : Prop := w.cell? ⟨b, o, none⟩ = some (.bool f.is_) /\ w.cell? ⟨b, o + 1, none⟩ = some (.int .i64 f.to_) /\ w.cell? ⟨b, o + 2, none⟩ = some (.int .u64 f.w)
structure SfRow (w : World) (ao : Option Addr) (n cap : Nat) (fs : List Sf) : Prop where
 len : fs.length = n
 fits : n <= cap
 most : cap <= maxLen
 ok : ∀ f ∈ fs, SfOk f
 rd : fs = [] \/ ∃ b o, ao = some ⟨b, o, none⟩ /\ b < w.heap.size /\ ∀ i, i < fs.length -> SfAt w b (o + i * 3) (fs.getD i default)
structure So where
 kind : Int
 l : List Sf
deriving Inhabited
def SoAt (w : World) (b o : Nat) (x : So) : Prop := w.cell? ⟨b, o, none⟩ = some (.int .i64 x.kind) /\ ∃ ao n cap, w.cell? ⟨b, o + 1, none⟩ = some (.slice ao n cap) /\ SfRow w ao n cap x.l
structure SoRow (w : World) (ao : Option Addr) (n cap : Nat) (xs : List So) : Prop where
 len : xs.length = n
 fits : n <= cap
 most : cap <= maxLen
 ok : ∀ x ∈ xs, Z64 x.kind
 rd : xs = [] \/ ∃ b o, ao = some ⟨b, o, none⟩ /\ b < w.heap.size /\ ∀ i, i < xs.length -> SoAt w b (o + i * 2) (xs.getD i default)
end Go.Proofs.YticimejfjjmikaaGreatDoor
