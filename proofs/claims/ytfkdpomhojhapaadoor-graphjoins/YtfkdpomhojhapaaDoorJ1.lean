/-
  Walk: graph.Join.
-/
import Derived.Test.YtfkdpomhojhapaaDoorL1
import Derived.Test.YtfkdpomhojhapaaDoorM5
import Derived.Test.YtfkdpomhojhapaaDoorW36
set_option linter.unusedVariables false
set_option linter.unusedSimpArgs false
set_option maxRecDepth 100000
namespace Go.Proofs.YtfkdpomhojhapaaDoor
open Go.RowKit

/-- While a node is moved and put behind others: what slots hold (k: the call is done, it is laid alone; al: the others' slice is loaded). -/
structure JSt (W2 : World) (vN : Value) (dk dn : Int) (dt : ByteArray) (nk : Nat) (dl : List Int) (k : Nat) (al : Bool) (t18 t20 t21 : Value) (wx : World) : Prop where
  bel : Below W2.heap.size W2 wx
  i0 : al = true → t18 = vN
  i1 : 1 ≤ k → ∃ ak' ck', t20 = .agg #[.int .i64 dk, .int .i64 dn, .string dt, .slice ak' nk ck'] ∧ wx.ownsRow W2.heap.size 3 1 (.slice ak' nk ck') nk (cz dl) ∧
    (2 ≤ k → ∃ g, t21 = .slice (some ⟨g, 0, none⟩) 1 1 ∧ wx.heap[g]? = some (.cells #[.int .i64 dk, .int .i64 dn, .string dt, .slice ak' nk ck'] 32 (0, 0)) ∧ W2.heap.size ≤ g)
theorem owns_on {w w' : World} {base : Nat} {e : TypeId} {k : Nat} {v : Value} {n : Nat} {xs : List Value} (h : w.ownsRow base e k v n xs) (hb : Below w.heap.size w w') : w'.ownsRow base e k v n xs := by
  refine ⟨h.1, ?_⟩
  rcases h.2 with h0 | ⟨g, cap, cur, h1, h2, h3, h4⟩
  · exact .inl h0
  · exact .inr ⟨g, cap, cur, h1, h2, (hb.block g (Array.getElem?_eq_some_iff.1 h3).1).trans h3, h4⟩
section
variable {W2 wx wy : World} {vN : Value} {dk dn : Int} {dt : ByteArray} {nk : Nat} {dl : List Int} {k : Nat} {al : Bool} {t18 t20 t21 : Value}
theorem JSt.mk0 (hb : Below W2.heap.size W2 wx) : JSt W2 vN dk dn dt nk dl 0 false t18 t20 t21 wx := ⟨hb, fun e => (by cases e), fun e => by omega⟩
theorem JSt.load (h : JSt W2 vN dk dn dt nk dl k false t18 t20 t21 wx) : JSt W2 vN dk dn dt nk dl k true vN t20 t21 wx := ⟨h.bel, fun _ => rfl, h.i1⟩
theorem JSt.call (h : JSt W2 vN dk dn dt nk dl 0 al t18 t20 t21 wx) (hb : Below wx.heap.size wx wy) {ak' : Option Addr} {ck' : Nat} (ho : wy.ownsRow wx.heap.size 3 1 (.slice ak' nk ck') nk (cz dl)) :
    JSt W2 vN dk dn dt nk dl 1 al t18 (.agg #[.int .i64 dk, .int .i64 dn, .string dt, .slice ak' nk ck']) t21 wy :=
  ⟨Bt h.bel hb, h.i0, fun _ => ⟨ak', ck', rfl, owns_lower ho h.bel.size, fun e => by omega⟩⟩
theorem JSt.build {ak' : Option Addr} {ck' : Nat} (h : JSt W2 vN dk dn dt nk dl 1 al t18 (.agg #[.int .i64 dk, .int .i64 dn, .string dt, .slice ak' nk ck']) t21 wx) :
    JSt W2 vN dk dn dt nk dl 2 al t18 (.agg #[.int .i64 dk, .int .i64 dn, .string dt, .slice ak' nk ck']) (.slice (some ⟨wx.heap.size, 0, none⟩) 1 1) (wx.alloc (.cells #[.int .i64 dk, .int .i64 dn, .string dt, .slice ak' nk ck'] 32)) := by
  obtain ⟨a1, c1, e, ho, _⟩ := h.i1 (by omega)
  cases e
  exact ⟨Bt h.bel (Ba _ _), h.i0, fun _ => ⟨ak', ck', rfl, owns_on ho (Ba _ _), fun _ => ⟨_, rfl, blk_new _ _ _, h.bel.size⟩⟩⟩
end
/-- A node's cells, in a world. -/
def NHeld (p : Nat) (dk dn : Int) (dt : ByteArray) (ak : Option Addr) (nk ck : Nat) (wx : World) : Prop := wx.cell? ⟨p, 0, none⟩ = some (.int .i64 dk) ∧ wx.cell? ⟨p, 1, none⟩ = some (.int .i64 dn) ∧ wx.cell? ⟨p, 2, none⟩ = some (.string dt) ∧ wx.cell? ⟨p, 3, none⟩ = some (.slice ak nk ck)
theorem NHeld.on {p : Nat} {dk dn : Int} {dt : ByteArray} {ak : Option Addr} {nk ck : Nat} {wx wy : World} (h : NHeld p dk dn dt ak nk ck wx) (hb : Below wx.heap.size wx wy) : NHeld p dk dn dt ak nk ck wy :=
  ⟨(hb.cell (p := ⟨p, 0, none⟩) (cell_lt h.1)).trans h.1, (hb.cell (p := ⟨p, 1, none⟩) (cell_lt h.1)).trans h.2.1, (hb.cell (p := ⟨p, 2, none⟩) (cell_lt h.1)).trans h.2.2.1, (hb.cell (p := ⟨p, 3, none⟩) (cell_lt h.1)).trans h.2.2.2⟩
theorem NHeld.far {p : Nat} {dk dn : Int} {dt : ByteArray} {ak : Option Addr} {nk ck : Nat} {wx wy : World} (h : NHeld p dk dn dt ak nk ck wx) (hb : wy.heap[p]? = wx.heap[p]?) : NHeld p dk dn dt ak nk ck wy :=
  ⟨(World.cell?_of_block (a := ⟨p, 0, none⟩) hb).trans h.1, (World.cell?_of_block (a := ⟨p, 1, none⟩) hb).trans h.2.1, (World.cell?_of_block (a := ⟨p, 2, none⟩) hb).trans h.2.2.1, (World.cell?_of_block (a := ⟨p, 3, none⟩) hb).trans h.2.2.2⟩
def Ljn1 (s : Nat × Bool) : Array Bool := #[true, s.2, true, Nat.ble 1 s.1, Nat.ble 2 s.1, false, false, false]
def Ljn2 (s : Nat × Bool) : Array Bool := #[true, s.2, true, true, true, true, Nat.ble 1 s.1, Nat.ble 2 s.1, false, false, false]
def Mjn (s : Nat × Bool) : Nat := (2 - s.1) + (if s.2 then 0 else 1)
/-- The blocks of the call but out's are as they were, and so are all nodes that were put there. -/
structure JInv (w W1 : World) (go : Nat) (tG : TypeId) (vN : Value) (ls : List (Nd × (Option Addr × Nat × Nat))) (wr : World) : Prop where
  out : wr.heap[go]? = some (.cells #[vN, .slice none 0 0] tG (0, 0))
  keep : ∀ b, b < W1.heap.size → b ≠ go → wr.heap[b]? = W1.heap[b]?
  own : NOwn W1.heap.size wr vN ls
  bel : Below w.heap.size w wr
  size : W1.heap.size ≤ wr.heap.size

/-- The cells of the two that are handed in. -/
def JH (ga gb : Nat) (a0 a1 b1 : Value) (wx : World) : Prop := wx.cell? ⟨ga, 0, none⟩ = some a0 ∧ wx.cell? ⟨ga, 1, none⟩ = some a1 ∧ wx.cell? ⟨gb, 1, none⟩ = some b1
theorem JH.on {ga gb : Nat} {a0 a1 b1 : Value} {wx wy : World} (h : JH ga gb a0 a1 b1 wx) (hb : Below wx.heap.size wx wy) : JH ga gb a0 a1 b1 wy :=
  ⟨(hb.cell (p := ⟨ga, 0, none⟩) (cell_lt h.1)).trans h.1, (hb.cell (p := ⟨ga, 1, none⟩) (cell_lt h.1)).trans h.2.1, (hb.cell (p := ⟨gb, 1, none⟩) (cell_lt h.2.2)).trans h.2.2⟩
theorem JH.far {ga gb : Nat} {a0 a1 b1 : Value} {wx wy : World} (h : JH ga gb a0 a1 b1 wx) (h1 : wy.heap[ga]? = wx.heap[ga]?) (h2 : wy.heap[gb]? = wx.heap[gb]?) : JH ga gb a0 a1 b1 wy :=
  ⟨(World.cell?_of_block (a := ⟨ga, 0, none⟩) h1).trans h.1, (World.cell?_of_block (a := ⟨ga, 1, none⟩) h1).trans h.2.1, (World.cell?_of_block (a := ⟨gb, 1, none⟩) h2).trans h.2.2⟩
theorem HNO5 {w W1 wr w5 : World} {go : Nat} {tG : TypeId} {vN : Value} {ls : List (Nd × (Option Addr × Nat × Nat))} (h : JInv w W1 go tG vN ls wr) (hb : Below wr.heap.size wr w5) : NOwn W1.heap.size w5 vN ls := h.own.below hb

set_option maxHeartbeats 8000000 in
theorem join_any (an ar : Option Addr) (nn cn nr cr : Nat) (ns : List Nd) (rs : List Int) (an' ar' : Option Addr) (nn' cn' nr' cr' : Nat) (ns' : List Nd) (rs' : List Int) (w : World) (G : GIs w an nn cn ar nr cr ns rs) (G' : GIs w an' nn' cn' ar' nr' cr' ns' rs') (hR : Raw ns rs) (hR' : Raw ns' rs')
    (hn : nn ≤ 1000) (hnr : nr ≤ 1000) (hn' : nn' ≤ 1000) (hnr' : nr' ≤ 1000) :
    Calls Tryd.prog 7 #[GVal an nn cn ar nr cr, GVal an' nn' cn' ar' nr' cr'] w fun e w' => ∃ a1 n1 c1 a2 n2 c2, e = .returned (GVal a1 n1 c1 a2 n2 c2) ∧ GIs w' a1 n1 c1 a2 n2 c2 (joinN ns ns') (movedL 0 rs ++ movedL nn rs') ∧ Below w.heap.size w w' := by
  have HG := hid G
  have HG' := hid G'
  have HR := hid hR
  have HR' := hid hR'
  have hn1 := G.nodes.fits
  have hn2 := G.nodes.most
  have hr1 := G.roots.fits
  have hr2 := G.roots.most
  have hn1' := G'.nodes.fits
  have hn2' := G'.nodes.most
  have hr1' := G'.roots.fits
  have hr2' := G'.roots.most
  have hlen := G.nodes.len
  have hlen' := G'.nodes.len
  unfold maxLen at hn2 hr2 hn2' hr2'
  unfold GVal
  clear G G' hR hR'
  go_enter Tryd.func7, Tryd.ntmps7
  go_wp2_with fail
  have bA : Below w.heap.size w (allocs w [(.cells #[.slice an nn cn, .slice ar nr cr] 25), (.cells #[.slice an' nn' cn', .slice ar' nr' cr'] 25), (.cells #[.slice none 0 0, .slice none 0 0] 25), (.cells #[.slice none 0 0, .slice none 0 0] 25)]) := allocs_below _ _
  have x0 : (allocs w [(.cells #[.slice an nn cn, .slice ar nr cr] 25), (.cells #[.slice an' nn' cn', .slice ar' nr' cr'] 25), (.cells #[.slice none 0 0, .slice none 0 0] 25), (.cells #[.slice none 0 0, .slice none 0 0] 25)]).heap[w.heap.size]? = some (.cells #[.slice an nn cn, .slice ar nr cr] 25 (0, 0)) := allocs_get (i := 0) rfl
  have x1 : (allocs w [(.cells #[.slice an nn cn, .slice ar nr cr] 25), (.cells #[.slice an' nn' cn', .slice ar' nr' cr'] 25), (.cells #[.slice none 0 0, .slice none 0 0] 25), (.cells #[.slice none 0 0, .slice none 0 0] 25)]).heap[w.heap.size + 1]? = some (.cells #[.slice an' nn' cn', .slice ar' nr' cr'] 25 (0, 0)) := allocs_get (i := 1) rfl
  have x2 : (allocs w [(.cells #[.slice an nn cn, .slice ar nr cr] 25), (.cells #[.slice an' nn' cn', .slice ar' nr' cr'] 25), (.cells #[.slice none 0 0, .slice none 0 0] 25), (.cells #[.slice none 0 0, .slice none 0 0] 25)]).heap[w.heap.size + 1 + 1]? = some (.cells #[.slice none 0 0, .slice none 0 0] 25 (0, 0)) := allocs_get (i := 2) rfl
  have x3 : (allocs w [(.cells #[.slice an nn cn, .slice ar nr cr] 25), (.cells #[.slice an' nn' cn', .slice ar' nr' cr'] 25), (.cells #[.slice none 0 0, .slice none 0 0] 25), (.cells #[.slice none 0 0, .slice none 0 0] 25)]).heap[w.heap.size + 1 + 1 + 1]? = some (.cells #[.slice none 0 0, .slice none 0 0] 25 (0, 0)) := allocs_get (i := 3) rfl
  have hsz : (allocs w [(.cells #[.slice an nn cn, .slice ar nr cr] 25), (.cells #[.slice an' nn' cn', .slice ar' nr' cr'] 25), (.cells #[.slice none 0 0, .slice none 0 0] 25), (.cells #[.slice none 0 0, .slice none 0 0] 25)]).heap.size = w.heap.size + 1 + 1 + 1 + 1 := by simp [allocs]
  have hWW : allocs w [(.cells #[.slice an nn cn, .slice ar nr cr] 25), (.cells #[.slice an' nn' cn', .slice ar' nr' cr'] 25), (.cells #[.slice none 0 0, .slice none 0 0] 25), (.cells #[.slice none 0 0, .slice none 0 0] 25)] = (((w.alloc (.cells #[.slice an nn cn, .slice ar nr cr] 25)).alloc (.cells #[.slice an' nn' cn', .slice ar' nr' cr'] 25)).alloc (.cells #[.slice none 0 0, .slice none 0 0] 25)).alloc (.cells #[.slice none 0 0, .slice none 0 0] 25) := rfl
  rw [← hWW]
  clear hWW
  generalize allocs w [(.cells #[.slice an nn cn, .slice ar nr cr] 25), (.cells #[.slice an' nn' cn', .slice ar' nr' cr'] 25), (.cells #[.slice none 0 0, .slice none 0 0] 25), (.cells #[.slice none 0 0, .slice none 0 0] 25)] = W1 at *
  obtain ⟨go, hgo⟩ : ∃ g, g = w.heap.size + 1 + 1 + 1 := ⟨_, rfl⟩
  obtain ⟨gr, hgr⟩ : ∃ g, g = w.heap.size + 1 + 1 := ⟨_, rfl⟩
  obtain ⟨gb, hgb⟩ : ∃ g, g = w.heap.size + 1 := ⟨_, rfl⟩
  obtain ⟨ga, hga⟩ : ∃ g, g = w.heap.size := ⟨_, rfl⟩
  rw [← hgo] at x3
  rw [← hgr] at x2
  rw [← hgb] at x1
  rw [← hga] at x0
  rw [← hgo, ← hgr, ← hgb, ← hga]
  have hne : Hid (ga ≠ go ∧ gb ≠ go ∧ gr ≠ go ∧ ga < W1.heap.size ∧ gb < W1.heap.size ∧ gr < W1.heap.size ∧ go < W1.heap.size ∧ w.heap.size ≤ ga ∧ w.heap.size ≤ gb ∧ w.heap.size ≤ gr ∧ w.heap.size ≤ go) := by refine ⟨?_, ?_, ?_, ?_, ?_, ?_, ?_, ?_, ?_, ?_, ?_⟩ <;> omega
  have HB1 := hid bA
  have X0 := hid x0
  have X1 := hid x1
  have X2 := hid x2
  have X3 := hid x3
  clear bA x0 x1 x2 x3 hsz hgo hgr hgb hga
  go_loopw [13] (fun i wr => ∃ m : Nat, m ≤ nn ∧ i = .int .i64 m ∧ Hid (∃ vN ls, JInv w W1 go 25 vN ls wr ∧ ls.map Prod.fst = (ns.take m).map (movedN 0))) (fun i _ => nn - (intOf i).toNat)
  case atStart => exact ⟨0, Nat.zero_le _, rfl, .slice none 0 0, [], ⟨X3.out, fun _ _ _ => rfl, NOwn.nil _ _, HB1.out, Nat.le_refl _⟩, rfl⟩
  case round =>
    obtain ⟨m, hmn, rfl, hI⟩ := hrel
    obtain ⟨vN, ls, hJ, hls⟩ := hI.out
    obtain ⟨av, cv, rfl, hNR⟩ := hJ.own.row
    have HJ := hid hJ
    have HLS := hid hls
    have hlsm : ls.length = m := by
      have := congrArg List.length hls; simp at this; omega
    have HLM := hid hlsm
    clear hlsm hJ hls hNR hI
    by_cases hlt : m < nn
    · obtain ⟨b, o, rfl, hlb, hcc⟩ := HG.out.nodes.some (by omega)
      have hml : m < ns.length := by omega
      have hnd := (hcc m hlt).below hlb HJ.out.bel
      have hdok := HG.out.nodes.get hlt
      have hraw := HR.out.kids _ (getD_mem_nd hml)
      have htk : Hid (ns.take (m + 1) = ns.take m ++ [ns.getD m default]) := by unfold Hid; rw [List.take_succ_eq_append_getElem hml, List.getD_eq_getElem?_getD, List.getElem?_eq_getElem hml]; rfl
      generalize ns.getD m default = d at *
      obtain ⟨j1, j2, j3, ak, nk, ck, j4, j5⟩ := hnd
      obtain ⟨dk, dn, dt, dl⟩ := d
      simp only [] at j1 j2 j3 j5 hraw hdok
      have HDOK := hid hdok
      have HRAW := hid hraw
      have hnk := j5.fits
      have hnk2 := j5.most
      have hnk3 := j5.len
      unfold maxLen at hnk2
      have hnk4 : nk ≤ 1000 := by omega
      have J5 := hid j5
      have HBX := hid (Ba wr (.cells #[.int .i64 dk, .int .i64 dn, .string dt, .slice ak nk ck] 32))
      have HBK := hid (blk_new wr #[.int .i64 dk, .int .i64 dn, .string dt, .slice ak nk ck] 32)
      have hszX := size_alloc wr (.cells #[.int .i64 dk, .int .i64 dn, .string dt, .slice ak nk ck] 32)
      clear hcc hraw hdok j5
      go_wp2_with fail
      obtain ⟨gn, hgn⟩ : ∃ g, g = wr.heap.size := ⟨_, rfl⟩
      rw [← hgn] at HBK hszX
      rw [← hgn]
      have hgn2 : Hid (wr.heap.size ≤ gn) := by unfold Hid; omega
      clear hgn j1 j2 j3 j4
      generalize wr.alloc (.cells #[.int .i64 dk, .int .i64 dn, .string dt, .slice ak nk ck] 32) = W2 at *
      have HGO := hid ((HBX.out.block go (Array.getElem?_eq_some_iff.1 HJ.out.out).1).trans HJ.out.out)
      have HNO := hid (HJ.out.own.below HBX.out)
      have HS0 : Hid (NHeld gn dk dn dt ak nk ck W2) := ⟨blk_cell HBK.out 0, blk_cell HBK.out 1, blk_cell HBK.out 2, blk_cell HBK.out 3⟩
      refine wp_region_held_drew (S := NHeld gn dk dn dt ak nk ck) (by kernel_rfl) (HS0.out.on (Bd W2 1)) (fun hHeld => ?_)
      refine htake 0 (some 17) (.pointer (some ⟨go, 0, none⟩)) rfl rfl (by kernel_rfl) (by kernel_rfl) (by kernel_rfl) (fun _ _ _ h => h) (Or.inl ⟨by rfl, fun wx hSw => ?_⟩) (by assumption) ?_
      · go_simp
      simp only [Act.put, List.setIfInBounds_toArray, List.set_cons_zero, List.set_cons_succ]
      refine htake 2 (some 19) (.agg #[.int .i64 dk, .int .i64 dn, .string dt, .slice ak nk ck]) rfl rfl (by kernel_rfl) (by kernel_rfl) (by kernel_rfl) (fun _ _ _ h => h) (Or.inl ⟨by rfl, fun wx hSw => ?_⟩) (by assumption) ?_
      · obtain ⟨s0, s1, s2, s3⟩ := hSw; go_simp
      simp only [Act.put, List.setIfInBounds_toArray, List.set_cons_zero, List.set_cons_succ]
      refine wpAnyH_from Ljn1 Mjn (fun a0 s a wx => s.1 ≤ 2 ∧ ∃ t18 t20 t21, a = ((a0.put (some 18) t18).put (some 20) t20).put (some 21) t21 ∧ JSt W2 (.slice av ls.length cv) dk dn dt nk (movedL (0 : Int) dl) s.1 s.2 t18 t20 t21 wx) 3 3 (0, false) rfl ?_ ?_
      · exact ⟨by decide, u18, u20, u21, rfl, JSt.mk0 (Bd W2 1)⟩
      clear hHeld
      rintro ⟨k, al⟩ a wx ⟨hk, t18, t20, t21, rfl, hst⟩
      simp only [Act.put, List.setIfInBounds_toArray, List.set_cons_zero, List.set_cons_succ]
      simp only at hk hst
      have HSt := hid hst
      clear hst
      have HSX := hid (HS0.out.on (HSt.out.bel) : NHeld gn dk dn dt ak nk ck wx)
      have cgo : wx.cell? ⟨go, 0, none⟩ = some (.slice av ls.length cv) := blk_cell ((HSt.out.bel.block go (Array.getElem?_eq_some_iff.1 HGO.out).1).trans HGO.out) 0
      rcases (show k = 0 ∨ k = 1 ∨ k = 2 by omega) with rfl | rfl | rfl <;> clear hk <;> cases al
      · refine .inr ⟨[1, 3], by decide, by kernel_rfl, by simp, ?_⟩
        refine Steps.cons (0, true) rfl rfl rfl (fun K hK => ?_) ?_
        · go_simp; exact hK.out _ _ HSX.out ⟨by decide, (.slice av ls.length cv), t20, t21, rfl, HSt.out.load⟩
        refine Steps.cons (1, false) rfl rfl rfl (fun K hK => ?_) ?_
        · go_simp; go_at_call 13; refine (movedNode_any dk dn dt ak nk ck dl (0 : Int) wx (J5.out.below (Bt HBX.out HSt.out.bel)) HRAW.out.1 (by omega) hnk4).mono ?_; rintro e wy ⟨ak', ck', rfl, hown, bv⟩; exact hK.out _ _ (HSX.out.on (bv)) ⟨by decide, t18, _, t21, rfl, HSt.out.call bv hown⟩
        exact Steps.nil
      · refine .inr ⟨[3], by decide, by kernel_rfl, by simp, ?_⟩
        refine Steps.cons (1, true) rfl rfl rfl (fun K hK => ?_) ?_
        · go_simp; go_at_call 13; refine (movedNode_any dk dn dt ak nk ck dl (0 : Int) wx (J5.out.below (Bt HBX.out HSt.out.bel)) HRAW.out.1 (by omega) hnk4).mono ?_; rintro e wy ⟨ak', ck', rfl, hown, bv⟩; exact hK.out _ _ (HSX.out.on (bv)) ⟨by decide, t18, _, t21, rfl, HSt.out.call bv hown⟩
        exact Steps.nil
      · refine .inr ⟨[1, 4], by decide, by kernel_rfl, by simp, ?_⟩
        refine Steps.cons (1, true) rfl rfl rfl (fun K hK => ?_) ?_
        · go_simp; exact hK.out _ _ HSX.out ⟨by decide, (.slice av ls.length cv), t20, t21, rfl, HSt.out.load⟩
        refine Steps.cons (2, false) rfl rfl rfl (fun K hK => ?_) ?_
        · obtain ⟨ak', ck', rfl, _, _⟩ := HSt.out.i1 (by omega); go_simp; exact hK.out _ _ (HSX.out.on (Ba _ _)) ⟨by decide, t18, _, _, rfl, HSt.out.build⟩
        exact Steps.nil
      · refine .inr ⟨[4], by decide, by kernel_rfl, by simp, ?_⟩
        refine Steps.cons (2, true) rfl rfl rfl (fun K hK => ?_) ?_
        · obtain ⟨ak', ck', rfl, _, _⟩ := HSt.out.i1 (by omega); go_simp; exact hK.out _ _ (HSX.out.on (Ba _ _)) ⟨by decide, t18, _, _, rfl, HSt.out.build⟩
        exact Steps.nil
      · refine .inr ⟨[1], by decide, by kernel_rfl, by simp, ?_⟩
        refine Steps.cons (2, true) rfl rfl rfl (fun K hK => ?_) ?_
        · go_simp; exact hK.out _ _ HSX.out ⟨by decide, (.slice av ls.length cv), t20, t21, rfl, HSt.out.load⟩
        exact Steps.nil
      · refine .inl ⟨rfl, ?_⟩
        obtain ⟨ak', ck', rfl, hown, h2⟩ := HSt.out.i1 (by omega)
        obtain ⟨g0, rfl, hg0, hg0l⟩ := h2 (by omega)
        obtain rfl := HSt.out.i0 rfl
        have HOWN := hid hown
        have HG0 := hid hg0
        have HG0L := hid hg0l
        have HNX := hid (HNO.out.below HSt.out.bel)
        have HGX := hid ((HSt.out.bel.block go (Array.getElem?_eq_some_iff.1 HGO.out).1).trans HGO.out)
        have hbase : W1.heap.size ≤ wx.heap.size := Nat.le_trans HJ.out.size (Nat.le_trans HBX.out.size HSt.out.bel.size)
        clear h2 hown hg0 hg0l cgo
        refine hone 5 _ rfl (by kernel_rfl) (fun K hK => ?_)
        refine stepNode (some 22) rfl rfl _ _ 22 rfl W1.heap.size 32 Tryd.underlying22 info_node _ ls.length (ncs ls) rfl HNX.out.own g0 1 (⟨dk, dn, dt, movedL (0 : Int) dl⟩, ak', nk, ck') rfl (fun j u hj => news_of HG0.out hj) (by have := HLM.out; omega) hbase ?_
        intro g cap w6 ho hgrow hloc hglt
        obtain ⟨q1, q2⟩ := nfar HNX.out hgrow HGX.out hne.out.2.2.2.2.2.2.1
        have hgn6 : w6.heap[gn]? = wx.heap[gn]? := hgrow.block gn (by have := HSt.out.bel.size; omega) (fun e => by have := (HJ.out.own.own.lt gn e.symm).2; have := hgn2.out; omega)
        have hgne : gn ≠ go := by have := hgn2.out; have := HJ.out.size; have := hne.out; omega
        have hren : ∀ z ∈ movedL (0 : Int) dl, I64 z := by
          intro z hz; obtain ⟨y, hy, rfl⟩ := List.mem_map.1 hz; have := HRAW.out.1 y hy; unfold I64; omega
        obtain ⟨_, _, hve, hIR⟩ := irow_of HOWN.out hren
        cases hve
        have hpush : NOwn W1.heap.size (w6.setCell ⟨go, 0, none⟩ (.slice (some ⟨g, 0, none⟩) (ls.length + 1) cap)) (.slice (some ⟨g, 0, none⟩) (ls.length + 1) cap) (ls ++ [(⟨dk, dn, dt, movedL (0 : Int) dl⟩, ak', nk, ck')]) :=
          HNX.out.pushed hne.out.2.2.2.2.2.2.1 ho hgrow hloc ⟨HDOK.out.1, HDOK.out.2.1, HDOK.out.2.2⟩ hIR (fun ad had => by
            have had' : ak' = some ad := had
            have h1 := HOWN.out.lt ad.block (by rw [had']; rfl)
            have h2 := HJ.out.size
            have h3 := HBX.out.size
            refine ⟨by omega, h1.2, fun e => ?_⟩
            have h4 := (HJ.out.own.own.lt ad.block e).2
            omega)
        have hbelx : Below w.heap.size w wx := HJ.out.bel.trans ((Bt HBX.out HSt.out.bel).mono HJ.out.bel.size)
        have hbel6 : Below w.heap.size wx w6 := (Below.refl _ _).grown hgrow (Nat.le_trans HB1.out.size hbase) (fun k hk => Nat.le_trans HB1.out.size (HNX.out.own.lt k hk).1)
        have HNEW : Hid (JInv w W1 go 25 (.slice (some ⟨g, 0, none⟩) (ls.length + 1) cap) (ls ++ [(⟨dk, dn, dt, movedL (0 : Int) dl⟩, ak', nk, ck')]) (w6.setCell ⟨go, 0, none⟩ (.slice (some ⟨g, 0, none⟩) (ls.length + 1) cap))) := by
          refine ⟨?_, fun b hb hbg => ?_, hpush, (hbelx.trans hbel6).setCell (p := ⟨go, 0, none⟩) hne.out.2.2.2.2.2.2.2.2.2.2 _, ?_⟩
          · have := blk_set (i := 0) ((hgrow.block go (Array.getElem?_eq_some_iff.1 HGX.out).1 (fun e => by have := (HNX.out.own.lt go e.symm).1; have := hne.out; omega)).trans HGX.out) (.slice (some ⟨g, 0, none⟩) (ls.length + 1) cap); rw [this]; rfl
          · refine (Below.heap_setCell _ _ _ _ hbg).trans ((hgrow.block b (Nat.lt_of_lt_of_le hb hbase) (fun e => by have := (HNX.out.own.lt b e.symm).1; omega)).trans ?_)
            have hbr : b < wr.heap.size := Nat.lt_of_lt_of_le hb HJ.out.size
            exact ((Bt HBX.out HSt.out.bel).block b hbr).trans (HJ.out.keep b hb hbg)
          · have := hgrow.size; simp [World.setCell]; omega
        have HNL : Hid ((ls ++ [((⟨dk, dn, dt, movedL (0 : Int) dl⟩ : Nd), ak', nk, ck')]).map Prod.fst = (ns.take (m + 1)).map (movedN 0)) := by
          unfold Hid; rw [htk.out, List.map_append, List.map_append, HLS.out]; rfl
        have HSA : Hid (NHeld gn dk dn dt ak nk ck w6) := HSX.out.far hgn6
        have HSB : Hid (NHeld gn dk dn dt ak nk ck (w6.setCell ⟨go, 0, none⟩ (.slice (some ⟨g, 0, none⟩) (ls.length + 1) cap))) := HSA.out.far (Below.heap_setCell _ _ _ _ hgne)
        clear ho hgrow hloc hglt hIR hren hpush hbelx hbel6 hgn6 hgne hbase
        refine hK.out _ _ HSA.out (fun hHeld => ?_)
        clear hK K hHeld
        simp only [Act.put, List.setIfInBounds_toArray, List.set_cons_zero, List.set_cons_succ]
        refine hone 6 _ rfl (by kernel_rfl) (fun K hK => ?_)
        go_simp
        refine hK.out _ _ HSA.out (fun hHeld => ?_)
        clear hK K hHeld
        refine hone 7 _ rfl (by kernel_rfl) (fun K hK => ?_)
        go_simp
        refine hK.out _ _ HSB.out (fun hHeld => ?_)
        clear hK K hHeld q1 q2 HSA HSB
        refine wpAnyH_done (by kernel_rfl) ?_ _
        generalize w6.setCell ⟨go, 0, none⟩ (.slice (some ⟨g, 0, none⟩) (ls.length + 1) cap) = w7 at *
        go_wp2
        exact ⟨⟨m + 1, by omega, by go_num, _, _, HNEW.out, HNL.out⟩, by simp [intOf] <;> omega⟩
    · obtain rfl : nn = m := by omega
      have hls := HLS.out
      rw [List.take_of_length_le (by omega)] at hls
      have HLS := hid hls
      clear hls
      have cb0 : wr.cell? ⟨gb, 0, none⟩ = some (.slice an' nn' cn') := blk_cell ((HJ.out.keep gb hne.out.2.2.2.2.1 hne.out.2.1).trans X1.out) 0
      go_wp2_with fail
      clear cb0
      go_loopw [28] (fun i wr => ∃ m : Nat, m ≤ nn' ∧ i = .int .i64 m ∧ Hid (∃ vN ls, JInv w W1 go 25 vN ls wr ∧ ls.map Prod.fst = ns.map (movedN 0) ++ (ns'.take m).map (movedN (nn : Nat)))) (fun i _ => nn' - (intOf i).toNat)
      case atStart => exact ⟨0, Nat.zero_le _, rfl, _, _, HJ.out, by rw [HLS.out]; simp⟩
      case round =>
        obtain ⟨m, hmn, rfl, hI⟩ := hrel
        clear HJ HLS
        obtain ⟨vN, ls, hJ, hls⟩ := hI.out
        obtain ⟨av, cv, rfl, hNR⟩ := hJ.own.row
        have HJ := hid hJ
        have HLS := hid hls
        have hlsm : ls.length = nn + m := by
          have := congrArg List.length hls; simp at this; omega
        have HLM := hid hlsm
        clear hlsm hJ hls hNR hI
        by_cases hlt : m < nn'
        · obtain ⟨b, o, rfl, hlb, hcc⟩ := HG'.out.nodes.some (by omega)
          have hml : m < ns'.length := by omega
          have hnd := (hcc m hlt).below hlb HJ.out.bel
          have hdok := HG'.out.nodes.get hlt
          have hraw := HR'.out.kids _ (getD_mem_nd hml)
          have htk : Hid (ns'.take (m + 1) = ns'.take m ++ [ns'.getD m default]) := by unfold Hid; rw [List.take_succ_eq_append_getElem hml, List.getD_eq_getElem?_getD, List.getElem?_eq_getElem hml]; rfl
          generalize ns'.getD m default = d at *
          obtain ⟨j1, j2, j3, ak, nk, ck, j4, j5⟩ := hnd
          obtain ⟨dk, dn, dt, dl⟩ := d
          simp only [] at j1 j2 j3 j5 hraw hdok
          have HDOK := hid hdok
          have HRAW := hid hraw
          have hnk := j5.fits
          have hnk2 := j5.most
          have hnk3 := j5.len
          unfold maxLen at hnk2
          have hnk4 : nk ≤ 1000 := by omega
          have J5 := hid j5
          have HBX := hid (Ba wr (.cells #[.int .i64 dk, .int .i64 dn, .string dt, .slice ak nk ck] 32))
          have HBK := hid (blk_new wr #[.int .i64 dk, .int .i64 dn, .string dt, .slice ak nk ck] 32)
          have hszX := size_alloc wr (.cells #[.int .i64 dk, .int .i64 dn, .string dt, .slice ak nk ck] 32)
          clear hcc hraw hdok j5
          go_wp2_with fail
          obtain ⟨gn, hgn⟩ : ∃ g, g = wr.heap.size := ⟨_, rfl⟩
          rw [← hgn] at HBK hszX
          rw [← hgn]
          have hgn2 : Hid (wr.heap.size ≤ gn) := by unfold Hid; omega
          clear hgn j1 j2 j3 j4
          generalize wr.alloc (.cells #[.int .i64 dk, .int .i64 dn, .string dt, .slice ak nk ck] 32) = W2 at *
          have HGO := hid ((HBX.out.block go (Array.getElem?_eq_some_iff.1 HJ.out.out).1).trans HJ.out.out)
          have HNO := hid (HJ.out.own.below HBX.out)
          have HS0 : Hid (NHeld gn dk dn dt ak nk ck W2) := ⟨blk_cell HBK.out 0, blk_cell HBK.out 1, blk_cell HBK.out 2, blk_cell HBK.out 3⟩
          have HAB : Hid (∀ wx, Below W2.heap.size W2 wx → wx.cell? ⟨ga, 0, none⟩ = some (.slice an nn cn)) := fun wx bx => blk_cell ((bx.block ga (Nat.lt_of_lt_of_le hne.out.2.2.2.1 (Nat.le_trans HJ.out.size HBX.out.size))).trans ((HBX.out.block ga (Nat.lt_of_lt_of_le hne.out.2.2.2.1 HJ.out.size)).trans ((HJ.out.keep ga hne.out.2.2.2.1 hne.out.1).trans X0.out))) 0
          refine wp_region_held_drew (S := fun wx => NHeld gn dk dn dt ak nk ck wx ∧ wx.cell? ⟨ga, 0, none⟩ = some (.slice an nn cn)) (by kernel_rfl) (⟨HS0.out.on (Bd W2 1), HAB.out _ (Bd W2 1)⟩) (fun hHeld => ?_)
          refine htake 0 (some 32) (.pointer (some ⟨go, 0, none⟩)) rfl rfl (by kernel_rfl) (by kernel_rfl) (by kernel_rfl) (fun _ _ _ h => h) (Or.inl ⟨by rfl, fun wx hSw => ?_⟩) (by assumption) ?_
          · go_simp
          simp only [Act.put, List.setIfInBounds_toArray, List.set_cons_zero, List.set_cons_succ]
          refine htake 2 (some 34) (.agg #[.int .i64 dk, .int .i64 dn, .string dt, .slice ak nk ck]) rfl rfl (by kernel_rfl) (by kernel_rfl) (by kernel_rfl) (fun _ _ _ h => h) (Or.inl ⟨by rfl, fun wx hSw => ?_⟩) (by assumption) ?_
          · obtain ⟨⟨s0, s1, s2, s3⟩, s4⟩ := hSw; go_simp
          simp only [Act.put, List.setIfInBounds_toArray, List.set_cons_zero, List.set_cons_succ]
          refine htake 3 (some 35) (.pointer (some ⟨ga, 0, none⟩)) rfl rfl (by kernel_rfl) (by kernel_rfl) (by kernel_rfl) (fun _ _ _ h => h) (Or.inl ⟨by rfl, fun wx hSw => ?_⟩) (by assumption) ?_
          · go_simp
          simp only [Act.put, List.setIfInBounds_toArray, List.set_cons_zero, List.set_cons_succ]
          refine htake 4 (some 36) (.slice an nn cn) rfl rfl (by kernel_rfl) (by kernel_rfl) (by kernel_rfl) (fun _ _ _ h => h) (Or.inl ⟨by rfl, fun wx hSw => ?_⟩) (by assumption) ?_
          · obtain ⟨⟨s0, s1, s2, s3⟩, s4⟩ := hSw; go_simp
          simp only [Act.put, List.setIfInBounds_toArray, List.set_cons_zero, List.set_cons_succ]
          refine htake 5 (some 37) (.int .i64 (nn : Int)) rfl rfl (by kernel_rfl) (by kernel_rfl) (by kernel_rfl) (fun _ _ _ h => h) (Or.inl ⟨by rfl, fun wx hSw => ?_⟩) (by assumption) ?_
          · go_simp
          simp only [Act.put, List.setIfInBounds_toArray, List.set_cons_zero, List.set_cons_succ]
          refine wpAnyH_from Ljn2 Mjn (fun a0 s a wx => s.1 ≤ 2 ∧ ∃ t18 t20 t21, a = ((a0.put (some 33) t18).put (some 38) t20).put (some 39) t21 ∧ JSt W2 (.slice av ls.length cv) dk dn dt nk (movedL ((nn : Nat) : Int) dl) s.1 s.2 t18 t20 t21 wx) 3 3 (0, false) rfl ?_ ?_
          · exact ⟨by decide, u33, u38, u39, rfl, JSt.mk0 (Bd W2 1)⟩
          clear hHeld
          rintro ⟨k, al⟩ a wx ⟨hk, t18, t20, t21, rfl, hst⟩
          simp only [Act.put, List.setIfInBounds_toArray, List.set_cons_zero, List.set_cons_succ]
          simp only at hk hst
          have HSt := hid hst
          clear hst
          have HSX := hid ((⟨HS0.out.on (HSt.out.bel), HAB.out _ (HSt.out.bel)⟩) : NHeld gn dk dn dt ak nk ck wx ∧ wx.cell? ⟨ga, 0, none⟩ = some (.slice an nn cn))
          have cgo : wx.cell? ⟨go, 0, none⟩ = some (.slice av ls.length cv) := blk_cell ((HSt.out.bel.block go (Array.getElem?_eq_some_iff.1 HGO.out).1).trans HGO.out) 0
          rcases (show k = 0 ∨ k = 1 ∨ k = 2 by omega) with rfl | rfl | rfl <;> clear hk <;> cases al
          · refine .inr ⟨[1, 6], by decide, by kernel_rfl, by simp, ?_⟩
            refine Steps.cons (0, true) rfl rfl rfl (fun K hK => ?_) ?_
            · go_simp; exact hK.out _ _ HSX.out ⟨by decide, (.slice av ls.length cv), t20, t21, rfl, HSt.out.load⟩
            refine Steps.cons (1, false) rfl rfl rfl (fun K hK => ?_) ?_
            · go_simp; go_at_call 13; refine (movedNode_any dk dn dt ak nk ck dl ((nn : Nat) : Int) wx (J5.out.below (Bt HBX.out HSt.out.bel)) HRAW.out.1 (by omega) hnk4).mono ?_; rintro e wy ⟨ak', ck', rfl, hown, bv⟩; exact hK.out _ _ ⟨HSX.out.1.on (bv), HAB.out _ (Bt HSt.out.bel (bv))⟩ ⟨by decide, t18, _, t21, rfl, HSt.out.call bv hown⟩
            exact Steps.nil
          · refine .inr ⟨[6], by decide, by kernel_rfl, by simp, ?_⟩
            refine Steps.cons (1, true) rfl rfl rfl (fun K hK => ?_) ?_
            · go_simp; go_at_call 13; refine (movedNode_any dk dn dt ak nk ck dl ((nn : Nat) : Int) wx (J5.out.below (Bt HBX.out HSt.out.bel)) HRAW.out.1 (by omega) hnk4).mono ?_; rintro e wy ⟨ak', ck', rfl, hown, bv⟩; exact hK.out _ _ ⟨HSX.out.1.on (bv), HAB.out _ (Bt HSt.out.bel (bv))⟩ ⟨by decide, t18, _, t21, rfl, HSt.out.call bv hown⟩
            exact Steps.nil
          · refine .inr ⟨[1, 7], by decide, by kernel_rfl, by simp, ?_⟩
            refine Steps.cons (1, true) rfl rfl rfl (fun K hK => ?_) ?_
            · go_simp; exact hK.out _ _ HSX.out ⟨by decide, (.slice av ls.length cv), t20, t21, rfl, HSt.out.load⟩
            refine Steps.cons (2, false) rfl rfl rfl (fun K hK => ?_) ?_
            · obtain ⟨ak', ck', rfl, _, _⟩ := HSt.out.i1 (by omega); go_simp; exact hK.out _ _ ⟨HSX.out.1.on (Ba _ _), HAB.out _ (Bt HSt.out.bel (Ba _ _))⟩ ⟨by decide, t18, _, _, rfl, HSt.out.build⟩
            exact Steps.nil
          · refine .inr ⟨[7], by decide, by kernel_rfl, by simp, ?_⟩
            refine Steps.cons (2, true) rfl rfl rfl (fun K hK => ?_) ?_
            · obtain ⟨ak', ck', rfl, _, _⟩ := HSt.out.i1 (by omega); go_simp; exact hK.out _ _ ⟨HSX.out.1.on (Ba _ _), HAB.out _ (Bt HSt.out.bel (Ba _ _))⟩ ⟨by decide, t18, _, _, rfl, HSt.out.build⟩
            exact Steps.nil
          · refine .inr ⟨[1], by decide, by kernel_rfl, by simp, ?_⟩
            refine Steps.cons (2, true) rfl rfl rfl (fun K hK => ?_) ?_
            · go_simp; exact hK.out _ _ HSX.out ⟨by decide, (.slice av ls.length cv), t20, t21, rfl, HSt.out.load⟩
            exact Steps.nil
          · refine .inl ⟨rfl, ?_⟩
            obtain ⟨ak', ck', rfl, hown, h2⟩ := HSt.out.i1 (by omega)
            obtain ⟨g0, rfl, hg0, hg0l⟩ := h2 (by omega)
            obtain rfl := HSt.out.i0 rfl
            have HOWN := hid hown
            have HG0 := hid hg0
            have HG0L := hid hg0l
            have HNX := hid (HNO.out.below HSt.out.bel)
            have HGX := hid ((HSt.out.bel.block go (Array.getElem?_eq_some_iff.1 HGO.out).1).trans HGO.out)
            have hbase : W1.heap.size ≤ wx.heap.size := Nat.le_trans HJ.out.size (Nat.le_trans HBX.out.size HSt.out.bel.size)
            clear h2 hown hg0 hg0l cgo
            refine hone 8 _ rfl (by kernel_rfl) (fun K hK => ?_)
            refine stepNode (some 40) rfl rfl _ _ 22 rfl W1.heap.size 32 Tryd.underlying22 info_node _ ls.length (ncs ls) rfl HNX.out.own g0 1 (⟨dk, dn, dt, movedL ((nn : Nat) : Int) dl⟩, ak', nk, ck') rfl (fun j u hj => news_of HG0.out hj) (by have := HLM.out; omega) hbase ?_
            intro g cap w6 ho hgrow hloc hglt
            obtain ⟨q1, q2⟩ := nfar HNX.out hgrow HGX.out hne.out.2.2.2.2.2.2.1
            have hgn6 : w6.heap[gn]? = wx.heap[gn]? := hgrow.block gn (by have := HSt.out.bel.size; omega) (fun e => by have := (HJ.out.own.own.lt gn e.symm).2; have := hgn2.out; omega)
            have hga6 : w6.heap[ga]? = wx.heap[ga]? := hgrow.block ga (Nat.lt_of_lt_of_le hne.out.2.2.2.1 hbase) (fun e => by have := (HJ.out.own.own.lt ga e.symm).1; have := hne.out.2.2.2.1; omega)
            have hgne : gn ≠ go := by have := hgn2.out; have := HJ.out.size; have := hne.out; omega
            have hren : ∀ z ∈ movedL ((nn : Nat) : Int) dl, I64 z := by
              intro z hz; obtain ⟨y, hy, rfl⟩ := List.mem_map.1 hz; have := HRAW.out.1 y hy; unfold I64; omega
            obtain ⟨_, _, hve, hIR⟩ := irow_of HOWN.out hren
            cases hve
            have hpush : NOwn W1.heap.size (w6.setCell ⟨go, 0, none⟩ (.slice (some ⟨g, 0, none⟩) (ls.length + 1) cap)) (.slice (some ⟨g, 0, none⟩) (ls.length + 1) cap) (ls ++ [(⟨dk, dn, dt, movedL ((nn : Nat) : Int) dl⟩, ak', nk, ck')]) :=
              HNX.out.pushed hne.out.2.2.2.2.2.2.1 ho hgrow hloc ⟨HDOK.out.1, HDOK.out.2.1, HDOK.out.2.2⟩ hIR (fun ad had => by
                have had' : ak' = some ad := had
                have h1 := HOWN.out.lt ad.block (by rw [had']; rfl)
                have h2 := HJ.out.size
                have h3 := HBX.out.size
                refine ⟨by omega, h1.2, fun e => ?_⟩
                have h4 := (HJ.out.own.own.lt ad.block e).2
                omega)
            have hbelx : Below w.heap.size w wx := HJ.out.bel.trans ((Bt HBX.out HSt.out.bel).mono HJ.out.bel.size)
            have hbel6 : Below w.heap.size wx w6 := (Below.refl _ _).grown hgrow (Nat.le_trans HB1.out.size hbase) (fun k hk => Nat.le_trans HB1.out.size (HNX.out.own.lt k hk).1)
            have HNEW : Hid (JInv w W1 go 25 (.slice (some ⟨g, 0, none⟩) (ls.length + 1) cap) (ls ++ [(⟨dk, dn, dt, movedL ((nn : Nat) : Int) dl⟩, ak', nk, ck')]) (w6.setCell ⟨go, 0, none⟩ (.slice (some ⟨g, 0, none⟩) (ls.length + 1) cap))) := by
              refine ⟨?_, fun b hb hbg => ?_, hpush, (hbelx.trans hbel6).setCell (p := ⟨go, 0, none⟩) hne.out.2.2.2.2.2.2.2.2.2.2 _, ?_⟩
              · have := blk_set (i := 0) ((hgrow.block go (Array.getElem?_eq_some_iff.1 HGX.out).1 (fun e => by have := (HNX.out.own.lt go e.symm).1; have := hne.out; omega)).trans HGX.out) (.slice (some ⟨g, 0, none⟩) (ls.length + 1) cap); rw [this]; rfl
              · refine (Below.heap_setCell _ _ _ _ hbg).trans ((hgrow.block b (Nat.lt_of_lt_of_le hb hbase) (fun e => by have := (HNX.out.own.lt b e.symm).1; omega)).trans ?_)
                have hbr : b < wr.heap.size := Nat.lt_of_lt_of_le hb HJ.out.size
                exact ((Bt HBX.out HSt.out.bel).block b hbr).trans (HJ.out.keep b hb hbg)
              · have := hgrow.size; simp [World.setCell]; omega
            have HNL : Hid ((ls ++ [((⟨dk, dn, dt, movedL ((nn : Nat) : Int) dl⟩ : Nd), ak', nk, ck')]).map Prod.fst = ns.map (movedN 0) ++ (ns'.take (m + 1)).map (movedN (nn : Nat))) := by
              unfold Hid; rw [htk.out, List.map_append, List.map_append, HLS.out, List.append_assoc]; rfl
            have HSA : Hid (NHeld gn dk dn dt ak nk ck w6 ∧ w6.cell? ⟨ga, 0, none⟩ = some (.slice an nn cn)) := ⟨HSX.out.1.far hgn6, (World.cell?_of_block (a := ⟨ga, 0, none⟩) hga6).trans HSX.out.2⟩
            have HSB : Hid (NHeld gn dk dn dt ak nk ck (w6.setCell ⟨go, 0, none⟩ (.slice (some ⟨g, 0, none⟩) (ls.length + 1) cap)) ∧ (w6.setCell ⟨go, 0, none⟩ (.slice (some ⟨g, 0, none⟩) (ls.length + 1) cap)).cell? ⟨ga, 0, none⟩ = some (.slice an nn cn)) := ⟨HSA.out.1.far (Below.heap_setCell _ _ _ _ hgne), (World.cell?_of_block (a := ⟨ga, 0, none⟩) (Below.heap_setCell _ _ _ _ hne.out.1)).trans HSA.out.2⟩
            clear ho hgrow hloc hglt hIR hren hpush hbelx hbel6 hgn6 hgne hbase hga6
            refine hK.out _ _ HSA.out (fun hHeld => ?_)
            clear hK K hHeld
            simp only [Act.put, List.setIfInBounds_toArray, List.set_cons_zero, List.set_cons_succ]
            refine hone 9 _ rfl (by kernel_rfl) (fun K hK => ?_)
            go_simp
            refine hK.out _ _ HSA.out (fun hHeld => ?_)
            clear hK K hHeld
            refine hone 10 _ rfl (by kernel_rfl) (fun K hK => ?_)
            go_simp
            refine hK.out _ _ HSB.out (fun hHeld => ?_)
            clear hK K hHeld q1 q2 HSA HSB
            refine wpAnyH_done (by kernel_rfl) ?_ _
            generalize w6.setCell ⟨go, 0, none⟩ (.slice (some ⟨g, 0, none⟩) (ls.length + 1) cap) = w7 at *
            go_wp2
            exact ⟨⟨m + 1, by omega, by go_num, _, _, HNEW.out, HNL.out⟩, by simp [intOf] <;> omega⟩
        · obtain rfl : nn' = m := by omega
          have hls := HLS.out
          rw [List.take_of_length_le (by omega)] at hls
          have HLS := hid hls
          clear hls
          have ya := (HJ.out.keep ga hne.out.2.2.2.1 hne.out.1).trans X0.out
          have yb := (HJ.out.keep gb hne.out.2.2.2.2.1 hne.out.2.1).trans X1.out
          have yr := (HJ.out.keep gr hne.out.2.2.2.2.2.1 hne.out.2.2.1).trans X2.out
          have YA := hid ya
          have YB := hid yb
          have YR := hid yr
          have HS0 : Hid (JH ga gb (.slice an nn cn) (.slice ar nr cr) (.slice ar' nr' cr') wr) := ⟨blk_cell ya 0, blk_cell ya 1, blk_cell yb 1⟩
          have RA := hid (HG.out.roots.below HJ.out.bel)
          have RB := hid (HG'.out.roots.below HJ.out.bel)
          clear ya yb yr
          go_wp2_with fail
          refine wp_region_held_drew (S := JH ga gb (.slice an nn cn) (.slice ar nr cr) (.slice ar' nr' cr')) (by kernel_rfl) (HS0.out.on (Bd wr 1)) (fun hHeld => ?_)
          refine htake 0 (some 43) (.pointer (some ⟨ga, 1, none⟩)) rfl rfl (by kernel_rfl) (by kernel_rfl) (by kernel_rfl) (fun _ _ _ h => h) (Or.inl ⟨by rfl, fun wx hSw => ?_⟩) (by assumption) ?_
          · go_simp
          simp only [Act.put, List.setIfInBounds_toArray, List.set_cons_zero, List.set_cons_succ]
          refine htake 1 (some 44) (.slice ar nr cr) rfl rfl (by kernel_rfl) (by kernel_rfl) (by kernel_rfl) (fun _ _ _ h => h) (Or.inl ⟨by rfl, fun wx hSw => ?_⟩) (by assumption) ?_
          · obtain ⟨s0, s1, s2⟩ := hSw; go_simp
          simp only [Act.put, List.setIfInBounds_toArray, List.set_cons_zero, List.set_cons_succ]
          refine htake 3 (some 46) (.pointer (some ⟨gb, 1, none⟩)) rfl rfl (by kernel_rfl) (by kernel_rfl) (by kernel_rfl) (fun _ _ _ h => h) (Or.inl ⟨by rfl, fun wx hSw => ?_⟩) (by assumption) ?_
          · go_simp
          simp only [Act.put, List.setIfInBounds_toArray, List.set_cons_zero, List.set_cons_succ]
          refine htake 4 (some 47) (.slice ar' nr' cr') rfl rfl (by kernel_rfl) (by kernel_rfl) (by kernel_rfl) (fun _ _ _ h => h) (Or.inl ⟨by rfl, fun wx hSw => ?_⟩) (by assumption) ?_
          · obtain ⟨s0, s1, s2⟩ := hSw; go_simp
          simp only [Act.put, List.setIfInBounds_toArray, List.set_cons_zero, List.set_cons_succ]
          refine htake 5 (some 48) (.pointer (some ⟨ga, 0, none⟩)) rfl rfl (by kernel_rfl) (by kernel_rfl) (by kernel_rfl) (fun _ _ _ h => h) (Or.inl ⟨by rfl, fun wx hSw => ?_⟩) (by assumption) ?_
          · go_simp
          simp only [Act.put, List.setIfInBounds_toArray, List.set_cons_zero, List.set_cons_succ]
          refine htake 6 (some 49) (.slice an nn cn) rfl rfl (by kernel_rfl) (by kernel_rfl) (by kernel_rfl) (fun _ _ _ h => h) (Or.inl ⟨by rfl, fun wx hSw => ?_⟩) (by assumption) ?_
          · obtain ⟨s0, s1, s2⟩ := hSw; go_simp
          simp only [Act.put, List.setIfInBounds_toArray, List.set_cons_zero, List.set_cons_succ]
          refine htake 7 (some 50) (.int .i64 (nn : Int)) rfl rfl (by kernel_rfl) (by kernel_rfl) (by kernel_rfl) (fun _ _ _ h => h) (Or.inl ⟨by rfl, fun wx hSw => ?_⟩) (by assumption) ?_
          · go_simp
          simp only [Act.put, List.setIfInBounds_toArray, List.set_cons_zero, List.set_cons_succ]
          clear hHeld
          have HBD : Hid (Below wr.heap.size wr wr.drew) := Bd wr 1
          have HS1 : Hid (JH ga gb (.slice an nn cn) (.slice ar nr cr) (.slice ar' nr' cr') wr.drew) := HS0.out.on (Bd wr 1)
          generalize wr.drew = w2 at *
          refine hone 2 _ rfl (by kernel_rfl) (fun K hK => ?_)
          go_simp
          go_at_call 14
          refine (moved_any ar nr cr rs 0 w2 (RA.out.below HBD.out) HR.out.roots (by omega) hnr).mono ?_
          rintro e w3 ⟨v1, rfl, hown1, b3⟩
          refine hK.out _ _ (HS1.out.on b3) (fun hHeld => ?_)
          clear hK K hHeld
          have HO1 := hid hown1
          have HB3 := hid b3
          clear hown1 b3
          try simp only [Act.put, List.setIfInBounds_toArray, List.set_cons_zero, List.set_cons_succ]
          refine hone 8 _ rfl (by kernel_rfl) (fun K hK => ?_)
          go_simp
          go_at_call 14
          refine (moved_any ar' nr' cr' rs' ((nn : Nat) : Int) w3 (RB.out.below (Bt HBD.out HB3.out)) HR'.out.roots (by omega) hnr').mono ?_
          rintro e w4 ⟨v2, rfl, hown2, b4⟩
          refine hK.out _ _ ((HS1.out.on HB3.out).on b4) (fun hHeld => ?_)
          clear hK K hHeld
          have hraw2 : ∀ z ∈ movedL ((nn : Nat) : Int) rs', I64 z := by intro z hz; obtain ⟨y, hy, rfl⟩ := List.mem_map.1 hz; have := HR'.out.roots y hy; unfold I64; omega
          have hraw1 : ∀ z ∈ movedL 0 rs, I64 z := by intro z hz; obtain ⟨y, hy, rfl⟩ := List.mem_map.1 hz; have := HR.out.roots y hy; unfold I64; omega
          obtain ⟨a2, c2, rfl, hI2⟩ := irow_of hown2 hraw2
          have HO1' := hid (owns_on HO1.out b4)
          have HB4 := hid (Bt (Bt HBD.out HB3.out) b4)
          have HRW : Hid (∀ z ∈ movedL 0 rs ++ movedL ((nn : Nat) : Int) rs', I64 z) := fun z hz => by rcases List.mem_append.1 hz with h | h; exact hraw1 z h; exact hraw2 z h
          have hb24 : w2.heap.size ≤ w4.heap.size := Nat.le_trans HB3.out.size b4.size
          have HS4 := hid ((HS1.out.on HB3.out).on b4)
          clear hown2 b4 hraw1 hraw2
          try simp only [Act.put, List.setIfInBounds_toArray, List.set_cons_zero, List.set_cons_succ]
          refine hone 9 _ rfl (by kernel_rfl) (fun K hK => ?_)
          refine stepInts (some 52) rfl rfl _ _ 23 rfl w2.heap.size 3 Tryd.underlying23 info_int v1 nr (movedL 0 rs) rfl HO1'.out a2 nr' c2 (movedL ((nn : Nat) : Int) rs') rfl hI2 (by omega) hb24 ?_
          intro v w5 ho hgrow
          have hw2 : wr.heap.size ≤ w2.heap.size := HBD.out.size
          have hbg : Below wr.heap.size w4 w5 := (Below.refl _ _).grown hgrow (Nat.le_trans hw2 hb24) (fun k hk => Nat.le_trans hw2 (HO1'.out.lt k hk).1)
          have hb5 : Below wr.heap.size wr w5 := HB4.out.trans hbg
          obtain ⟨a3, c3, rfl, hI3⟩ := irow_of ho HRW.out
          have y5 := (hb5.block go (Array.getElem?_eq_some_iff.1 HJ.out.out).1).trans HJ.out.out
          have HY5 := hid y5
          have HO5 := hid ho
          have HB5 := hid hb5
          have HI3 := hid hI3
          have q1 : w5.frozen? ⟨go, 1, none⟩ = false := blk_free y5 1
          have q2 : w5.cell? ⟨go, 1, none⟩ = some (.slice none 0 0) := blk_cell y5 1
          have hs5 : JH ga gb (.slice an nn cn) (.slice ar nr cr) (.slice ar' nr' cr') w5 := HS0.out.on hb5
          have HS5 := hid hs5
          clear ho hgrow hbg hb5 hI3 hI2 y5 hs5 hw2
          refine hK.out _ _ HS5.out (fun hHeld => ?_)
          clear hK K hHeld
          try simp only [Act.put, List.setIfInBounds_toArray, List.set_cons_zero, List.set_cons_succ]
          refine hone 10 _ rfl (by kernel_rfl) (fun K hK => ?_)
          go_simp
          refine hK.out _ _ HS5.out (fun hHeld => ?_)
          clear hK K hHeld
          have HS6 : Hid (JH ga gb (.slice an nn cn) (.slice ar nr cr) (.slice ar' nr' cr') (w5.setCell ⟨go, 1, none⟩ (.slice a3 (nr + nr') c3))) := HS5.out.far (Below.heap_setCell _ _ _ _ hne.out.1) (Below.heap_setCell _ _ _ _ hne.out.2.1)
          refine hone 11 _ rfl (by kernel_rfl) (fun K hK => ?_)
          go_simp
          refine hK.out _ _ HS6.out (fun hHeld => ?_)
          clear hK K hHeld q1 q2 HS6
          refine wpAnyH_done (by kernel_rfl) ?_ _
          have y6 : (w5.setCell ⟨go, 1, none⟩ (.slice a3 (nr + nr') c3)).heap[go]? = some (.cells #[.slice av ls.length cv, .slice a3 (nr + nr') c3] 25 (0, 0)) := by have := blk_set (i := 1) HY5.out (.slice a3 (nr + nr') c3); rw [this]; rfl
          have r6 : (w5.setCell ⟨go, 1, none⟩ (.slice a3 (nr + nr') c3)).heap[gr]? = some (.cells #[.slice none 0 0, .slice none 0 0] 25 (0, 0)) := (Below.heap_setCell _ _ _ _ hne.out.2.2.1).trans ((HB5.out.block gr (Nat.lt_of_lt_of_le hne.out.2.2.2.2.2.1 HJ.out.size)).trans YR.out)
          have c0 : (w5.setCell ⟨go, 1, none⟩ (.slice a3 (nr + nr') c3)).cell? ⟨go, 0, none⟩ = some (.slice av ls.length cv) := blk_cell y6 0
          have c1 : (w5.setCell ⟨go, 1, none⟩ (.slice a3 (nr + nr') c3)).cell? ⟨go, 1, none⟩ = some (.slice a3 (nr + nr') c3) := blk_cell y6 1
          have d0 : (w5.setCell ⟨go, 1, none⟩ (.slice a3 (nr + nr') c3)).cell? ⟨gr, 0, none⟩ = some (.slice none 0 0) := blk_cell r6 0
          have d1 : (w5.setCell ⟨go, 1, none⟩ (.slice a3 (nr + nr') c3)).cell? ⟨gr, 1, none⟩ = some (.slice none 0 0) := blk_cell r6 1
          have e0 : (w5.setCell ⟨go, 1, none⟩ (.slice a3 (nr + nr') c3)).frozen? ⟨gr, 0, none⟩ = false := blk_free r6 0
          have e1 : (w5.setCell ⟨go, 1, none⟩ (.slice a3 (nr + nr') c3)).frozen? ⟨gr, 1, none⟩ = false := blk_free r6 1
          have HR6 := hid r6
          have hnlo := HNO5 HJ.out HB5.out
          have N6 : NOwn W1.heap.size (w5.setCell ⟨go, 1, none⟩ (.slice a3 (nr + nr') c3)) (.slice av ls.length cv) ls := hnlo.frame (fun b hb => Below.heap_setCell _ _ _ _ (by show b ≠ go; have := hne.out; omega)) (by simp [World.setCell])
          have I6 : IRow (w5.setCell ⟨go, 1, none⟩ (.slice a3 (nr + nr') c3)) a3 (nr + nr') c3 (movedL 0 rs ++ movedL ((nn : Nat) : Int) rs') := HI3.out.frame (by simp [World.setCell]) (fun ad had => Below.heap_setCell _ _ _ _ (by show ad.block ≠ go; have := HO5.out.lt ad.block (by rw [had]; rfl); have := hne.out; have := HJ.out.size; have := HBD.out.size; omega))
          have B6 : Below w.heap.size w (w5.setCell ⟨go, 1, none⟩ (.slice a3 (nr + nr') c3)) := (HJ.out.bel.trans (HB5.out.mono HJ.out.bel.size)).setCell (p := ⟨go, 1, none⟩) hne.out.2.2.2.2.2.2.2.2.2.2 _
          have HN6 := hid N6
          have HI6 := hid I6
          have HB6 := hid B6
          have HO6 : Hid (∀ ad, a3 = some ad → W1.heap.size ≤ ad.block) := fun ad had => by have := HO5.out.lt ad.block (by rw [had]; rfl); have := HJ.out.size; have := HBD.out.size; omega
          clear y6 r6 N6 I6 B6 hnlo
          generalize w5.setCell ⟨go, 1, none⟩ (.slice a3 (nr + nr') c3) = w6 at *
          go_wp2_with fail
          have hst := store2 (v1 := .slice av ls.length cv) (v2 := .slice a3 (nr + nr') c3) HR6.out
          have t0 := blk_cell hst 0
          have t1 := blk_cell hst 1
          (try simp only [Exit.inBlock, Exit.then]); refine bodyPost_ret (by simp [results, Tryd.results7, go_sem, t0, t1]; rfl) rfl ?_
          have N7 : NOwn W1.heap.size ((w6.setCell ⟨gr, 0, none⟩ (.slice av ls.length cv)).setCell ⟨gr, 1, none⟩ (.slice a3 (nr + nr') c3)) (.slice av ls.length cv) ls := HN6.out.frame (fun b hb => store2_far (by have := hne.out; omega)) (by simp [World.setCell])
          obtain ⟨_, _, hve, hNR⟩ := N7.row
          cases hve
          rw [HLS.out] at hNR
          refine ⟨_, _, _, _, _, _, rfl, ⟨?_, HI6.out.frame (by simp [World.setCell]) (fun ad had => store2_far (by have := HO6.out ad had; have := hne.out; omega))⟩, store2_below HB6.out hne.out.2.2.2.2.2.2.2.2.2.1⟩
          unfold joinN
          rw [hlen]
          exact hNR
end Go.Proofs.YtfkdpomhojhapaaDoor
