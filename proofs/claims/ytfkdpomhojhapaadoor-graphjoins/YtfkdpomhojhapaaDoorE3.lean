/-
  Walk: Twin of the document's answer, with all that the call owns.
-/
import Derived.Test.YtfkdpomhojhapaaDoorC5
set_option linter.unusedVariables false
set_option linter.unusedSimpArgs false
set_option maxRecDepth 100000
namespace Go.Proofs.YtfkdpomhojhapaaDoor
open Go.RowKit

/-- Kids rows that the call owns, each a block of its own. -/
structure TRows (base : Nat) (w : World) (ls : List (Nd × (Option Addr × Nat × Nat))) : Prop where
  own : ∀ x ∈ ls, w.ownsRow base 3 1 (.slice x.2.1 x.2.2.1 x.2.2.2) x.2.2.1 (cz x.1.kids)
  apart : ls.Pairwise (fun x y => ∀ p q, x.2.1 = some p → y.2.1 = some q → p.block ≠ q.block)
/-- What Twin hands out. -/
structure TwinO (base b2 : Nat) (w : World) (a1 : Option Addr) (c1 : Nat) (a2 : Option Addr) (nr c2 : Nat) (ls : List (Nd × (Option Addr × Nat × Nat))) (rs : List Int) : Prop where
  nodes : NOwn base w (.slice a1 ls.length c1) ls
  rows : TRows base w ls
  roots : w.ownsRow b2 3 1 (.slice a2 nr c2) nr (cz rs)
  under : ∀ b, (Value.slice a1 ls.length c1).ownBlock = some b → b < b2
  kunder : ∀ x ∈ ls, ∀ ad, x.2.1 = some ad → ad.block < b2
  le : base ≤ b2
  le2 : b2 ≤ w.heap.size
  bd : ∀ z ∈ rs, I64 z
theorem TRows.nil (base : Nat) (w : World) : TRows base w [] := ⟨fun _ h => (by cases h), List.Pairwise.nil⟩
theorem owns_base {w : World} {base base' : Nat} {e : TypeId} {k : Nat} {v : Value} {n : Nat} {xs : List Value} (h : w.ownsRow base e k v n xs) (hb : base' ≤ base) : w.ownsRow base' e k v n xs := by
  refine ⟨h.1, ?_⟩
  rcases h.2 with h0 | ⟨g, cap, cur, h1, h2, h3, h4⟩
  · exact .inl h0
  · exact .inr ⟨g, cap, cur, h1, Nat.le_trans hb h2, h3, h4⟩
theorem TRows.frame {base : Nat} {w w' : World} {ls : List (Nd × (Option Addr × Nat × Nat))} (h : TRows base w ls) (hb : ∀ x ∈ ls, ∀ b, (Value.slice x.2.1 x.2.2.1 x.2.2.2).ownBlock = some b → w'.heap[b]? = w.heap[b]?) : TRows base w' ls :=
  ⟨fun x hx => owns_frame (h.own x hx) (fun b hb' => hb x hx b hb'), h.apart⟩
theorem TRows.push {base base' : Nat} {w' : World} {ls : List (Nd × (Option Addr × Nat × Nat))} {d : Nd} {ak : Option Addr} {nk ck : Nat} (h : TRows base w' ls) (ho : w'.ownsRow base' 3 1 (.slice ak nk ck) nk (cz d.kids)) (hb : base ≤ base') (hlt : ∀ x ∈ ls, ∀ ad, x.2.1 = some ad → ad.block < base') : TRows base w' (ls ++ [(d, ak, nk, ck)]) := by
  refine ⟨fun x hx => ?_, List.pairwise_append.2 ⟨h.apart, List.pairwise_singleton _ _, fun x hx y hy p q hp hq => ?_⟩⟩
  · rcases List.mem_append.1 hx with hx | hx
    · exact h.own x hx
    · obtain rfl := List.mem_singleton.1 hx
      exact owns_base ho hb
  · obtain rfl := List.mem_singleton.1 hy
    have h1 := hlt x hx p hp
    have h2 := (ho.lt q.block (by simp only at hq; rw [hq]; rfl)).1
    omega

set_option maxHeartbeats 8000000 in
theorem rtwin_own (an ar : Option Addr) (nn cn nr cr : Nat) (ns : List Nd) (rs : List Int) (w : World) (G : GIs w an nn cn ar nr cr ns rs) (hk : ∀ d ∈ ns, d.kids.length ≤ 1000) (hn : nn ≤ 1000) (hnr : nr ≤ 1000) :
    Calls Tryd.prog 15 #[GVal an nn cn ar nr cr] w fun e w' => ∃ a1 c1 a2 c2 ls base b2, e = .returned (GVal a1 ls.length c1 a2 nr c2) ∧ ls.map Prod.fst = ns ∧ TwinO base b2 w' a1 c1 a2 nr c2 ls rs ∧ w.heap.size ≤ base ∧ Below w.heap.size w w' := by
  have HG := hid G
  have HK := hid hk
  have hn1 := G.nodes.fits
  have hn2 := G.nodes.most
  have hr1 := G.roots.fits
  have hr2 := G.roots.most
  have hlen := G.nodes.len
  have hrl := G.roots.len
  unfold maxLen at hn2 hr2
  unfold GVal
  clear G hk
  go_enter Tryd.func15, Tryd.ntmps15
  go_wp2_with fail
  have bA : Below w.heap.size w (allocs w [(.cells #[.slice an nn cn, .slice ar nr cr] 25), (.cells #[.slice none 0 0, .slice none 0 0] 25), (.cells #[.slice none 0 0, .slice none 0 0] 25)]) := allocs_below _ _
  have x0 : (allocs w [(.cells #[.slice an nn cn, .slice ar nr cr] 25), (.cells #[.slice none 0 0, .slice none 0 0] 25), (.cells #[.slice none 0 0, .slice none 0 0] 25)]).heap[w.heap.size]? = some (.cells #[.slice an nn cn, .slice ar nr cr] 25 (0, 0)) := allocs_get (i := 0) rfl
  have x2 : (allocs w [(.cells #[.slice an nn cn, .slice ar nr cr] 25), (.cells #[.slice none 0 0, .slice none 0 0] 25), (.cells #[.slice none 0 0, .slice none 0 0] 25)]).heap[w.heap.size + 1]? = some (.cells #[.slice none 0 0, .slice none 0 0] 25 (0, 0)) := allocs_get (i := 1) rfl
  have x3 : (allocs w [(.cells #[.slice an nn cn, .slice ar nr cr] 25), (.cells #[.slice none 0 0, .slice none 0 0] 25), (.cells #[.slice none 0 0, .slice none 0 0] 25)]).heap[w.heap.size + 1 + 1]? = some (.cells #[.slice none 0 0, .slice none 0 0] 25 (0, 0)) := allocs_get (i := 2) rfl
  have hsz : (allocs w [(.cells #[.slice an nn cn, .slice ar nr cr] 25), (.cells #[.slice none 0 0, .slice none 0 0] 25), (.cells #[.slice none 0 0, .slice none 0 0] 25)]).heap.size = w.heap.size + 1 + 1 + 1 := by simp [allocs]
  have hWW : allocs w [(.cells #[.slice an nn cn, .slice ar nr cr] 25), (.cells #[.slice none 0 0, .slice none 0 0] 25), (.cells #[.slice none 0 0, .slice none 0 0] 25)] = ((w.alloc (.cells #[.slice an nn cn, .slice ar nr cr] 25)).alloc (.cells #[.slice none 0 0, .slice none 0 0] 25)).alloc (.cells #[.slice none 0 0, .slice none 0 0] 25) := rfl
  rw [← hWW]
  clear hWW
  generalize allocs w [(.cells #[.slice an nn cn, .slice ar nr cr] 25), (.cells #[.slice none 0 0, .slice none 0 0] 25), (.cells #[.slice none 0 0, .slice none 0 0] 25)] = W1 at *
  obtain ⟨go, hgo⟩ : ∃ g, g = w.heap.size + 1 + 1 := ⟨_, rfl⟩
  obtain ⟨gr, hgr⟩ : ∃ g, g = w.heap.size + 1 := ⟨_, rfl⟩
  obtain ⟨ga, hga⟩ : ∃ g, g = w.heap.size := ⟨_, rfl⟩
  rw [← hgo] at x3
  rw [← hgr] at x2
  rw [← hga] at x0
  rw [← hgo, ← hgr, ← hga]
  have hne : Hid (ga ≠ go ∧ gr ≠ go ∧ ga < W1.heap.size ∧ gr < W1.heap.size ∧ go < W1.heap.size ∧ w.heap.size ≤ gr ∧ w.heap.size ≤ go) := by refine ⟨?_, ?_, ?_, ?_, ?_, ?_, ?_⟩ <;> omega
  have HB1 := hid bA
  have X0 := hid x0
  have X2 := hid x2
  have X3 := hid x3
  have hgtl : go < W1.heap.size := hne.out.2.2.2.2.1
  clear bA x0 x2 x3 hsz hgo hgr hga
  go_loopw [4] (fun i wr => ∃ m : Nat, m ≤ nn ∧ i = .int .i64 m ∧ Hid (∃ vN ls, JInv w W1 go 25 vN ls wr ∧ ls.map Prod.fst = ns.take m ∧ TRows W1.heap.size wr ls)) (fun i _ => nn - (intOf i).toNat)
  case atStart => exact ⟨0, Nat.zero_le _, rfl, .slice none 0 0, [], ⟨X3.out, fun _ _ _ => rfl, NOwn.nil _ _, HB1.out, Nat.le_refl _⟩, rfl, TRows.nil _ _⟩
  case round =>
    obtain ⟨m, hmn, rfl, hI⟩ := hrel
    obtain ⟨vN, ls, hJ, hls, hTR⟩ := hI.out
    obtain ⟨av, cv, rfl, hNR⟩ := hJ.own.row
    have HJ := hid hJ
    have HLS := hid hls
    have HTR := hid hTR
    have HLM : Hid (ls.length = m) := by
      have := congrArg List.length hls; simp at this; unfold Hid; omega
    have cb0 : wr.cell? ⟨ga, 0, none⟩ = some (.slice an nn cn) := blk_cell ((hJ.keep ga hne.out.2.2.1 hne.out.1).trans X0.out) 0
    clear hJ hls hNR hI hTR
    by_cases hlt : m < nn
    · obtain ⟨b, o, rfl, hlb, hcc⟩ := HG.out.nodes.some (by omega)
      have hml : m < ns.length := by omega
      have hnd := (hcc m hlt).below hlb HJ.out.bel
      have hdok := HG.out.nodes.get hlt
      have htk : Hid (ns.take (m + 1) = ns.take m ++ [ns.getD m default]) := by unfold Hid; rw [List.take_succ_eq_append_getElem hml, List.getD_eq_getElem?_getD, List.getElem?_eq_getElem hml]; rfl
      have hkl := HK.out _ (getD_mem_nd hml)
      generalize ns.getD m default = d at *
      obtain ⟨j1, j2, j3, ak, nk, ck, j4, j5⟩ := hnd
      obtain ⟨dk, dn, dt, dl⟩ := d
      simp only [] at j1 j2 j3 j5 hdok hkl
      have HDOK := hid hdok
      have hnk := j5.fits
      have hnk2 := j5.most
      have hnk3 := j5.len
      have hnk4 : nk ≤ 1000 := by omega
      unfold maxLen at hnk2
      have HKB := hid j5.bd
      have bX := Ba wr (.cells #[.int .i64 dk, .int .i64 dn, .string dt, .slice ak nk ck] 32)
      have bE := Ba (wr.alloc (.cells #[.int .i64 dk, .int .i64 dn, .string dt, .slice ak nk ck] 32)) (.cells #[] 3)
      have hxb := blk_new wr #[.int .i64 dk, .int .i64 dn, .string dt, .slice ak nk ck] 32
      have hxb2 := (bE.block wr.heap.size (by rw [size_alloc]; omega)).trans hxb
      have hx3 : ((wr.alloc (.cells #[.int .i64 dk, .int .i64 dn, .string dt, .slice ak nk ck] 32)).alloc (.cells #[] 3)).cell? ⟨wr.heap.size, 3, none⟩ = some (.slice ak nk ck) := blk_cell hxb2 3
      have J5 := hid ((j5.below bX).below bE)
      have HOE : Hid (((wr.alloc (.cells #[.int .i64 dk, .int .i64 dn, .string dt, .slice ak nk ck] 32)).alloc (.cells #[] 3)).ownsRow (wr.heap.size + 1) 3 1 (.slice (some ⟨wr.heap.size + 1, 0, none⟩) 0 0) 0 (cz [])) := by
        have h1 : ((wr.alloc (.cells #[.int .i64 dk, .int .i64 dn, .string dt, .slice ak nk ck] 32)).alloc (.cells #[] 3)).heap[wr.heap.size + 1]? = some (.cells #[] 3 (0, 0)) := heap_alloc2_new wr (.cells #[.int .i64 dk, .int .i64 dn, .string dt, .slice ak nk ck] 32) (.cells #[] 3)
        exact own_lit h1 rfl rfl (by omega) _ (Nat.le_refl _)
      have hsz2 : ((wr.alloc (.cells #[.int .i64 dk, .int .i64 dn, .string dt, .slice ak nk ck] 32)).alloc (.cells #[] 3)).heap.size = wr.heap.size + 1 + 1 := by rw [size_alloc, size_alloc]
      have HXE := hid (Bt bX bE)
      have HXB := hid hxb2
      clear hcc hdok j5 bX bE hxb hxb2
      have hsmall : ls.length ≤ 1000000 := by have := HLM.out; omega
      have hs3 : wr.heap.size + 1 < ((wr.alloc (.cells #[.int .i64 dk, .int .i64 dn, .string dt, .slice ak nk ck] 32)).alloc (.cells #[] 3)).heap.size := by rw [hsz2]; omega
      go_wp2_with (first
        | (at_builtin; refine appIs rfl _ _ 23 rfl (wr.heap.size + 1) 3 Tryd.underlying23 info_int _ 0 [] rfl HOE.out ak nk ck dl rfl J5.out (by omega) (by rw [hsz2]; omega) ?_; intro v w5 hown hgrow; rw [Nat.zero_add, List.nil_append] at hown; obtain ⟨ak', ck', rfl, hIR⟩ := irow_of hown HKB.out; have TF := hid (twin_facts HJ.out rfl HXE.out hs3 HXB.out hgrow hown HKB.out); obtain ⟨f3, cc3⟩ := And.intro TF.out.f3 TF.out.cc3; have n0 := TF.out.n0; have n1 := TF.out.n1; have n2 := TF.out.n2; have n3 := TF.out.n3; have g0c := TF.out.g0; have HO5 := hid hown; clear hown hgrow hIR)
        | (at_builtin; refine appn rfl _ _ 22 rfl W1.heap.size 32 Tryd.underlying22 info_node _ _ (ncs ls) rfl TF.out.no.own w5.heap.size 1 (⟨dk, dn, dt, dl⟩, ak', nk, ck') rfl (fun j u hj => news_of TF.out.na hj) hsmall (Nat.le_trans HJ.out.size TF.out.ba.size) ?_; intro g cap w6 hown hgrow hloc hglt; obtain ⟨q1, q2⟩ := nfar TF.out.no hgrow TF.out.ga hgtl))
      have hNP := TF.out.no.pushed (d := (⟨dk, dn, dt, dl⟩, ak', nk, ck')) hgtl hown hgrow hloc HDOK.out TF.out.ia (fun ad had => ?kb)
      case kb =>
        obtain ⟨z1, z2⟩ := TF.out.ka ad had
        have s1 := HJ.out.size
        refine ⟨by omega, z2, fun e => ?_⟩
        have := HJ.out.own.own.lt _ e
        omega
      have hrowge : ∀ k, (Value.slice av ls.length cv).ownBlock = some k → W1.heap.size ≤ k := fun k hk => (HJ.out.own.own.lt k hk).1
      have hB6 : Below W1.heap.size wr w6 := (TF.out.ba.mono HJ.out.size).grown hgrow (Nat.le_trans HJ.out.size TF.out.ba.size) hrowge
      have hgo6 := (hgrow.block go (Array.getElem?_eq_some_iff.1 TF.out.ga).1 (fun e => by have := hrowge go e.symm; omega)).trans TF.out.ga
      refine ⟨⟨m + 1, by omega, by go_num, .slice (some ⟨g, 0, none⟩) (ls.length + 1) cap, ls ++ [(⟨dk, dn, dt, dl⟩, ak', nk, ck')], ⟨?_, fun b hb hbg => ?_, hNP, ?_, ?_⟩, ?_, ?_⟩, by simp [intOf] <;> omega⟩
      · have := blk_set (i := 0) hgo6 (.slice (some ⟨g, 0, none⟩) (ls.length + 1) cap); rw [this]; rfl
      · exact (Below.heap_setCell _ _ _ _ hbg).trans ((hB6.block b hb).trans (HJ.out.keep b hb hbg))
      · exact (HJ.out.bel.trans (hB6.mono HB1.out.size)).setCell (p := ⟨go, 0, none⟩) hne.out.2.2.2.2.2.2 _
      · have := hB6.size; have := HJ.out.size; simp [World.setCell]; omega
      · rw [htk.out, List.map_append, HLS.out]; rfl
      · have hgb : ∀ b, W1.heap.size ≤ b → b < ((w5.setCell ⟨wr.heap.size, 3, none⟩ (.slice ak' nk ck')).alloc (.cells #[.int .i64 dk, .int .i64 dn, .string dt, .slice ak' nk ck'] 32)).heap.size → (Value.slice av ls.length cv).ownBlock ≠ some b → (w6.setCell ⟨go, 0, none⟩ (.slice (some ⟨g, 0, none⟩) (ls.length + 1) cap)).heap[b]? = ((w5.setCell ⟨wr.heap.size, 3, none⟩ (.slice ak' nk ck')).alloc (.cells #[.int .i64 dk, .int .i64 dn, .string dt, .slice ak' nk ck'] 32)).heap[b]? := fun b h1 h2 h3 =>
          (Below.heap_setCell _ _ _ _ (by show b ≠ go; omega)).trans (hgrow.block b h2 (fun e => h3 e.symm))
        have hs4 : (w5.setCell ⟨wr.heap.size, 3, none⟩ (.slice ak' nk ck')).heap.size = w5.heap.size := by simp [World.setCell]
        have s1 := HJ.out.size
        refine TRows.push (base' := wr.heap.size + 1) (HTR.out.frame (fun x hx b hb => ?_)) (owns_frame HO5.out (fun b hb => ?_)) (by omega) (fun x hx ad had => by have := ((HJ.out.own.kids x hx).2 ad had).2.1; omega)
        · obtain ⟨ad, had, rfl⟩ : ∃ ad : Addr, x.2.1 = some ad ∧ ad.block = b := by
            cases e : x.2.1 with
            | none => rw [e] at hb; cases hb
            | some ad => rw [e] at hb; exact ⟨ad, rfl, by injection hb⟩
          obtain ⟨r1, r2, r3⟩ := (HJ.out.own.kids x hx).2 ad had
          exact (hgb _ r1 (Nat.lt_of_lt_of_le r2 TF.out.ba.size) r3).trans (TF.out.ba.block _ r2)
        · obtain ⟨l1, l2⟩ := HO5.out.lt b hb
          refine (hgb b (by omega) (by rw [size_alloc, hs4]; omega) (fun e => by have := (HJ.out.own.own.lt b e).2; omega)).trans ?_
          exact ((Ba _ _).block b (by rw [hs4]; exact l2)).trans (Below.heap_setCell _ _ _ _ (by show b ≠ wr.heap.size; omega))
    · obtain rfl : nn = m := by omega
      have hls := HLS.out
      rw [List.take_of_length_le (by omega)] at hls
      have HLT := hid hls
      have ca1 : wr.cell? ⟨ga, 1, none⟩ = some (.slice ar nr cr) := blk_cell ((HJ.out.keep ga hne.out.2.2.1 hne.out.1).trans X0.out) 1
      have co1 : wr.cell? ⟨go, 1, none⟩ = some (.slice none 0 0) := blk_cell HJ.out.out 1
      have RA := hid (HG.out.roots.below HJ.out.bel)
      have HRB := hid RA.out.bd
      have hY := HJ.out.out
      have hR := (HJ.out.keep gr hne.out.2.2.2.1 hne.out.2.1).trans X2.out
      have HYY := hid hY
      have HRR := hid hR
      have hgow : Hid (go < wr.heap.size ∧ gr < wr.heap.size) := ⟨(Array.getElem?_eq_some_iff.1 hY).1, (Array.getElem?_eq_some_iff.1 hR).1⟩
      clear hls HLS HLM hmn hlt hY hR
      go_wp2_with (at_builtin; refine appIs rfl _ _ 23 rfl wr.heap.size 3 Tryd.underlying23 info_int _ 0 [] rfl (World.ownsRow_nil _ _ _ _) ar nr cr rs rfl RA.out (by omega) (Nat.le_refl _) ?_; intro v w5 hown hgrow; rw [Nat.zero_add, List.nil_append] at hown; obtain ⟨a3, c3, rfl, hI3⟩ := irow_of hown HRB.out; have b5 : Below wr.heap.size wr w5 := (Below.refl _ _).grown hgrow (Nat.le_refl _) (fun k hk => by cases hk); have y5 := (b5.block go hgow.out.1).trans HYY.out; have r5 := (b5.block gr hgow.out.2).trans HRR.out; have HB5 := hid b5; have HI3 := hid hI3; have HO5 := hid hown; have HY5 := hid y5; have HR5 := hid r5; have q1 := blk_free y5 1; have q2 := blk_cell y5 1; clear hown hgrow hI3; have y6 : (w5.setCell ⟨go, 1, none⟩ (.slice a3 nr c3)).heap[go]? = some (.cells #[.slice av ls.length cv, .slice a3 nr c3] 25 (0, 0)) := (blk_set (i := 1) y5 (.slice a3 nr c3)).trans rfl; have r6 := (Below.heap_setCell w5 ⟨go, 1, none⟩ (.slice a3 nr c3) gr hne.out.2.1).trans r5; have c0 := blk_cell y6 0; have c1 := blk_cell y6 1; have d0 := blk_cell r6 0; have d1 := blk_cell r6 1; have e0 := blk_free r6 0; have e1 := blk_free r6 1; have HR6 := hid r6; clear y5 r5 y6 r6 b5)
      have hst := store2 (v1 := .slice av ls.length cv) (v2 := .slice a3 nr c3) HR6.out
      have t0 := blk_cell hst 0
      have t1 := blk_cell hst 1
      (try simp only [Exit.inBlock, Exit.then]); refine bodyPost_ret (by simp [results, Tryd.results15, go_sem, t0, t1]; rfl) rfl ?_
      have N5 := HJ.out.own.below HB5.out
      have N7 : NOwn W1.heap.size (((w5.setCell ⟨go, 1, none⟩ (.slice a3 nr c3)).setCell ⟨gr, 0, none⟩ (.slice av ls.length cv)).setCell ⟨gr, 1, none⟩ (.slice a3 nr c3)) (.slice av ls.length cv) ls := N5.frame (fun b hb => (store2_far (by have := hne.out; omega)).trans (Below.heap_setCell _ _ _ _ (by show b ≠ go; have := hne.out; omega))) (by simp [World.setCell])
      refine ⟨_, _, _, _, ls, W1.heap.size, wr.heap.size, rfl, HLT.out, ⟨N7, ?_, ?_, fun b hb => ?_, fun x hx ad had => ((HJ.out.own.kids x hx).2 ad had).2.1, HJ.out.size, (by have := HB5.out.size; simpa [World.setCell] using this), HRB.out⟩, HB1.out.size, store2_below (((HJ.out.bel.trans (HB5.out.mono HJ.out.bel.size))).setCell (p := ⟨go, 1, none⟩) hne.out.2.2.2.2.2.2 _) hne.out.2.2.2.2.2.1⟩
      · refine HTR.out.frame (fun x hx b hb => ?_)
        obtain ⟨l1, l2⟩ := (HTR.out.own x hx).lt b hb
        exact (store2_far (by have := hne.out; omega)).trans ((Below.heap_setCell _ _ _ _ (by show b ≠ go; have := hne.out; omega)).trans (HB5.out.block b l2))
      · refine owns_frame HO5.out (fun b hb => ?_)
        obtain ⟨l1, l2⟩ := HO5.out.lt b hb
        exact (store2_far (by have := hgow.out; omega)).trans (Below.heap_setCell _ _ _ _ (by show b ≠ go; have := hgow.out; omega))
      · exact (HJ.out.own.own.lt b hb).2
end Go.Proofs.YtfkdpomhojhapaaDoor
