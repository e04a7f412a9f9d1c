/-
  Canon.
-/
import Derived.Test.YtfkdpomhojhapaaDoorG19
import Derived.Test.YtfkdpomhojhapaaDoorG11
set_option linter.unusedVariables false
set_option linter.unusedSimpArgs false
namespace Go.Proofs.YtfkdpomhojhapaaDoor
open Go.RowKit

/-- Following all roots, one behind the other. -/
def followR (ns : List Nd) (f : Nat) (rs : List Int) (s : List Int × List Int) : List Int × List Int := rs.foldl (fun s r => followS ns f [r] s.1 s.2) s
theorem followR_snoc (ns : List Nd) (f : Nat) (rs : List Int) (r : Int) (s : List Int × List Int) : followR ns f (rs ++ [r]) s = followS ns f [r] (followR ns f rs s).1 (followR ns f rs s).2 := by
  unfold followR; rw [List.foldl_append]; rfl
def start (n : Nat) : List Int × List Int := (List.replicate n (-1), [])
def canonG (ns : List Nd) (rs : List Int) (f : Nat) : List Nd × List Int :=
  if goodG ns rs = true then ((followR ns f rs (start ns.length)).2.map (newNode ns (followR ns f rs (start ns.length)).1), renum (followR ns f rs (start ns.length)).1 rs) else ([], [])
/-- What is known between two roots. -/
structure Sv (ns : List Nd) (nn : Nat) (pl ord : List Int) : Prop where
  plen : pl.length = nn
  nlen : ns.length = nn
  kids : ∀ d ∈ ns, placesB d.kids nn = true
  few : ∀ d ∈ ns, d.kids.length ≤ 100
  cnt : ord.length + pl.count (-1) ≤ nn
  i64 : ∀ z ∈ pl, I64 z
  rng : ∀ z ∈ ord, 0 ≤ z ∧ z < nn
theorem Sv.len {ns : List Nd} {nn : Nat} {pl ord : List Int} (h : Sv ns nn pl ord) : ord.length ≤ nn := by have := h.cnt; omega
theorem Sv.start_ {ns : List Nd} (hk : ∀ d ∈ ns, placesB d.kids ns.length = true) (hf : ∀ d ∈ ns, d.kids.length ≤ 100) : Sv ns ns.length (start ns.length).1 (start ns.length).2 :=
  ⟨by simp [start], rfl, hk, hf, by simp [start], fun z hz => by obtain ⟨_, rfl⟩ := List.mem_replicate.1 hz; unfold I64; omega, fun z hz => (by cases hz)⟩
theorem Sv.fv {ns : List Nd} {nn : Nat} {pl ord : List Int} (h : Sv ns nn pl ord) {r : Int} (hr : 0 ≤ r ∧ r < nn) {f : Nat} (hf : 1 + 100 * nn ≤ f) : Fv ns nn [r] pl ord f :=
  ⟨h.plen, h.nlen, h.kids, fun z hz => (by have e : z = r := (by simpa using hz); rw [e]; exact hr), by have := um_le (ns := ns) (pl := pl) h.few; rw [h.nlen] at this; simp; omega, h.cnt⟩
theorem mem_set_or {l : List Int} {i : Nat} {z x : Int} (h : x ∈ l.set i z) : x = z ∨ x ∈ l := by
  rcases List.mem_or_eq_of_mem_set h with h | h
  · exact .inr h
  · exact .inl h
theorem meetS_rng {ns : List Nd} {nn : Nat} {pl ord : List Int} {old : Nat} (ho : old < nn) (hl : ord.length ≤ nn) (hnn : nn ≤ 1000) (hi : ∀ z ∈ pl, I64 z) (hr : ∀ z ∈ ord, 0 ≤ z ∧ z < (nn : Int)) :
    (∀ z ∈ (meetS ns pl ord old).1, I64 z) ∧ (∀ z ∈ (meetS ns pl ord old).2, 0 ≤ z ∧ z < (nn : Int)) := by
  have hI : ∀ j : Nat, j ≤ nn → I64 (j : Int) := fun j hj => by unfold I64; omega
  have hnew : (∀ z ∈ pl.set old (ord.length : Int), I64 z) ∧ (∀ z ∈ ord ++ [(old : Int)], 0 ≤ z ∧ z < (nn : Int)) := by
    refine ⟨fun z hz => ?_, fun z hz => ?_⟩
    · rcases mem_set_or hz with rfl | hz
      · exact hI _ hl
      · exact hi z hz
    · rcases List.mem_append.1 hz with hz | hz
      · exact hr z hz
      · obtain rfl : z = (old : Int) := by simpa using hz
        omega
  unfold meetS
  split
  · split
    · rename_i j hj
      refine ⟨fun z hz => ?_, hr⟩
      rcases mem_set_or hz with rfl | hz
      · unfold findA at hj
        have := (List.findIdx?_eq_some_iff_getElem.1 hj).1
        exact hI _ (by omega)
      · exact hi z hz
    · exact hnew
  · exact hnew
theorem followS_rng {ns : List Nd} {nn : Nat} (hnn : nn ≤ 1000) : ∀ {f : Nat} {st pl ord : List Int}, Fv ns nn st pl ord f → (∀ z ∈ pl, I64 z) → (∀ z ∈ ord, 0 ≤ z ∧ z < (nn : Int)) →
    (∀ z ∈ (followS ns f st pl ord).1, I64 z) ∧ (∀ z ∈ (followS ns f st pl ord).2, 0 ≤ z ∧ z < (nn : Int))
  | 0, _, _, _, _, h1, h2 => ⟨h1, h2⟩
  | f + 1, [], _, _, _, h1, h2 => ⟨h1, h2⟩
  | f + 1, o :: st, pl, ord, h, h1, h2 => by
    unfold followS
    by_cases hp : pl.getD o.toNat 0 = -1
    · rw [if_neg (fun hq => hq hp)]
      have ho := h.rng o (by simp)
      obtain ⟨q1, q2⟩ := meetS_rng (ns := ns) (nn := nn) (pl := pl) (ord := ord) (old := o.toNat) (by omega) (by have := h.cnt; omega) hnn h1 h2
      exact followS_rng hnn (h.meet hp) q1 q2
    · rw [if_pos hp]; exact followS_rng hnn h.skip h1 h2
theorem Sv.follow {ns : List Nd} {nn : Nat} {pl ord : List Int} (h : Sv ns nn pl ord) (hnn : nn ≤ 1000) {r : Int} (hr : 0 ≤ r ∧ r < nn) {f : Nat} (hf : 1 + 100 * nn ≤ f) : Sv ns nn (followS ns f [r] pl ord).1 (followS ns f [r] pl ord).2 := by
  have hv := h.fv hr hf
  have he := hv.end_
  obtain ⟨q1, q2⟩ := followS_rng hnn hv h.i64 h.rng
  exact ⟨he.plen, he.nlen, h.kids, h.few, he.cnt, q1, q2⟩
theorem goodG_parts {ns : List Nd} {rs : List Int} (h : goodG ns rs = true) : (∀ d ∈ ns, placesB d.kids ns.length = true) ∧ placesB rs ns.length = true := by
  unfold goodG at h
  rw [Bool.and_eq_true] at h
  refine ⟨fun d hd => ?_, h.2⟩
  have := List.all_eq_true.1 h.1 d hd
  unfold nodeB at this
  rw [Bool.and_eq_true] at this
  exact this.2
theorem MapIs.new {w : World} {Bm : Nat} {ns : List Nd} (h : w.ownsMap (H := Unit) Tryd.prog 65 (plainElem Tryd.prog 3) Bm 0 (.map [])) : MapIs w Bm ns [] := by
  refine ⟨.map [], h, fun d kl _ _ _ => ?_⟩
  show Maps.has (.map []) kl = false
  rfl

theorem store2 {w : World} {g : Nat} {a b v1 v2 : Value} {t : TypeId} (h : w.heap[g]? = some (.cells #[a, b] t (0, 0))) : ((w.setCell ⟨g, 0, none⟩ v1).setCell ⟨g, 1, none⟩ v2).heap[g]? = some (.cells #[v1, v2] t (0, 0)) := by
  have h1 := blk_set (i := 0) h v1
  have h2 := blk_set (i := 1) h1 v2
  rw [h2]; rfl
theorem store2_far {w : World} {g b : Nat} {v1 v2 : Value} (h : b ≠ g) : ((w.setCell ⟨g, 0, none⟩ v1).setCell ⟨g, 1, none⟩ v2).heap[b]? = w.heap[b]? :=
  (Below.heap_setCell _ _ _ _ h).trans (Below.heap_setCell _ _ _ _ h)
theorem store2_below {n : Nat} {w0 w : World} {g : Nat} {v1 v2 : Value} (h : Below n w0 w) (hg : n ≤ g) : Below n w0 ((w.setCell ⟨g, 0, none⟩ v1).setCell ⟨g, 1, none⟩ v2) :=
  (h.setCell (p := ⟨g, 0, none⟩) hg _).setCell (p := ⟨g, 1, none⟩) hg _

set_option maxHeartbeats 4000000 in
theorem canon_any (an ar : Option Addr) (nn cn nr cr : Nat) (ns : List Nd) (rs : List Int) (w : World) (G : GIs w an nn cn ar nr cr ns rs) (hs : smallG ns) (hk : ∀ d ∈ ns, d.kids.length ≤ 100) (hn : nn ≤ 1000) (hnr : nr ≤ 1000) (hT : Tabs w) (f : Nat) (hf : 1 + 100 * nn ≤ f) (hf2 : f ≤ 200000) :
    Calls Tryd.prog 17 #[GVal an nn cn ar nr cr] w fun e w' => ∃ an' nn' cn' ar' nr' cr', e = .returned (GVal an' nn' cn' ar' nr' cr') ∧ GIs w' an' nn' cn' ar' nr' cr' (canonG ns rs f).1 (canonG ns rs f).2 ∧ Below w.heap.size w w' := by
  have HG := hid G
  have HS := hid hs
  have HT := hid hT
  have HK := hid hk
  have hn1 := G.nodes.fits
  have hn2 := G.nodes.most
  have hr1 := G.roots.fits
  have hr2 := G.roots.most
  unfold maxLen at hn2 hr2
  unfold GVal
  clear G hs hT hk
  go_enter Tryd.func17, Tryd.ntmps17
  go_wp2_with fail
  have bA := Baa w (.cells #[.slice an nn cn, .slice ar nr cr] 25) (.cells #[.slice none 0 0, .slice none 0 0] 25)
  have x1 := (GBox.new 25 w an ar nn cn nr cr).on (Ba (w.alloc (.cells #[.slice an nn cn, .slice ar nr cr] 25)) (.cells #[.slice none 0 0, .slice none 0 0] 25))
  have x2 := GBox.new 25 (w.alloc (.cells #[.slice an nn cn, .slice ar nr cr] 25)) none none 0 0 0 0
  have hsz : ((w.alloc (.cells #[.slice an nn cn, .slice ar nr cr] 25)).alloc (.cells #[.slice none 0 0, .slice none 0 0] 25)).heap.size = w.heap.size + 1 + 1 := by rw [size_alloc, size_alloc]
  rw [size_alloc] at x2
  generalize (w.alloc (.cells #[.slice an nn cn, .slice ar nr cr] 25)).alloc (.cells #[.slice none 0 0, .slice none 0 0] 25) = W1 at *
  obtain ⟨gb, hgb⟩ : ∃ g, g = w.heap.size := ⟨_, rfl⟩
  obtain ⟨gr, hgr⟩ : ∃ g, g = w.heap.size + 1 := ⟨_, rfl⟩
  rw [← hgr] at x2
  rw [← hgb] at x1
  rw [← hgr, ← hgb]
  have hne : Hid (gb ≠ gr ∧ w.heap.size ≤ gb ∧ w.heap.size ≤ gr ∧ gb < W1.heap.size ∧ gr < W1.heap.size) := by refine ⟨?_, ?_, ?_, ?_, ?_⟩ <;> omega
  refine (good_g an ar nn cn nr cr ns rs W1 (HG.out.below bA) HS.out hn (HT.out.below bA)).mono ?_
  rintro e w2 ⟨rfl, b2⟩
  have y1 := x1.on b2
  have y2 := x2.on b2
  have HB2 := hid (bA.trans (b2.mono bA.size))
  have HW12 := hid b2.size
  have Y1 := hid y1
  have Y2 := hid y2
  have hlen : ns.length = nn := HG.out.nodes.len
  obtain ⟨z1, z2⟩ := y1.c
  obtain ⟨v1, v2⟩ := y2.c
  have fv1 : w2.frozen? ⟨gr, 0, none⟩ = false := blk_free y2 0
  have fv2 : w2.frozen? ⟨gr, 1, none⟩ = false := blk_free y2 1
  clear bA x1 x2 hsz hgb hgr b2 y1 y2
  obtain ⟨gd, hgd⟩ : ∃ gd, gd = goodG ns rs := ⟨_, rfl⟩
  rw [← hgd]
  have HGD := hid hgd
  cases gd
  · clear hgd
    go_wp2_with fail
    have hst := store2 (v1 := .slice none 0 0) (v2 := .slice none 0 0) Y2.out
    have r0 := blk_cell hst 0
    have r1 := blk_cell hst 1
    (try simp only [Exit.inBlock, Exit.then]); refine bodyPost_ret (by simp [results, Tryd.results17, go_sem, r0, r1]; rfl) rfl ?_
    have hc : canonG ns rs f = ([], []) := by unfold canonG; rw [if_neg (by rw [← HGD.out]; decide)]
    rw [hc]
    exact ⟨_, _, _, _, _, _, rfl, ⟨NRow.nil _ _, IRow.nil _ _⟩, store2_below HB2.out hne.out.2.2.1⟩
  · clear hgd
    obtain ⟨hkp, hrp⟩ := goodG_parts HGD.out.symm
    rw [hlen] at hkp hrp
    have HKP := hid hkp
    have HRP := hid hrp
    have HRR := hid (places_rng hrp)
    have hc : Hid (canonG ns rs f = ((followR ns f rs (start nn)).2.map (newNode ns (followR ns f rs (start nn)).1), renum (followR ns f rs (start nn)).1 rs)) := by unfold Hid canonG; rw [if_pos HGD.out.symm, hlen]
    have hS0 : Hid (Sv ns nn (start nn).1 (start nn).2) := by
      have := Sv.start_ (ns := ns) (by rw [hlen]; exact hkp) HK.out
      rw [hlen] at this; exact this
    clear hkp hrp
    go_wp2_with fail
    refine (newWalk_any an ar nn cn nr cr hn hn1 (by omega) w2).mono ?_
    rintro e w3 ⟨B0, gp, Bm, rfl, l1, l2, l3, m1, m2, m3, hbox, hpl, hmp, b3⟩
    have hB0l : B0 < w3.heap.size := (Array.getElem?_eq_some_iff.1 hbox).1
    have hW3 : WCore w2.heap.size w2 w3 B0 gp Bm an nn cn ar nr cr (start nn).1 (start nn).2 (.slice none 0 0) :=
      ⟨b3, hbox, hpl, by simp [start], World.ownsRow_nil _ _ _ _, hmp.lt, l1, l2, l3, m1, m2, m3, (by intro h; cases h), (by intro h; cases h), (by intro h; cases h)⟩
    have HW3 := hid hW3
    have HM3 : Hid (MapIs w3 Bm ns (start nn).2) := MapIs.new hmp
    obtain ⟨z1, z2⟩ := (Y1.out.on b3).c
    clear hbox hpl hmp hW3 m1 m2 m3 l1 l2 l3 v1 v2 fv1 fv2
    have HB3 := hid b3
    clear b3
    go_wp2_with fail
    go_loopw [15] (fun i wr => ∃ m : Nat, m ≤ nr ∧ i = .int .i64 m ∧ Hid (∃ vo, WCore w2.heap.size w2 wr B0 gp Bm an nn cn ar nr cr (followR ns f (rs.take m) (start nn)).1 (followR ns f (rs.take m) (start nn)).2 vo ∧ MapIs wr Bm ns (followR ns f (rs.take m) (start nn)).2 ∧ Sv ns nn (followR ns f (rs.take m) (start nn)).1 (followR ns f (rs.take m) (start nn)).2)) (fun i _ => nr - (intOf i).toNat)
    case atStart => exact ⟨0, Nat.zero_le _, rfl, _, HW3.out, HM3.out, hS0.out⟩
    case round =>
      obtain ⟨m, hmn, rfl, hI⟩ := hrel
      obtain ⟨vo, h1, h2, h3⟩ := hI.out
      have HBR := hid h1.bel
      by_cases hlt : m < nr
      · obtain ⟨b, o, rfl, hl, hcr⟩ := HG.out.roots.some (by omega)
        have hml : m < rs.length := by rw [HG.out.roots.len]; exact hlt
        have cm : wr.cell? ⟨b, o + m, none⟩ = some (.int .i64 (rs.getD m 0)) :=
          (h1.bel.cell (p := ⟨b, o + m, none⟩) (Nat.lt_of_lt_of_le hl HB2.out.size)).trans ((HB2.out.cell (p := ⟨b, o + m, none⟩) hl).trans (hcr m hlt))
        have hst : Hid (rs.take (m + 1) = rs.take m ++ [rs.getD m 0]) := by
          unfold Hid
          rw [List.take_succ_eq_append_getElem hml, List.getD_eq_getElem?_getD, List.getElem?_eq_getElem hml]; rfl
        have hrr := HRR.out (rs.getD m 0) (by rw [List.getD_eq_getElem?_getD, List.getElem?_eq_getElem hml]; exact List.getElem_mem hml)
        generalize rs.getD m 0 = r at *
        have H1 := hid h1
        have H2 := hid h2
        have H3 := hid h3
        clear h1 h2 h3 hI hcr
        go_wp2_with fail
        refine (follow_any w2.heap.size w2 wr B0 gp Bm _ nn cn _ nr cr ns rs _ _ vo r f hn hf2 rfl (HG.out.below HB2.out) H1.out H2.out (H3.out.fv hrr hf)).mono ?_
        rintro e w4 ⟨rfl, vo', q1, q2, q3⟩
        have Q1 := hid q1
        have Q2 := hid q2
        clear q1 q2
        go_wp2_with fail
        have hS := H3.out.follow hn hrr hf
        rw [← followR_snoc, ← hst.out] at hS
        refine ⟨⟨m + 1, by omega, by go_num, vo', ?_, ?_, hS⟩, by simp [intOf] <;> omega⟩
        · have := Q1.out; rw [← followR_snoc, ← hst.out] at this; exact this
        · have := Q2.out; rw [← followR_snoc, ← hst.out] at this; exact this
      · obtain rfl : m = nr := by omega
        rw [List.take_of_length_le (by rw [HG.out.roots.len]; omega)] at h1 h2 h3
        have H1 := hid h1
        have H3 := hid h3
        clear h1 h2 h3 hI
        go_wp2_with fail
        refine (met_any w2.heap.size w2 wr B0 gp Bm an nn cn ar m cr ns rs _ _ vo hn rfl H3.out.len hnr (HG.out.below HB2.out) H1.out H3.out.rng (fun d hd => ⟨HKP.out d hd, by have := HK.out d hd; omega⟩) HRP.out H3.out.i64).mono ?_
        rintro e w4 ⟨an', nn', cn', ar', nr', cr', rfl, hGI, b4⟩
        unfold GVal
        have y4 := (b4.block gr (Nat.lt_of_lt_of_le hne.out.2.2.2.2 HW12.out)).trans ((HBR.out.block gr (Nat.lt_of_lt_of_le hne.out.2.2.2.2 HW12.out)).trans Y2.out)
        have Y4 := hid y4
        have v1 : w4.cell? ⟨gr, 0, none⟩ = some (.slice none 0 0) := blk_cell y4 0
        have v2 : w4.cell? ⟨gr, 1, none⟩ = some (.slice none 0 0) := blk_cell y4 1
        have fv1 : w4.frozen? ⟨gr, 0, none⟩ = false := blk_free y4 0
        have fv2 : w4.frozen? ⟨gr, 1, none⟩ = false := blk_free y4 1
        have HGI := hid hGI
        have HB4 := hid ((HB2.out.trans (HBR.out.mono HB2.out.size)).trans (b4.mono HB2.out.size))
        clear y4 hGI b4
        go_wp2_with fail
        have hst := store2 (v1 := .slice an' nn' cn') (v2 := .slice ar' nr' cr') Y4.out
        have r0 := blk_cell hst 0
        have r1 := blk_cell hst 1
        (try simp only [Exit.inBlock, Exit.then]); refine bodyPost_ret (by simp [results, Tryd.results17, go_sem, r0, r1]; rfl) rfl ?_
        rw [hc.out]
        exact ⟨_, _, _, _, _, _, rfl, HGI.out _ (fun b hb => store2_far (by have := hne.out.2.2.2.2; have := HW12.out; omega)) (by simp [World.setCell]), store2_below HB4.out hne.out.2.2.1⟩
end Go.Proofs.YtfkdpomhojhapaaDoor
