/-
  Walks: Good, and the document's Good.
-/
import Derived.Test.YtfkdpomhojhapaaDoorG9
set_option linter.unusedVariables false
set_option linter.unusedSimpArgs false
namespace Go.Proofs.YtfkdpomhojhapaaDoor
open Go.RowKit

def placeB (n : Nat) (p : Int) : Bool := decide (0 ≤ p) && decide (p < n)
def placesB (l : List Int) (n : Nat) : Bool := l.all (placeB n)
def nodeB (n : Nat) (d : Nd) : Bool := decide (1 ≤ d.kind) && decide (d.kind ≤ 17) && numB d.kind d.num && textB d.kind d.text && countB d.kind d.kids.length && placesB d.kids n
def goodG (ns : List Nd) (rs : List Int) : Bool := ns.all (nodeB ns.length) && placesB rs ns.length
theorem all_take_succ {α : Type} [Inhabited α] (p : α → Bool) {l : List α} {k : Nat} (h : k < l.length) : (l.take (k + 1)).all p = ((l.take k).all p && p (l.getD k default)) := by
  rw [List.take_succ_eq_append_getElem h, List.all_append, List.getD_eq_getElem?_getD, List.getElem?_eq_getElem h]; simp
theorem all_false {α : Type} (p : α → Bool) {l : List α} {k : Nat} (h : (l.take k).all p = false) : l.all p = false := by
  rw [List.all_eq_false] at h ⊢
  obtain ⟨x, hx, h2⟩ := h
  exact ⟨x, List.mem_of_mem_take hx, h2⟩

set_option maxHeartbeats 1000000 in
theorem arePlaces_any (ao : Option Addr) (n cap : Nat) (l : List Int) (nodes : Nat) (hnodes : nodes ≤ 1000000) (w : World) (R : IRow w ao n cap l) :
    Calls Tryd.prog 24 #[.slice ao n cap, .int .i64 nodes] w fun e w' => e = .returned (.bool (placesB l nodes)) ∧ w' = w := by
  have HR := hid R
  have hf := R.fits
  have hm := R.most
  unfold maxLen at hm
  clear R
  go_enter Tryd.func24, Tryd.ntmps24
  go_wp2
  go_loopw [9] (fun i wr => ∃ m : Nat, m ≤ n ∧ i = .int .i64 m ∧ Hid ((l.take m).all (placeB nodes) = true ∧ wr = w)) (fun i _ => n - (intOf i).toNat)
  case atStart => exact ⟨0, Nat.zero_le _, rfl, rfl, rfl⟩
  case round =>
    obtain ⟨m, hmn, rfl, hI⟩ := hrel
    by_cases hlt : m < n
    · obtain ⟨b, o, rfl, hl, hc⟩ := HR.out.some (by omega)
      have hc1 := hc m hlt
      have hbd := HR.out.get hlt
      obtain ⟨p, hp⟩ : ∃ p, p = l.getD m 0 := ⟨_, rfl⟩
      rw [← hp] at hc1 hbd
      obtain ⟨hb1, hb2⟩ := hbd
      have hw := hI.out.2
      rw [← hw] at hc1
      have hst : Hid ((l.take (m + 1)).all (placeB nodes) = placeB nodes p) := by
        unfold Hid
        rw [all_take_succ (placeB nodes) (by rw [HR.out.len]; exact hlt), hI.out.1, Bool.true_and, hp]; rfl
      have HW := hid hw
      clear hc hp hI hw
      by_cases h1 : 0 ≤ p
      · have e1 : decide (p < 0) = false := by simp; omega
        by_cases h2 : p < nodes
        · go_wp2
          exact ⟨⟨m + 1, by omega, by go_num, by rw [hst.out]; unfold placeB; rw [decide_eq_true h1, decide_eq_true h2]; rfl, HW.out⟩, by simp [intOf] <;> omega⟩
        · have e2 : decide ((nodes : Int) ≤ p) = true := by simp; omega
          go_wp2
          go_ret
          refine ⟨ret_b ?_, HW.out⟩
          have := all_false (placeB nodes) (l := l) (k := m + 1) (by rw [hst.out]; simp [placeB, h2])
          unfold placesB; rw [this]
      · have e1 : decide (p < 0) = true := by simp; omega
        go_wp2
        go_ret
        refine ⟨ret_b ?_, HW.out⟩
        have := all_false (placeB nodes) (l := l) (k := m + 1) (by rw [hst.out]; simp [placeB]; omega)
        unfold placesB; rw [this]
    · obtain rfl : m = n := by omega
      go_wp2
      go_ret
      refine ⟨ret_b ?_, hI.out.2⟩
      have := hI.out.1
      rw [List.take_of_length_le (by rw [HR.out.len]; omega)] at this
      unfold placesB; rw [this]

theorem nodeB_eq (n : Nat) (k m : Int) (t : ByteArray) (l : List Int) : nodeB n ⟨k, m, t, l⟩ = (decide (1 ≤ k) && decide (k ≤ 17) && numB k m && textB k t && countB k l.length && placesB l n) := rfl

set_option maxHeartbeats 2000000 in
theorem goodNode_any (k m : Int) (t : ByteArray) (ak : Option Addr) (nk ck : Nat) (l : List Int) (nodes : Nat) (hnodes : nodes ≤ 1000000) (w : World) (R : IRow w ak nk ck l) (ht : t.size ≤ 1000000) (hT : Tabs w) :
    Calls Tryd.prog 23 #[NVal k m t ak nk ck, .int .i64 nodes] w fun e w' => e = .returned (.bool (nodeB nodes ⟨k, m, t, l⟩)) ∧ Below w.heap.size w w' := by
  rw [nodeB_eq, R.len]
  have hb := Ba w (.cells #[.int .i64 k, .int .i64 m, .string t, .slice ak nk ck] 32)
  have hblk := blk_new w #[.int .i64 k, .int .i64 m, .string t, .slice ak nk ck] 32
  have HR := hid (R.below hb)
  have HT := hid (hT.below hb)
  have hf := R.fits
  have hmx := R.most
  unfold maxLen at hmx
  unfold NVal
  clear R hT
  by_cases h1 : 1 ≤ k
  · by_cases h2 : k ≤ 17
    · go_enter Tryd.func23, Tryd.ntmps23
      go_wp2_with fail
      obtain ⟨g, hg⟩ : ∃ g, g = w.heap.size := ⟨_, rfl⟩
      rw [← hg] at hblk
      rw [← hg]
      generalize w.alloc (.cells #[.int .i64 k, .int .i64 m, .string t, .slice ak nk ck] 32) = W0 at *
      have c0 : W0.cell? ⟨g, 0, none⟩ = some (.int .i64 k) := blk_cell hblk 0
      have c1 : W0.cell? ⟨g, 1, none⟩ = some (.int .i64 m) := blk_cell hblk 1
      have c2 : W0.cell? ⟨g, 2, none⟩ = some (.string t) := blk_cell hblk 2
      have c3 : W0.cell? ⟨g, 3, none⟩ = some (.slice ak nk ck) := blk_cell hblk 3
      have hlt : g < W0.heap.size := (Array.getElem?_eq_some_iff.1 hblk).1
      have HB := hid hb
      clear hg hblk hb
      refine (goodNum_any k m _).mono ?_
      rintro e wz ⟨rfl, hwz⟩
      rw [hwz]
      clear hwz
      cases hnum : numB k m
      · go_wp2_with fail
        go_ret
        exact ⟨ret_b (by simp [hnum]), HB.out⟩
      · go_wp2_with fail
        refine (goodText_any k t _ ht HT.out).mono ?_
        rintro e w1 ⟨rfl, b1⟩
        have k0 : w1.cell? ⟨g, 0, none⟩ = some (.int .i64 k) := (b1.cell (p := ⟨g, 0, none⟩) hlt).trans c0
        have k3 : w1.cell? ⟨g, 3, none⟩ = some (.slice ak nk ck) := (b1.cell (p := ⟨g, 3, none⟩) hlt).trans c3
        have HR1 := hid (HR.out.below b1)
        have HB1 := hid (Bt HB.out b1)
        clear c0 c1 c2 c3 b1
        cases htx : textB k t
        · go_wp2_with fail
          go_ret
          exact ⟨ret_b (by simp [htx]), HB1.out⟩
        · go_wp2_with fail
          refine (goodCount_any k nk (by unfold maxLen; omega) _).mono ?_
          rintro e wz ⟨rfl, hwz⟩
          rw [hwz]
          clear hwz
          cases hcn : countB k nk
          · go_wp2_with fail
            go_ret
            exact ⟨ret_b (by simp [hcn]), HB1.out⟩
          · go_wp2_with fail
            refine (arePlaces_any ak nk ck l nodes hnodes _ HR1.out).mono ?_
            rintro e wz ⟨rfl, hwz⟩
            rw [hwz]
            clear hwz
            go_wp2_with fail
            go_ret
            exact ⟨ret_b (by simp [h1, h2, hnum, htx, hcn]), HB1.out⟩
    · have e2 : decide (k ≤ 17) = false := by simp [h2]
      go_enter Tryd.func23, Tryd.ntmps23
      go_wp2_with fail
      go_ret
      exact ⟨ret_b (by simp [h2]), hb⟩
  · have e1 : decide (1 ≤ k) = false := by simp [h1]
    go_enter Tryd.func23, Tryd.ntmps23
    go_wp2_with fail
    go_ret
    exact ⟨ret_b (by simp [h1]), hb⟩

end Go.Proofs.YtfkdpomhojhapaaDoor

set_option linter.unusedVariables false
set_option linter.unusedSimpArgs false
namespace Go.Proofs.YtfkdpomhojhapaaDoor
open Go.RowKit

/-- Texts of a graph are small. -/
def smallG (ns : List Nd) : Prop := ∀ d ∈ ns, d.text.size ≤ 2000
theorem smallG.get {ns : List Nd} (h : smallG ns) {i : Nat} (hi : i < ns.length) : (ns.getD i default).text.size ≤ 2000 := by
  rw [List.getD_eq_getElem?_getD, List.getElem?_eq_getElem hi]; exact h _ (List.getElem_mem hi)

set_option maxHeartbeats 2000000 in
theorem good_g (an ar : Option Addr) (nn cn nr cr : Nat) (ns : List Nd) (rs : List Int) (w : World) (G : GIs w an nn cn ar nr cr ns rs) (hs : smallG ns) (hn : nn ≤ 1000) (hT : Tabs w) :
    Calls Tryd.prog 16 #[GVal an nn cn ar nr cr] w fun e w' => e = .returned (.bool (goodG ns rs)) ∧ Below w.heap.size w w' := by
  have HG := hid G
  have HS := hid hs
  have HT := hid hT
  have hn1 := G.nodes.fits
  have hn2 := G.nodes.most
  have hr1 := G.roots.fits
  have hr2 := G.roots.most
  unfold maxLen at hn2 hr2
  unfold GVal
  have b1 := Ba w (.cells #[.slice an nn cn, .slice ar nr cr] 25)
  have x1 := GBox.new 25 w an ar nn cn nr cr
  clear G hs hT
  go_enter Tryd.func16, Tryd.ntmps16
  go_wp2_with fail
  obtain ⟨g, hg⟩ : ∃ g, g = w.heap.size := ⟨_, rfl⟩
  rw [← hg] at x1
  rw [← hg]
  generalize w.alloc (.cells #[.slice an nn cn, .slice ar nr cr] 25) = W1 at *
  have HGB := hid x1
  have HB1 := hid b1
  have HG1 := hid (HG.out.below b1)
  have HT1 := hid (HT.out.below b1)
  clear b1 x1 hg HG HT
  go_loopw [8] (fun i wr => ∃ m : Nat, m ≤ nn ∧ i = .int .i64 m ∧ Hid ((ns.take m).all (nodeB nn) = true ∧ Below W1.heap.size W1 wr)) (fun i _ => nn - (intOf i).toNat)
  case atStart => exact ⟨0, Nat.zero_le _, rfl, rfl, Below.refl _ _⟩
  case round =>
    obtain ⟨m, hmn, rfl, hI⟩ := hrel
    have hbw := hI.out.2
    obtain ⟨q0, q1⟩ := (HGB.out.on hbw).c
    by_cases hlt : m < nn
    · have hlen : m < ns.length := by rw [HG1.out.nodes.len]; exact hlt
      obtain ⟨b, o, rfl, hl, hc⟩ := (HG1.out.nodes.below hbw).some (by omega)
      obtain ⟨k1, k2, k3, ak, nk, ck, k4, k5⟩ := hc m hlt
      have hok := HG1.out.nodes.get hlt
      have hsm := HS.out.get hlen
      have hst : Hid ((ns.take (m + 1)).all (nodeB nn) = nodeB nn (ns.getD m default)) := by
        unfold Hid
        rw [all_take_succ (nodeB nn) hlen, hI.out.1, Bool.true_and]
      clear hc
      generalize ns.getD m default = d at *
      obtain ⟨dk, dn, dt, dl⟩ := d
      simp only [] at k1 k2 k3 k5 hok hsm
      obtain ⟨⟨o1, o2⟩, ⟨o3, o4⟩, o5⟩ := hok
      have ba := Ba wr (.cells #[.int .i64 dk, .int .i64 dn, .string dt, .slice ak nk ck] 32)
      have HA := hid ba
      have HK := hid (k5.below ba)
      have HT2 := hid ((HT1.out.below hbw).below ba)
      have r0 : ∀ ob, (wr.alloc ob).cell? ⟨g, 0, none⟩ = some (.slice (some ⟨b, o, none⟩) nn cn) := fun ob => (cell_old _ _ _ _ (HGB.out.on hbw).lt).trans q0
      have HBW := hid hbw
      clear k5 hbw hI ba o5
      go_wp2_with fail
      refine (goodNode_any dk dn dt ak nk ck dl nn (by omega) _ HK.out (by omega) HT2.out).mono ?_
      rintro e w2 ⟨rfl, b2⟩
      have HB2 := hid (Bt (Bt HBW.out HA.out) b2)
      clear b2 r0 q0 q1 k1 k2 k3 k4
      cases hnb : nodeB nn ⟨dk, dn, dt, dl⟩
      · go_wp2_with fail
        go_ret
        refine ⟨ret_b ?_, Bt HB1.out HB2.out⟩
        have := all_false (nodeB nn) (l := ns) (k := m + 1) (by rw [hst.out]; exact hnb)
        unfold goodG
        rw [HG1.out.nodes.len, this]; rfl
      · go_wp2_with fail
        exact ⟨⟨m + 1, by omega, by go_num, by rw [hst.out]; exact hnb, HB2.out⟩, by simp [intOf] <;> omega⟩
    · obtain rfl : m = nn := by omega
      have HR := hid (HG1.out.roots.below hbw)
      have HBW := hid hbw
      have hal := hid hI.out.1
      clear hbw hI
      go_wp2_with fail
      refine (arePlaces_any ar nr cr rs m (by omega) _ HR.out).mono ?_
      rintro e wz ⟨rfl, hwz⟩
      rw [hwz]
      clear hwz
      go_wp2_with fail
      go_ret
      refine ⟨ret_b ?_, Bt HB1.out HBW.out⟩
      unfold goodG
      have h := hal.out
      rw [List.take_of_length_le (by rw [HG1.out.nodes.len]; omega)] at h
      rw [HG1.out.nodes.len, h]; rfl

end Go.Proofs.YtfkdpomhojhapaaDoor
