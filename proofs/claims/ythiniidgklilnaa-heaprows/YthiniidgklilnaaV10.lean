/-
  Walk: step.
-/
import Derived.Test.YthiniidgklilnaaV9
set_option linter.unusedVariables false
set_option linter.unusedSimpArgs false
set_option maxRecDepth 100000
namespace Go.Proofs.Ythiniidgklilnaa
open Go.RowKit

/-- Both heaps in one memory, with their blocks. -/
structure Mx (B : Nat) (v : Value) (g : Nat) (N : Int) (osP osR : List Ob) (F : Nat → Prop) (vL : Value) (ls : List (Ob × Sl)) (w : World) : Prop where
  ph : PH B v N (wordsL osP) F w
  rh : RH B g N vL ls w
  mp : ls.map Prod.fst = osR
  dj : ∀ b, F b → ¬ RF g vL ls b
  okP : OsOk osP
  okR : OsOk osR
  bw : B ≤ w.heap.size
section
variable {B g : Nat} {v : Value} {N : Int} {osP osR os' : List Ob} {F : Nat → Prop} {vL : Value} {ls : List (Ob × Sl)} {w w' : World}
theorem Mx.keep (h : Mx B v g N osP osR F vL ls w) (hs : w.heap.size ≤ w'.heap.size) (hF : ∀ b, F b → w'.heap[b]? = w.heap[b]?) (hR : ∀ b, RF g vL ls b → w'.heap[b]? = w.heap[b]?) : Mx B v g N osP osR F vL ls w' :=
  ⟨h.ph.keep hF, h.rh.keep hR, h.mp, h.dj, h.okP, h.okR, Nat.le_trans h.bw hs⟩
theorem Mx.on (h : Mx B v g N osP osR F vL ls w) (hb : Below w.heap.size w w') : Mx B v g N osP osR F vL ls w' :=
  h.keep hb.size (fun b hf => hb.block b (h.ph.ge b hf).2) (fun b hf => hb.block b (h.rh.foot_ge b hf).2)
theorem Mx.p (h : Mx B v g N osP osR F vL ls w) (ho : OsOk os') (hp : PPost B v N F w (wordsL os') w') : ∃ F', Mx B v g N os' osR F' vL ls w' ∧ (∀ b, b < w.heap.size → ¬ F b → ¬ F' b ∧ w'.heap[b]? = w.heap[b]?) ∧ Below B w w' := by
  obtain ⟨F', p1, p2, p3⟩ := hp
  refine ⟨F', ⟨p1, h.rh.mod p3 (fun b hb hf => h.dj b hf hb), h.mp, fun b hb hr => ?_, ho, h.okR, Nat.le_trans h.bw p3.size⟩, fun b hb hn => ⟨fun e => ?_, p3.block b hb hn⟩, p3.below (fun b hb => (h.ph.ge b hb).1) h.bw⟩
  · rcases p2 b hb with h' | h'
    · exact h.dj b h' hr
    · have := (h.rh.foot_ge b hr).2; omega
  · rcases p2 b e with h' | h'
    · exact hn h'
    · omega
theorem Mx.r (h : Mx B v g N osP osR F vL ls w) (ho : OsOk os') (hp : RPost B g N vL ls w os' w') : ∃ vL' ls', Mx B v g N osP os' F vL' ls' w' ∧ (∀ b, b < w.heap.size → ¬ RF g vL ls b → ¬ RF g vL' ls' b ∧ w'.heap[b]? = w.heap[b]?) ∧ Below B w w' := by
  obtain ⟨vL', ls', p1, p2, p3, p4⟩ := hp
  refine ⟨vL', ls', ⟨h.ph.keep (fun b hb => p4.block b (h.ph.ge b hb).2 (h.dj b hb)), p1, p2, fun b hb hr => ?_, h.okP, ho, Nat.le_trans h.bw p4.size⟩, fun b hb hn => ⟨fun e => ?_, p4.block b hb hn⟩, p4.below (fun b hb => (h.rh.foot_ge b hb).1) h.bw⟩
  · rcases p3 b hr with h' | h'
    · exact h.dj b hb h'
    · have := (h.ph.ge b hb).2; omega
  · rcases p3 b e with h' | h'
    · exact hn h'
    · omega
theorem Mx.mix (h : Mx B v g N osP osR F vL ls w) : Mix B v g N osP osR w := ⟨⟨F, vL, ls, h.ph, h.rh, h.mp, h.dj⟩, h.okP, h.okR, h.bw⟩
end
/-- What is of neither heap stays so, and as it is. -/
def Fr (g : Nat) (F : Nat → Prop) (vL : Value) (ls : List (Ob × Sl)) (F' : Nat → Prop) (vL' : Value) (ls' : List (Ob × Sl)) (w w' : World) : Prop := ∀ b, b < w.heap.size → ¬ F b → ¬ RF g vL ls b → ¬ F' b ∧ ¬ RF g vL' ls' b ∧ w'.heap[b]? = w.heap[b]?
section
variable {g : Nat} {F F' F2 : Nat → Prop} {vL vL' vL2 : Value} {ls ls' ls2 : List (Ob × Sl)} {w w1 w2 : World}
theorem Fr.on (h : Below w.heap.size w w1) : Fr g F vL ls F vL ls w w1 := fun b hb n1 n2 => ⟨n1, n2, h.block b hb⟩
theorem Fr.p (h : ∀ b, b < w.heap.size → ¬ F b → ¬ F' b ∧ w1.heap[b]? = w.heap[b]?) : Fr g F vL ls F' vL ls w w1 := fun b hb n1 n2 => ⟨(h b hb n1).1, n2, (h b hb n1).2⟩
theorem Fr.r (h : ∀ b, b < w.heap.size → ¬ RF g vL ls b → ¬ RF g vL' ls' b ∧ w1.heap[b]? = w.heap[b]?) : Fr g F vL ls F vL' ls' w w1 := fun b hb n1 n2 => ⟨n1, (h b hb n2).1, (h b hb n2).2⟩
theorem Fr.trans (h : Fr g F vL ls F' vL' ls' w w1) (hs : w.heap.size ≤ w1.heap.size) (k : Fr g F' vL' ls' F2 vL2 ls2 w1 w2) : Fr g F vL ls F2 vL2 ls2 w w2 := fun b hb n1 n2 => by
  obtain ⟨a1, a2, a3⟩ := h b hb n1 n2
  obtain ⟨b1, b2, b3⟩ := k b (Nat.lt_of_lt_of_le hb hs) a1 a2
  exact ⟨b1, b2, b3.trans a3⟩
end
set_option maxHeartbeats 16000000 in
theorem step_two {B g : Nat} {v : Value} {N : Int} {osP os : List Ob} {F : Nat → Prop} {vL : Value} {ls : List (Ob × Sl)} (d : Dd) (s : Sl) (hd : DOk d) (hsm : d.l.length ≤ 100) (w : World) (hM : Mx B v g N osP os F vL ls w) (hU : URow w s.1 s.2.1 s.2.2 d.l) (hsB : d.l ≠ [] → ∀ a, s.1 = some a → a.block < B) :
    Calls Try.prog 7 #[v, .pointer (some ⟨g, 0, none⟩), .agg (DCells d s)] w fun e w' => (∃ b, e = .returned (.bool b)) ∧ (∃ osP' os' F' vL' ls', Mx B v g N osP' os' F' vL' ls' w') ∧ Below B w w' := by
  have M0 := hid hM
  obtain ⟨gh, rfl⟩ := hM.ph.ptr
  have HU := hid hU
  have HSB := hid hsB
  have HD := hid hd
  have HTU := hid (target_u64 (os := os) hd)
  have C1 : Hid (∀ wx, Below w.heap.size w wx → Calls Try.prog 18 #[.pointer (some ⟨g, 0, none⟩), .agg (DCells d s)] wx fun e w' => e = .returned (.int .u64 (targetM os d)) ∧ Below wx.heap.size wx w') := fun wx b => by
    have := target_any d s hd wx (M0.out.rh.on b)
    rw [M0.out.mp] at this; exact this
  obtain ⟨P, hP⟩ : ∃ P, P = targetM os d := ⟨_, rfl⟩
  rw [← hP] at C1 HTU
  have hz1 := hd.kind
  have hz2 := hd.type
  have hz3 := hd.n
  have HZ := hid (And.intro hz2 (And.intro hz3 hd.w))
  unfold Z64 at hz1 hz2 hz3
  clear hM hU hsB hd hP
  obtain ⟨dk, dt, dn, da, dl, dw, dw2, dr⟩ := d
  obtain ⟨sa, sn, sc⟩ := s
  simp only at hz1 hz2 hz3 HZ HU HSB hsm
  unfold DCells at C1 ⊢
  simp only at C1 ⊢
  have HB1 := hid (Ba w (.cells #[.int .i64 dk, .int .i64 dt, .int .i64 dn, .int .i64 da, .slice sa sn sc, .int .u64 dw, .int .u64 dw2, .bool dr] 36))
  have HX1 := hid (blk_new w #[.int .i64 dk, .int .i64 dt, .int .i64 dn, .int .i64 da, .slice sa sn sc, .int .u64 dw, .int .u64 dw2, .bool dr] 36)
  have hgx : Hid (¬ F w.heap.size ∧ ¬ RF g vL ls w.heap.size) := ⟨fun e => by have := (M0.out.ph.ge _ e).2; omega, fun e => by have := (M0.out.rh.foot_ge _ e).2; omega⟩
  go_enter Try.func7, Try.ntmps7
  go_wp2_with fail
  refine (C1.out _ HB1.out).mono ?_
  rintro e W2 ⟨rfl, b2⟩
  have HB2 := hid (Bt HB1.out b2)
  have M2 := hid (M0.out.on HB2.out)
  have HX2 := hid ((b2.block w.heap.size (by rw [size_alloc]; omega)).trans HX1.out)
  have HU2 := hid (HU.out.on HB2.out)
  obtain ⟨gx, hgxx⟩ : ∃ q, q = w.heap.size := ⟨_, rfl⟩
  rw [← hgxx] at HX2 hgx
  rw [← hgxx]
  clear hgxx b2 HX1 HB1 C1
  have c0 : W2.cell? ⟨gx, 0, none⟩ = some (.int .i64 dk) := blk_cell HX2.out 0
  have c1 : W2.cell? ⟨gx, 1, none⟩ = some (.int .i64 dt) := blk_cell HX2.out 1
  have c2 : W2.cell? ⟨gx, 2, none⟩ = some (.int .i64 dn) := blk_cell HX2.out 2
  have c4 : W2.cell? ⟨gx, 4, none⟩ = some (.slice sa sn sc) := blk_cell HX2.out 4
  have c5 : W2.cell? ⟨gx, 5, none⟩ = some (.int .u64 dw) := blk_cell HX2.out 5
  have hgl : Hid (gx < W2.heap.size) := (Array.getElem?_eq_some_iff.1 HX2.out).1
  by_cases k0 : dk = 0
  · have e0 : (dk == 0) = true := by simpa using k0
    have HUB := hid HU.out.bd
    have HF := hid (alloc_ok (N := N) (kind := dt) (fl := dl) M2.out.okP HUB.out)
    have HFR := hid (alloc_ok (N := N) (kind := dt) (fl := dl) M2.out.okR HUB.out)
    have hsn := HU.out.len
    have hse : Hid ((W2.alloc (.cells #[] 34)).ownsRow W2.heap.size 34 1 (.slice (some ⟨W2.heap.size, 0, none⟩) 0 0) 0 (uz [])) := ⟨rfl, .inr ⟨W2.heap.size, 0, #[], rfl, Nat.le_refl _, blk_new _ _ _, Nat.le_refl _, by unfold maxLen; omega, rfl, rfl⟩⟩
    have hUe := hid (HU2.out.on (Ba W2 (.cells #[] 34)))
    have hxe := ((Ba W2 (.cells #[] 34)).block gx hgl.out).trans HX2.out
    have c4e : (W2.alloc (.cells #[] 34)).cell? ⟨gx, 4, none⟩ = some (.slice sa sn sc) := blk_cell hxe 4
    have hsz1 : Hid (W2.heap.size ≤ (W2.alloc (.cells #[] 34)).heap.size) := (Ba W2 _).size
    clear hxe
    obtain ⟨a, ha⟩ : ∃ a, a = allocM osP N dt dl := ⟨_, rfl⟩
    obtain ⟨c, hc⟩ : ∃ a, a = allocM os N dt dl := ⟨_, rfl⟩
    have CP : Hid (∀ w3 ao cap, Below W2.heap.size W2 w3 → URow w3 ao sn cap dl → (∀ q, ao = some q → W2.heap.size ≤ q.block) → Calls Try.prog 19 #[.pointer (some ⟨gh, 0, none⟩), .int .i64 dt, .slice ao sn cap] w3 fun e w' => e = .returned (.tuple #[.int .u64 a.1, .int .i64 a.2]) ∧ PPost B (.pointer (some ⟨gh, 0, none⟩)) N F w3 (wordsL (allocO osP N dt dl)) w') := fun w3 ao cap b hu hq => by
      rw [ha]
      exact palloc_any M2.out.okP dt HZ.out.1 ao sn cap dl w3 (M2.out.on b).ph hu (M2.out.on b).bw (fun q hq' e => by have := hq q hq'; have := (M2.out.ph.ge _ e).2; omega) (by omega)
    have CR : Hid (∀ (F' : Nat → Prop) wx, Mx B (.pointer (some ⟨gh, 0, none⟩)) g N (allocO osP N dt dl) os F' vL ls wx → URow wx sa sn sc dl → Calls Try.prog 20 #[.pointer (some ⟨g, 0, none⟩), .int .i64 dt, .slice sa sn sc] wx fun e w' => e = .returned (.tuple #[.int .u64 c.1, .int .i64 c.2]) ∧ RPost B g N vL ls wx (allocO os N dt dl) w') := fun F' wx hm hu => by
      have := ralloc_any dt HZ.out.1 sa sn sc dl wx hm.rh hu hm.bw (by omega)
      rw [hm.mp, ← hc] at this; exact this
    obtain ⟨a1, a2⟩ := a
    obtain ⟨c1', c2'⟩ := c
    simp only at CP CR
    clear hc
    obtain ⟨t1, ht1⟩ : ∃ t, (a1 == c1') = t := ⟨_, rfl⟩
    obtain ⟨t2, ht2⟩ : ∃ t, (a2 == c2') = t := ⟨_, rfl⟩
    clear ha
    go_wp2_with (first
      | (at_builtin; refine appU rfl _ _ 32 rfl W2.heap.size 34 Try.underlying32 info_word _ 0 [] rfl hse.out sa sn sc dl rfl hUe.out (by omega) hsz1.out ?_; intro v8 w3 ho3 hg3; rw [Nat.zero_add, List.nil_append] at ho3; have hb3 : Below W2.heap.size W2 w3 := ((Ba W2 (.cells #[] 34)).grown hg3 hsz1.out (fun k hk => by cases hk; exact Nat.le_refl _)); have HB3 := hid hb3; have HO3 := hid ho3; have ho3' := ho3; rw [← hsn] at ho3'; obtain ⟨a8, c8, hv8, hu8⟩ := urow_own ho3' HUB.out; rw [hsn] at hv8 hu8; obtain rfl := hv8; have HU8 := hid hu8; have hx3 := (hb3.block gx hgl.out).trans HX2.out; have HX3 := hid hx3; have d1 : w3.cell? ⟨gx, 1, none⟩ = some (.int .i64 dt) := blk_cell hx3 1; clear ho3 ho3' hg3 hb3 hu8 hx3)
      | (go_at_call 19; (refine (CP.out w3 a8 c8 HB3.out HU8.out (fun q hq => (HO3.out.lt q.block (by rw [hq]; rfl)).1)).mono ?_); rintro e W4 ⟨rfl, hp4⟩; obtain ⟨F4, m4, f4, bl4⟩ := (M2.out.on HB3.out).p HF.out hp4; have M4 := hid m4; have HL4 := hid bl4; have HF4 := hid f4; have hx4 := (f4 gx (Nat.lt_of_lt_of_le hgl.out HB3.out.size) hgx.out.1).2.trans HX3.out; have HX4 := hid hx4; have g1 : W4.cell? ⟨gx, 1, none⟩ = some (.int .i64 dt) := blk_cell hx4 1; have g4 : W4.cell? ⟨gx, 4, none⟩ = some (.slice sa sn sc) := blk_cell hx4 4; have HU4 := hid ((HU2.out.on HB3.out).keep bl4.size (fun hne q hq => bl4.block q.block (HSB.out hne q hq))); clear m4 f4 bl4 hp4 hx4)
      | (go_at_call 20; (with_reducible refine (CR.out F4 _ M4.out HU4.out).mono ?_); rintro e W5 ⟨rfl, hp5⟩; obtain ⟨vL5, ls5, m5, f5, bl5⟩ := M4.out.r HFR.out hp5; have M5 := hid m5; have HL5 := hid bl5; have HF5 := hid f5; clear m5 f5 bl5 hp5))
    have hlt8 : Hid (∀ q, a8 = some q → W2.heap.size ≤ q.block ∧ q.block < w3.heap.size) := fun q hq => HO3.out.lt q.block (by rw [hq]; rfl)
    have hnF : Hid (∀ q, a8 = some q → ¬ F4 q.block ∧ ¬ RF g vL5 ls5 q.block ∧ W5.heap[q.block]? = w3.heap[q.block]?) := fun q hq => by
      obtain ⟨l1, l2⟩ := hlt8.out q hq
      have n1 : ¬ F q.block := fun e => by have := (M2.out.ph.ge _ e).2; omega
      have n2 : ¬ RF g vL ls q.block := fun e => by have := (M2.out.rh.foot_ge _ e).2; omega
      obtain ⟨p1, p2⟩ := HF4.out q.block l2 n1
      obtain ⟨r1, r2⟩ := HF5.out q.block (by have := HL4.out.size; omega) n2
      exact ⟨p1, r1, r2.trans p2⟩
    have HO5 : Hid (W5.ownsRow W2.heap.size 34 1 (.slice a8 sn c8) sn (uz dl)) := own_at HO3.out (fun b hb => by
      cases e : a8 with
      | none => rw [e] at hb; cases hb
      | some q =>
        rw [e] at hb
        injection hb with hb
        rw [← hb]; exact (hnF.out q e).2.2)
    go_loopw [57] (fun i wr => ∃ q : Nat, q ≤ sn ∧ i = .int .i64 q ∧ Hid (∃ l, l.length = sn ∧ wr.ownsRow W2.heap.size 34 1 (.slice a8 sn c8) sn (uz l) ∧ wr.heap.size = W5.heap.size ∧ (∀ b, (Value.slice a8 sn c8).ownBlock ≠ some b → wr.heap[b]? = W5.heap[b]?) ∧ Below W2.heap.size W5 wr)) (fun i _ => sn - (intOf i).toNat)
    case atStart => exact ⟨0, Nat.zero_le _, rfl, dl, hsn, HO5.out, rfl, fun _ _ => rfl, Below.refl _ _⟩
    case round =>
      obtain ⟨q, hq, rfl, hI⟩ := hrel
      obtain ⟨l, l1, l2, l3, l4, l5⟩ := hI.out
      have HI2 := hid l2
      have HI3 := hid l3
      have HI4 := hid l4
      have HI5 := hid l5
      have HL1 := hid l1
      clear hI l3 l4 l5
      by_cases hlt : q < sn
      · have l2' := l2
        rw [← l1] at l2'
        obtain ⟨gr, cr, hvr, hr0, hr1, hr2, hr3, hr4⟩ := owned_cell l2' (i := q) (by omega)
        rw [l1] at hvr hr1
        cases hvr
        unfold maxLen at hr2
        have HN := hid (uset l2 (k := q) 99)
        clear l2 l2' l1
        go_wp2_with fail
        refine ⟨⟨q + 1, by omega, by go_num, l.set q 99, by rw [List.length_set]; exact HL1.out, HN.out, by simp [World.setCell, HI3.out], fun b hb => ?_, HI5.out.setCell (p := ⟨gr, q, none⟩) hr0 _⟩, by simp [intOf] <;> omega⟩
        exact (Below.heap_setCell _ _ _ _ (fun e => hb (by rw [e]; rfl))).trans (HI4.out b hb)
      · obtain rfl : q = sn := by omega
        clear l1 l2
        have key : ∀ b, F4 b ∨ RF g vL5 ls5 b → (Value.slice a8 q c8).ownBlock ≠ some b := fun b hb e => by
          cases e' : a8 with
          | none => rw [e'] at e; cases e
          | some p =>
            rw [e'] at e
            injection e with e
            obtain ⟨p1, p2, _⟩ := hnF.out p e'
            rcases hb with hb | hb
            · exact p1 (by rw [e]; exact hb)
            · exact p2 (by rw [e]; exact hb)
        have M6 := hid (M5.out.keep (w' := wr) (by rw [HI3.out]; exact Nat.le_refl _) (fun b hb => HI4.out b (key b (.inl hb))) (fun b hb => HI4.out b (key b (.inr hb))))
        have HBL := hid (((((HB2.out.mono M0.out.bw).trans (HB3.out.mono M2.out.bw)).trans HL4.out).trans HL5.out).trans (HI5.out.mono M2.out.bw))
        clear key
        cases t1
        · go_wp2_with fail
          go_ret
          exact ⟨⟨_, rfl⟩, ⟨_, _, _, _, _, M6.out⟩, HBL.out⟩
        · go_wp2_with fail
          go_ret
          exact ⟨⟨_, rfl⟩, ⟨_, _, _, _, _, M6.out⟩, HBL.out⟩
  have e0 : (dk == 0) = false := by simpa using k0
  by_cases k1 : dk = 1
  · have e1 : (dk == 1) = true := by simpa using k1
    have HF := hid (fillQ_ok (N := N) (kind := dt) (n := dn) M2.out.okP HZ.out.2.2)
    have HFR := hid (fill_ok (N := N) (kind := dt) (n := dn) M2.out.okR HZ.out.2.2)
    obtain ⟨a, ha⟩ : ∃ a, a = fillP osP N dt dn dw := ⟨_, rfl⟩
    obtain ⟨c, hc⟩ : ∃ a, a = fillM os N dt dn dw := ⟨_, rfl⟩
    have CP := hid (pfill_any M2.out.okP dt dn dw HZ.out.1 HZ.out.2.1 HZ.out.2.2 W2 M2.out.ph M2.out.bw)
    have CR : Hid (∀ (F' : Nat → Prop) wx, Mx B (.pointer (some ⟨gh, 0, none⟩)) g N (fillQ osP N dt dn dw) os F' vL ls wx → Calls Try.prog 22 #[.pointer (some ⟨g, 0, none⟩), .int .i64 dt, .int .i64 dn, .int .u64 dw] wx fun e w' => e = .returned (.tuple #[.int .u64 c.1, .int .i64 c.2]) ∧ RPost B g N vL ls wx (fillO os N dt dn dw) w') := fun F' wx hm => by
      have := rfill_any dt dn dw HZ.out.1 HZ.out.2.1 HZ.out.2.2 wx hm.rh hm.bw
      rw [hm.mp, ← hc] at this; exact this
    rw [← ha] at CP
    obtain ⟨a1, a2⟩ := a
    obtain ⟨c1', c2'⟩ := c
    simp only at CP CR
    clear hc
    obtain ⟨t1, ht1⟩ : ∃ t, (a1 == c1') = t := ⟨_, rfl⟩
    obtain ⟨t2, ht2⟩ : ∃ t, (a2 == c2') = t := ⟨_, rfl⟩
    clear ha
    cases t1
    · go_wp2_with (first
        | (go_at_call 21; (with_reducible refine CP.out.mono ?_); rintro e W3 ⟨rfl, hp3⟩; obtain ⟨F3, m3, f3, bl3⟩ := M2.out.p HF.out hp3; have M3 := hid m3; have HL3 := hid bl3; have hx3 := (f3 gx hgl.out hgx.out.1).2.trans HX2.out; have d1 : W3.cell? ⟨gx, 1, none⟩ = some (.int .i64 dt) := blk_cell hx3 1; have d2 : W3.cell? ⟨gx, 2, none⟩ = some (.int .i64 dn) := blk_cell hx3 2; have d5 : W3.cell? ⟨gx, 5, none⟩ = some (.int .u64 dw) := blk_cell hx3 5; have HF3 := hid f3; clear m3 f3 bl3 hp3 hx3)
        | (go_at_call 22; (with_reducible refine (CR.out F3 _ M3.out).mono ?_); rintro e W4 ⟨rfl, hp4⟩; have HP4 := hid hp4; clear hp4))
      go_ret
      obtain ⟨vL4, ls4, m4, f4, bl4⟩ := M3.out.r HFR.out HP4.out
      exact ⟨⟨_, rfl⟩, ⟨_, _, _, _, _, m4⟩, ((HB2.out.mono M0.out.bw).trans HL3.out).trans bl4⟩
    · go_wp2_with (first
        | (go_at_call 21; (with_reducible refine CP.out.mono ?_); rintro e W3 ⟨rfl, hp3⟩; obtain ⟨F3, m3, f3, bl3⟩ := M2.out.p HF.out hp3; have M3 := hid m3; have HL3 := hid bl3; have hx3 := (f3 gx hgl.out hgx.out.1).2.trans HX2.out; have d1 : W3.cell? ⟨gx, 1, none⟩ = some (.int .i64 dt) := blk_cell hx3 1; have d2 : W3.cell? ⟨gx, 2, none⟩ = some (.int .i64 dn) := blk_cell hx3 2; have d5 : W3.cell? ⟨gx, 5, none⟩ = some (.int .u64 dw) := blk_cell hx3 5; have HF3 := hid f3; clear m3 f3 bl3 hp3 hx3)
        | (go_at_call 22; (with_reducible refine (CR.out F3 _ M3.out).mono ?_); rintro e W4 ⟨rfl, hp4⟩; have HP4 := hid hp4; clear hp4))
      go_ret
      obtain ⟨vL4, ls4, m4, f4, bl4⟩ := M3.out.r HFR.out HP4.out
      exact ⟨⟨_, rfl⟩, ⟨_, _, _, _, _, m4⟩, ((HB2.out.mono M0.out.bw).trans HL3.out).trans bl4⟩
  have e1 : (dk == 1) = false := by simpa using k1
  by_cases k2 : dk = 2
  · have e2 : (dk == 2) = true := by simpa using k2
    obtain ⟨a, ha⟩ : ∃ a, a = getM osP P dt dn := ⟨_, rfl⟩
    obtain ⟨c, hc⟩ : ∃ a, a = getM os P dt dn := ⟨_, rfl⟩
    have CP : Hid (∀ wx, Below W2.heap.size W2 wx → Calls Try.prog 15 #[.pointer (some ⟨gh, 0, none⟩), .int .u64 P, .int .i64 dt, .int .i64 dn] wx fun e w' => e = .returned (.tuple #[.int .u64 a.1, .int .i64 a.2]) ∧ Below wx.heap.size wx w') := fun wx b => by rw [ha]; exact pget_any M2.out.okP P dt dn HTU.out HZ.out.1 HZ.out.2.1 wx (M2.out.on b).ph
    have CR : Hid (∀ wx, Below W2.heap.size W2 wx → Calls Try.prog 23 #[.pointer (some ⟨g, 0, none⟩), .int .u64 P, .int .i64 dt, .int .i64 dn] wx fun e w' => e = .returned (.tuple #[.int .u64 c.1, .int .i64 c.2]) ∧ Below wx.heap.size wx w') := fun wx b => by
      have := rget_any P dt dn HTU.out HZ.out.1 HZ.out.2.1 wx (M2.out.on b).rh
      rw [M2.out.mp, ← hc] at this; exact this
    obtain ⟨a1, a2⟩ := a
    obtain ⟨c1', c2'⟩ := c
    simp only at CP CR
    clear hc
    obtain ⟨t1, ht1⟩ : ∃ t, (a1 == c1') = t := ⟨_, rfl⟩
    obtain ⟨t2, ht2⟩ : ∃ t, (a2 == c2') = t := ⟨_, rfl⟩
    have HCX : Hid (∀ wx, Below W2.heap.size W2 wx → wx.cell? ⟨gx, 1, none⟩ = some (.int .i64 dt) ∧ wx.cell? ⟨gx, 2, none⟩ = some (.int .i64 dn)) := fun wx b => by
      have := (b.block gx hgl.out).trans HX2.out
      exact ⟨blk_cell this 1, blk_cell this 2⟩
    clear ha
    cases t1
    · go_wp2_with (first
        | (go_at_call 15; with_reducible refine (CP.out _ (Below.refl _ _)).mono ?_; rintro e W3 ⟨rfl, b3⟩; obtain ⟨d1, d2⟩ := HCX.out W3 b3)
        | (go_at_call 23; with_reducible refine (CR.out _ b3).mono ?_; rintro e W4 ⟨rfl, b4⟩))
      go_ret
      exact ⟨⟨_, rfl⟩, ⟨_, _, _, _, _, M2.out.on (Bt b3 b4)⟩, (HB2.out.mono M0.out.bw).trans ((Bt b3 b4).mono M2.out.bw)⟩
    · go_wp2_with (first
        | (go_at_call 15; with_reducible refine (CP.out _ (Below.refl _ _)).mono ?_; rintro e W3 ⟨rfl, b3⟩; obtain ⟨d1, d2⟩ := HCX.out W3 b3)
        | (go_at_call 23; with_reducible refine (CR.out _ b3).mono ?_; rintro e W4 ⟨rfl, b4⟩))
      go_ret
      exact ⟨⟨_, rfl⟩, ⟨_, _, _, _, _, M2.out.on (Bt b3 b4)⟩, (HB2.out.mono M0.out.bw).trans ((Bt b3 b4).mono M2.out.bw)⟩
  by_cases k3 : dk = 3
  · have e3 : (dk == 3) = true := by simpa using k3
    have e2 : (dk == 2) = false := by simpa using k2
    have HF := hid (set_ok (p := P) (kind := dt) (i := dn) (z := dw) M2.out.okP HZ.out.2.2)
    have HFR := hid (set_ok (p := P) (kind := dt) (i := dn) (z := dw) M2.out.okR HZ.out.2.2)
    obtain ⟨a, ha⟩ : ∃ a, a = setM osP P dt dn dw := ⟨_, rfl⟩
    obtain ⟨c, hc⟩ : ∃ a, a = setM os P dt dn dw := ⟨_, rfl⟩
    have M2d := hid (M2.out.on (Bd W2 1))
    have CP := hid (pset_any M2.out.okP P dt dn dw HTU.out HZ.out.1 HZ.out.2.1 HZ.out.2.2 W2.drew M2d.out.ph M2d.out.bw)
    have CR : Hid (∀ (F' : Nat → Prop) wx, Mx B (.pointer (some ⟨gh, 0, none⟩)) g N a.1 os F' vL ls wx → Calls Try.prog 25 #[.pointer (some ⟨g, 0, none⟩), .int .u64 P, .int .i64 dt, .int .i64 dn, .int .u64 dw] wx fun e w' => e = .returned (.int .i64 c.2) ∧ RPost B g N vL ls wx c.1 w') := fun F' wx hm => by
      refine (rset_any P dt dn dw HTU.out HZ.out.1 HZ.out.2.1 HZ.out.2.2 wx hm.rh).mono ?_
      rintro e w' ⟨rfl, ls', q1, q2, q3, q4⟩
      rw [hm.mp, ← hc] at q2 ⊢
      exact ⟨rfl, vL, ls', q1, q2, fun b hb => .inl ((q3 b).1 hb), q4⟩
    rw [← ha] at CP HF
    rw [← hc] at HFR
    obtain ⟨a1, a2⟩ := a
    obtain ⟨c1', c2'⟩ := c
    simp only at CP CR HF HFR
    clear ha hc
    go_wp2_with fail
    have hS0 : W2.drew.cell? ⟨gx, 1, none⟩ = some (.int .i64 dt) ∧ W2.drew.cell? ⟨gx, 2, none⟩ = some (.int .i64 dn) ∧ W2.drew.cell? ⟨gx, 5, none⟩ = some (.int .u64 dw) := ⟨c1, c2, c5⟩
    refine wp_region_held_drew (S := fun wx => wx.cell? ⟨gx, 1, none⟩ = some (.int .i64 dt) ∧ wx.cell? ⟨gx, 2, none⟩ = some (.int .i64 dn) ∧ wx.cell? ⟨gx, 5, none⟩ = some (.int .u64 dw)) (by kernel_rfl) hS0 (fun hHeld => ?_)
    refine htake 0 (some 136) (.pointer (some ⟨gh, 0, none⟩)) rfl rfl (by kernel_rfl) (by kernel_rfl) (by kernel_rfl) (fun _ _ _ h => h) (Or.inl ⟨by rfl, fun wx hSw => ?_⟩) (by assumption) ?_
    · go_simp
    simp only [Act.put, List.setIfInBounds_toArray, List.set_cons_zero, List.set_cons_succ]
    refine htake 1 (some 137) (.int .u64 P) rfl rfl (by kernel_rfl) (by kernel_rfl) (by kernel_rfl) (fun _ _ _ h => h) (Or.inl ⟨by rfl, fun wx hSw => ?_⟩) (by assumption) ?_
    · go_simp
    simp only [Act.put, List.setIfInBounds_toArray, List.set_cons_zero, List.set_cons_succ]
    refine htake 2 (some 138) (.pointer (some ⟨gx, 1, none⟩)) rfl rfl (by kernel_rfl) (by kernel_rfl) (by kernel_rfl) (fun _ _ _ h => h) (Or.inl ⟨by rfl, fun wx hSw => ?_⟩) (by assumption) ?_
    · go_simp
    simp only [Act.put, List.setIfInBounds_toArray, List.set_cons_zero, List.set_cons_succ]
    refine htake 3 (some 139) (.int .i64 dt) rfl rfl (by kernel_rfl) (by kernel_rfl) (by kernel_rfl) (fun _ _ _ h => h) (Or.inl ⟨by rfl, fun wx hSw => ?_⟩) (by assumption) ?_
    · obtain ⟨s1, s2, s5⟩ := hSw; go_simp
    simp only [Act.put, List.setIfInBounds_toArray, List.set_cons_zero, List.set_cons_succ]
    refine htake 4 (some 140) (.pointer (some ⟨gx, 2, none⟩)) rfl rfl (by kernel_rfl) (by kernel_rfl) (by kernel_rfl) (fun _ _ _ h => h) (Or.inl ⟨by rfl, fun wx hSw => ?_⟩) (by assumption) ?_
    · go_simp
    simp only [Act.put, List.setIfInBounds_toArray, List.set_cons_zero, List.set_cons_succ]
    refine htake 5 (some 141) (.int .i64 dn) rfl rfl (by kernel_rfl) (by kernel_rfl) (by kernel_rfl) (fun _ _ _ h => h) (Or.inl ⟨by rfl, fun wx hSw => ?_⟩) (by assumption) ?_
    · obtain ⟨s1, s2, s5⟩ := hSw; go_simp
    simp only [Act.put, List.setIfInBounds_toArray, List.set_cons_zero, List.set_cons_succ]
    refine htake 6 (some 142) (.pointer (some ⟨gx, 5, none⟩)) rfl rfl (by kernel_rfl) (by kernel_rfl) (by kernel_rfl) (fun _ _ _ h => h) (Or.inl ⟨by rfl, fun wx hSw => ?_⟩) (by assumption) ?_
    · go_simp
    simp only [Act.put, List.setIfInBounds_toArray, List.set_cons_zero, List.set_cons_succ]
    refine htake 7 (some 143) (.int .u64 dw) rfl rfl (by kernel_rfl) (by kernel_rfl) (by kernel_rfl) (fun _ _ _ h => h) (Or.inl ⟨by rfl, fun wx hSw => ?_⟩) (by assumption) ?_
    · obtain ⟨s1, s2, s5⟩ := hSw; go_simp
    simp only [Act.put, List.setIfInBounds_toArray, List.set_cons_zero, List.set_cons_succ]
    refine htake 9 (some 145) (.pointer (some ⟨g, 0, none⟩)) rfl rfl (by kernel_rfl) (by kernel_rfl) (by kernel_rfl) (fun _ _ _ h => h) (Or.inl ⟨by rfl, fun wx hSw => ?_⟩) (by assumption) ?_
    · go_simp
    simp only [Act.put, List.setIfInBounds_toArray, List.set_cons_zero, List.set_cons_succ]
    refine htake 10 (some 146) (.int .u64 P) rfl rfl (by kernel_rfl) (by kernel_rfl) (by kernel_rfl) (fun _ _ _ h => h) (Or.inl ⟨by rfl, fun wx hSw => ?_⟩) (by assumption) ?_
    · go_simp
    simp only [Act.put, List.setIfInBounds_toArray, List.set_cons_zero, List.set_cons_succ]
    refine htake 11 (some 147) (.pointer (some ⟨gx, 1, none⟩)) rfl rfl (by kernel_rfl) (by kernel_rfl) (by kernel_rfl) (fun _ _ _ h => h) (Or.inl ⟨by rfl, fun wx hSw => ?_⟩) (by assumption) ?_
    · go_simp
    simp only [Act.put, List.setIfInBounds_toArray, List.set_cons_zero, List.set_cons_succ]
    refine htake 12 (some 148) (.int .i64 dt) rfl rfl (by kernel_rfl) (by kernel_rfl) (by kernel_rfl) (fun _ _ _ h => h) (Or.inl ⟨by rfl, fun wx hSw => ?_⟩) (by assumption) ?_
    · obtain ⟨s1, s2, s5⟩ := hSw; go_simp
    simp only [Act.put, List.setIfInBounds_toArray, List.set_cons_zero, List.set_cons_succ]
    refine htake 13 (some 149) (.pointer (some ⟨gx, 2, none⟩)) rfl rfl (by kernel_rfl) (by kernel_rfl) (by kernel_rfl) (fun _ _ _ h => h) (Or.inl ⟨by rfl, fun wx hSw => ?_⟩) (by assumption) ?_
    · go_simp
    simp only [Act.put, List.setIfInBounds_toArray, List.set_cons_zero, List.set_cons_succ]
    refine htake 14 (some 150) (.int .i64 dn) rfl rfl (by kernel_rfl) (by kernel_rfl) (by kernel_rfl) (fun _ _ _ h => h) (Or.inl ⟨by rfl, fun wx hSw => ?_⟩) (by assumption) ?_
    · obtain ⟨s1, s2, s5⟩ := hSw; go_simp
    simp only [Act.put, List.setIfInBounds_toArray, List.set_cons_zero, List.set_cons_succ]
    refine htake 15 (some 151) (.pointer (some ⟨gx, 5, none⟩)) rfl rfl (by kernel_rfl) (by kernel_rfl) (by kernel_rfl) (fun _ _ _ h => h) (Or.inl ⟨by rfl, fun wx hSw => ?_⟩) (by assumption) ?_
    · go_simp
    simp only [Act.put, List.setIfInBounds_toArray, List.set_cons_zero, List.set_cons_succ]
    refine htake 16 (some 152) (.int .u64 dw) rfl rfl (by kernel_rfl) (by kernel_rfl) (by kernel_rfl) (fun _ _ _ h => h) (Or.inl ⟨by rfl, fun wx hSw => ?_⟩) (by assumption) ?_
    · obtain ⟨s1, s2, s5⟩ := hSw; go_simp
    simp only [Act.put, List.setIfInBounds_toArray, List.set_cons_zero, List.set_cons_succ]
    clear hHeld hS0 c0 c1 c2 c4 c5
    refine hone 8 _ rfl (by kernel_rfl) (fun K hK => ?_)
    go_simp
    go_at_call 24
    refine CP.out.mono ?_
    rintro e W3 ⟨rfl, hp3⟩
    obtain ⟨F3, m3, f3, bl3⟩ := M2d.out.p HF.out hp3
    have hx3 := (f3 gx hgl.out hgx.out.1).2.trans HX2.out
    have hS3 : W3.cell? ⟨gx, 1, none⟩ = some (.int .i64 dt) ∧ W3.cell? ⟨gx, 2, none⟩ = some (.int .i64 dn) ∧ W3.cell? ⟨gx, 5, none⟩ = some (.int .u64 dw) := ⟨blk_cell hx3 1, blk_cell hx3 2, blk_cell hx3 5⟩
    have hgl3 : gx < W3.heap.size := (Array.getElem?_eq_some_iff.1 hx3).1
    have M3 := hid m3
    have HL3 := hid bl3
    have HX3 := hid hx3
    refine hK.out _ _ hS3 (fun _ => ?_)
    have HF3 := hid f3
    clear hK K m3 f3 bl3 hp3 hx3 hS3
    try simp only [Act.put, List.setIfInBounds_toArray, List.set_cons_zero, List.set_cons_succ]
    refine hone 17 _ rfl (by kernel_rfl) (fun K hK => ?_)
    go_simp
    go_at_call 25
    refine (CR.out F3 _ M3.out).mono ?_
    rintro e W4 ⟨rfl, hp4⟩
    obtain ⟨vL4, ls4, m4, f4, bl4⟩ := M3.out.r HFR.out hp4
    have hx4 := (f4 gx hgl3 hgx.out.2).2.trans HX3.out
    have hS4 : W4.cell? ⟨gx, 1, none⟩ = some (.int .i64 dt) ∧ W4.cell? ⟨gx, 2, none⟩ = some (.int .i64 dn) ∧ W4.cell? ⟨gx, 5, none⟩ = some (.int .u64 dw) := ⟨blk_cell hx4 1, blk_cell hx4 2, blk_cell hx4 5⟩
    have M4 := hid m4
    have HL4 := hid bl4
    refine hK.out _ _ hS4 (fun _ => ?_)
    have HF4 := hid f4
    clear hK K m4 f4 bl4 hp4 hx4
    try simp only [Act.put, List.setIfInBounds_toArray, List.set_cons_zero, List.set_cons_succ]
    refine hone 18 _ rfl (by kernel_rfl) (fun K hK => ?_)
    go_simp
    refine hK.out _ _ hS4 (fun _ => ?_)
    clear hK K
    try simp only [Act.put, List.setIfInBounds_toArray, List.set_cons_zero, List.set_cons_succ]
    refine hone 19 _ rfl (by kernel_rfl) (fun K hK => ?_)
    go_simp
    refine hK.out _ _ hS4 (fun _ => ?_)
    clear hK K hS4
    refine wpAnyH_done (by kernel_rfl) ?_ _
    go_wp2
    go_ret
    exact ⟨⟨_, rfl⟩, ⟨_, _, _, _, _, M4.out⟩, (((HB2.out.mono M0.out.bw).trans ((Bd W2 1).mono M2.out.bw)).trans HL3.out).trans HL4.out⟩
  by_cases k4 : dk = 4
  · have e2 : (dk == 2) = false := by simpa using k2
    have e3 : (dk == 3) = false := by simpa using k3
    have e4 : (dk == 4) = true := by simpa using k4
    have CK : Hid (∀ wx, Below W2.heap.size W2 wx → Calls Try.prog 13 #[.pointer (some ⟨gh, 0, none⟩), .int .u64 P] wx fun e w' => e = .returned (.tuple #[.int .i64 (kindM osP P).1, .int .i64 (kindM osP P).2]) ∧ Below wx.heap.size wx w') := fun wx b => pkind_any M2.out.okP P HTU.out wx (M2.out.on b).ph
    have CS : Hid (∀ wx, Below W2.heap.size W2 wx → Calls Try.prog 14 #[.pointer (some ⟨gh, 0, none⟩), .int .u64 P] wx fun e w' => e = .returned (.tuple #[.int .i64 (sizeM osP P).1, .int .i64 (sizeM osP P).2]) ∧ Below wx.heap.size wx w') := fun wx b => psize_any M2.out.okP P HTU.out wx (M2.out.on b).ph
    have CF : Hid (∀ wx, Below W2.heap.size W2 wx → Calls Try.prog 26 #[.pointer (some ⟨g, 0, none⟩), .int .u64 P] wx fun e w' => e = .returned (.int .i64 (optI (findM os P))) ∧ Below wx.heap.size wx w') := fun wx b => by
      have := rfind_any P HTU.out wx (M2.out.on b).rh
      rw [M2.out.mp] at this; exact this
    have hE := HB2.out.mono M0.out.bw
    have HE := hid hE
    clear hE
    obtain ⟨⟨k1', k2'⟩, hkk⟩ : ∃ a, a = kindM osP P := ⟨_, rfl⟩
    obtain ⟨⟨s1', s2'⟩, hss⟩ : ∃ a, a = sizeM osP P := ⟨_, rfl⟩
    rw [← hkk] at CK
    rw [← hss] at CS
    simp only at CK CS
    clear hkk hss
    cases hf : findM os P with
    | none =>
      rw [hf] at CF
      simp only [optI] at CF
      clear hf
      obtain ⟨t1, ht1⟩ : ∃ t, (k1' == 0) = t := ⟨_, rfl⟩
      obtain ⟨t2, ht2⟩ : ∃ t, (s1' == 0) = t := ⟨_, rfl⟩
      obtain ⟨t3, ht3⟩ : ∃ t, (k2' == 70) = t := ⟨_, rfl⟩
      obtain ⟨t4, ht4⟩ : ∃ t, (s2' == 70) = t := ⟨_, rfl⟩
      cases t1 <;> cases t2 <;> cases t3 <;>
      (go_wp2_with (first
        | (go_at_call 13; (with_reducible refine (CK.out _ (Below.refl _ _)).mono ?_); rintro e W3 ⟨rfl, b3⟩)
        | (go_at_call 14; (with_reducible refine (CS.out _ b3).mono ?_); rintro e W4 ⟨rfl, b4⟩; have HB4 := hid (Bt b3 b4))
        | (go_at_call 26; (with_reducible refine (CF.out _ HB4.out).mono ?_); rintro e W5 ⟨rfl, b5⟩))
       go_ret
       exact ⟨⟨_, rfl⟩, ⟨_, _, _, _, _, M2.out.on (Bt HB4.out b5)⟩, HE.out.trans ((Bt HB4.out b5).mono M2.out.bw)⟩)
    | some n =>
      obtain ⟨hn, _⟩ := findM_lt hf
      rw [hf] at CF
      simp only [optI] at CF
      clear hf
      have hn' : n < ls.length := by rw [← M2.out.mp, List.length_map] at hn; exact hn
      obtain ⟨x, hx⟩ : ∃ x, x = ls.getD n default := ⟨_, rfl⟩
      have hmem : x ∈ ls := by rw [hx]; exact getD_in_ob hn'
      obtain ⟨gl, cap, hv, hc1, hc2, _⟩ := M2.out.rh.obj hn' hx
      have hxn := (M2.out.rh.rows x hmem).2
      obtain rfl := hv
      unfold maxLen at hc2
      have HC : Hid (∀ wa, Below W2.heap.size W2 wa → wa.cell? ⟨g, 1, none⟩ = some (.slice (some ⟨gl, 0, none⟩) ls.length cap) ∧ wa.cell? ⟨gl, n * 3 + 1, none⟩ = some (.int .i64 x.1.kind) ∧ wa.cell? ⟨gl, n * 3 + 2, none⟩ = some (.slice x.2.1 x.2.2.1 x.2.2.2)) := fun wa ba => by
        have hR := M2.out.rh.on ba
        obtain ⟨gl', cap', hv', _, _, j0, j1, j2⟩ := hR.obj hn' hx
        cases hv'
        exact ⟨blk_cell hR.box 1, j1, j2⟩
      obtain ⟨⟨xk, xf⟩, xa, xn, xc⟩ := x
      simp only at HC hxn
      clear hxn
      obtain ⟨t1, ht1⟩ : ∃ t, (k1' == xk) = t := ⟨_, rfl⟩
      obtain ⟨t2, ht2⟩ : ∃ t, (s1' == (xn : Int)) = t := ⟨_, rfl⟩
      obtain ⟨t3, ht3⟩ : ∃ t, (k2' == 0) = t := ⟨_, rfl⟩
      obtain ⟨t4, ht4⟩ : ∃ t, (s2' == 0) = t := ⟨_, rfl⟩
      clear hx hmem
      cases t1 <;> cases t2 <;> cases t3 <;>
      (go_wp2_with (first
        | (go_at_call 13; (with_reducible refine (CK.out _ (Below.refl _ _)).mono ?_); rintro e W3 ⟨rfl, b3⟩)
        | (go_at_call 14; (with_reducible refine (CS.out _ b3).mono ?_); rintro e W4 ⟨rfl, b4⟩; have HB4 := hid (Bt b3 b4))
        | (go_at_call 26; (with_reducible refine (CF.out _ HB4.out).mono ?_); rintro e W5 ⟨rfl, b5⟩; obtain ⟨y1, y2, y3⟩ := HC.out W5 (Bt HB4.out b5)))
       go_ret
       exact ⟨⟨_, rfl⟩, ⟨_, _, _, _, _, M2.out.on (Bt HB4.out b5)⟩, HE.out.trans ((Bt HB4.out b5).mono M2.out.bw)⟩)
  have e2 : (dk == 2) = false := by simpa using k2
  have e3 : (dk == 3) = false := by simpa using k3
  have e4 : (dk == 4) = false := by simpa using k4
  go_wp2_with fail
  go_ret
  exact ⟨⟨_, rfl⟩, ⟨_, _, _, _, _, M2.out⟩, HB2.out.mono M0.out.bw⟩
end Go.Proofs.Ythiniidgklilnaa
