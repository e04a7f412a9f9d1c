import Derived.Test.YtdekkieajffblaaGreatDoorQ10
import Derived.Test.YtdekkieajffblaaGreatDoorAB5
set_option linter.unusedVariables false
set_option linter.unusedSimpArgs false
set_option maxRecDepth 100000
namespace Go.Proofs.YtdekkieajffblaaGreatDoor
open Go.RowKit
section
variable {B : Nat} {v vn : Value} {N : Int} {os : List Ob} {F : Nat -> Prop} {gs : Nat}
set_option maxHeartbeats 8000000 in
theorem bign2_any (p : Int) (hp : U64 p) (w : World) (h : HE B v N os F w) (hA : AllBig os) {k : Nat} (hf : findM os p = some k) : Calls Tryz.prog 112 #[v, .int .u64 p] w fun e w' => e = .returned (bareV (bigNd (os.getD k default).f)) /\ Below w.heap.size w w' := by
 have hz := NZ.new w
 have b0 := Ba w (.cells #[.int .i64 0, .int .i64 0, .string ⟨#[]⟩, .slice none 0 0] 75)
 have hk := (findM_lt hf).1
 obtain ⟨y, h1, h2, h3⟩ := hA (os.getD k default) (by rw [List.getD_eq_getElem?_getD, List.getElem?_eq_getElem hk]; exact List.getElem_mem _)
 have hfe : (os.getD k default).f = bigL (decide (y < 0)) (mg y.natAbs) := by rw [h1]; rfl
 have hoz : objZ os p = some y := by
  unfold objZ
  rw [hf]
  show some (intL (os.getD k default).f) = _
  rw [hfe, big_intL]
 have hbn : bigNd (os.getD k default).f = ⟨3, 0, textOf (printL (decide (y < 0)) y.natAbs), []⟩ := by
  unfold bigNd
  rw [hfe, if_pos (big_is h2 h3), big_neg, big_mag, (mg_ok _).2.2]
 have C := hid (bread_any h.fine hA p hp _ (h.on b0).ph)
 rw [hoz] at C
 have HZ := hid hz
 have HB := hid b0
 have CP : Hid (∀ (neg : Bool) (ao : Option Addr) (n cap : Nat) (W : World), IsInt W (.agg #[.bool neg, .slice ao n cap]) y -> Calls Tryz.prog 129 #[.agg #[.bool neg, .slice ao n cap], .int .i64 10] W fun e w' => e = .returned (.tuple #[.string (textOf (printL (decide (y < 0)) y.natAbs)), .int .i64 0]) /\ Below W.heap.size W w') := fun neg ao n cap W hi => by
  obtain ⟨s, a', n', c', l, e, R, g, hy⟩ := hi.open_
  cases e
  refine (print_all neg ao n cap l 10 W R g).mono ?_
  rintro e w' ⟨s, en, rfl, hp, hb⟩
  obtain ⟨e1, e2⟩ := hp.is
  have e3 : neg = decide (y < 0) := by rw [hy]; exact neg_good g
  have e4 : val B32 l = y.natAbs := by rw [hy]; cases neg <;> simp [sgn]
  rw [e2, <- textOf_bs s, e1, e3, e4]
  exact ⟨rfl, hb⟩
 obtain ⟨S, hS⟩ : ∃ S, S = textOf (printL (decide (y < 0)) y.natAbs) := ⟨_, rfl⟩
 rw [<- hS] at CP hbn
 rw [hbn]
 have fin : Hid (∀ (k : Int) (W : World) (t0 : ByteArray), Below (w.alloc (.cells #[.int .i64 0, .int .i64 0, .string ⟨#[]⟩, .slice none 0 0] 75)).heap.size (w.alloc (.cells #[.int .i64 0, .int .i64 0, .string ⟨#[]⟩, .slice none 0 0] 75)) W -> NZ w.heap.size W /\ ((((W.setCell ⟨w.heap.size, 0, none⟩ (.int .i64 k)).setCell ⟨w.heap.size, 1, none⟩ (.int .i64 0)).setCell ⟨w.heap.size, 2, none⟩ (.string t0)).setCell ⟨w.heap.size, 3, none⟩ (.slice none 0 0)).heap[w.heap.size]? = some (.cells #[.int .i64 k, .int .i64 0, .string t0, .slice none 0 0] 75 (0, 0)) /\ Below w.heap.size w ((((W.setCell ⟨w.heap.size, 0, none⟩ (.int .i64 k)).setCell ⟨w.heap.size, 1, none⟩ (.int .i64 0)).setCell ⟨w.heap.size, 2, none⟩ (.string t0)).setCell ⟨w.heap.size, 3, none⟩ (.slice none 0 0))) := fun k W t0 hb =>
  ⟨HZ.out.on hb, store4 (HZ.out.on hb), store4_below (Bt HB.out hb) (Nat.le_refl _)⟩
 obtain ⟨W0, hW0⟩ : ∃ W, W = w.alloc (.cells #[.int .i64 0, .int .i64 0, .string ⟨#[]⟩, .slice none 0 0] 75) := ⟨_, rfl⟩
 rw [<- hW0] at fin
 have C1 : Hid (Calls Tryz.prog 62 #[v, .int .u64 p] (w.alloc (.cells #[.int .i64 0, .int .i64 0, .string ⟨#[]⟩, .slice none 0 0] 75)) fun e w' => ∃ s ao n cap, e = .returned (.tuple #[.agg #[.bool s, .slice ao n cap], .bool true]) /\ IsInt w' (.agg #[.bool s, .slice ao n cap]) y /\ Below (w.alloc (.cells #[.int .i64 0, .int .i64 0, .string ⟨#[]⟩, .slice none 0 0] 75)).heap.size (w.alloc (.cells #[.int .i64 0, .int .i64 0, .string ⟨#[]⟩, .slice none 0 0] 75)) w') := by
  refine C.out.mono ?_
  rintro e w' ⟨x, rfl, q1, q2⟩
  have k := q1
  obtain ⟨s, ao, n, cap, l, rfl, _⟩ := q1.open_
  exact ⟨s, ao, n, cap, rfl, k, q2⟩
 obtain ⟨gh, rfl⟩ := h.ph.ptr
 clear h hA hf hz b0 hk h1 h2 h3 hfe hoz hbn hS C
 go_enter Tryz.func112, Tryz.ntmps112
 go_wp2_with (first
  | (go_at_call 62; (with_reducible refine C1.out.mono ?_); rintro e W1 ⟨s, aM, m, cM, rfl, hI, b1⟩; rw [<- hW0] at b1; have hb := Ba W1 (.cells #[.bool s, .slice aM m cM] 24); have HB1 := hid (b1.trans (hb.mono b1.size)); have hx := blk_new W1 #[.bool s, .slice aM m cM] 24; have c0 : (W1.alloc (.cells #[.bool s, .slice aM m cM] 24)).cell? ⟨W1.heap.size, 0, none⟩ = some (.bool s) := blk_cell hx 0; have c1 : (W1.alloc (.cells #[.bool s, .slice aM m cM] 24)).cell? ⟨W1.heap.size, 1, none⟩ = some (.slice aM m cM) := blk_cell hx 1; have C3 := hid (CP.out s aM m cM _ (hI.below hb)); clear b1 hI hb hx)
  | (go_at_call 129; (with_reducible refine C3.out.mono ?_); rintro e W3 ⟨rfl, b3⟩; have HB3 := hid (HB1.out.trans (b3.mono HB1.out.size)); obtain ⟨hz2, q1, q2⟩ := fin.out 3 W3 S HB3.out; obtain ⟨c0, c1, c2, c3, f0, f1, f2, f3⟩ := hz2.c; have t0 := blk_cell q1 0; have t1 := blk_cell q1 1; have t2 := blk_cell q1 2; have t3 := blk_cell q1 3; have HQ2 := hid q2; clear b3 hz2 q1 q2))
 (try simp only [Exit.inBlock, Exit.then]); refine bodyPost_ret (by simp [results, Tryz.results112, go_sem, t0, t1, t2, t3]; rfl) rfl ?_
 exact ⟨rfl, HQ2.out⟩
set_option maxHeartbeats 16000000 in
theorem objecte2_is (p : Int) (hp : U64 p) (w : World) (h : HE B v N os F w) (hA : AllBig os) (hs : SB gs v vn w) {k : Nat} (hf : findM os p = some k) (h5 : (os.getD k default).kind = 5) :
  Calls Tryz.prog 90 #[.pointer (some ⟨gs, 0, none⟩), .int .u64 p, .int .i64 5] w (OPost (bigNd (os.getD k default).f) w) := by
 have hk := (findM_lt hf).1
 have hal := at_lt hk
 have hbd := h.used
 have hfl : (os.getD k default).f.length <= 5000000 := by omega
 have hz := NZ.new w
 have b0 := Ba w (.cells #[.int .i64 0, .int .i64 0, .string ⟨#[]⟩, .slice none 0 0] 75)
 have CF : Hid (∀ W, Below w.heap.size w W -> Calls Tryz.prog 112 #[v, .int .u64 p] W fun e w' => e = .returned (bareV (bigNd (os.getD k default).f)) /\ Below W.heap.size W w') := fun W hb => bign2_any p hp W (h.on hb) hA hf
 have s0 := (hs.on b0).1
 obtain ⟨W0, hW0⟩ : ∃ W, W = w.alloc (.cells #[.int .i64 0, .int .i64 0, .string ⟨#[]⟩, .slice none 0 0] 75) := ⟨_, rfl⟩
 rw [<- hW0] at hz b0
 have HZ := hid hz
 have HB := hid b0
 have fin : Hid (∀ (k m : Int) (W : World) (t0 : ByteArray), Below W0.heap.size W0 W -> NZ w.heap.size W /\ ((((W.setCell ⟨w.heap.size, 0, none⟩ (.int .i64 k)).setCell ⟨w.heap.size, 1, none⟩ (.int .i64 m)).setCell ⟨w.heap.size, 2, none⟩ (.string t0)).setCell ⟨w.heap.size, 3, none⟩ (.slice none 0 0)).heap[w.heap.size]? = some (.cells #[.int .i64 k, .int .i64 m, .string t0, .slice none 0 0] 75 (0, 0)) /\ Below w.heap.size w ((((W.setCell ⟨w.heap.size, 0, none⟩ (.int .i64 k)).setCell ⟨w.heap.size, 1, none⟩ (.int .i64 m)).setCell ⟨w.heap.size, 2, none⟩ (.string t0)).setCell ⟨w.heap.size, 3, none⟩ (.slice none 0 0)) /\ (∀ b, b ≠ w.heap.size -> ((((W.setCell ⟨w.heap.size, 0, none⟩ (.int .i64 k)).setCell ⟨w.heap.size, 1, none⟩ (.int .i64 m)).setCell ⟨w.heap.size, 2, none⟩ (.string t0)).setCell ⟨w.heap.size, 3, none⟩ (.slice none 0 0)).heap[b]? = W.heap[b]?) /\ ((((W.setCell ⟨w.heap.size, 0, none⟩ (.int .i64 k)).setCell ⟨w.heap.size, 1, none⟩ (.int .i64 m)).setCell ⟨w.heap.size, 2, none⟩ (.string t0)).setCell ⟨w.heap.size, 3, none⟩ (.slice none 0 0)).heap.size = W.heap.size) := fun k m W t0 hb =>
  ⟨HZ.out.on hb, store4 (HZ.out.on hb), store4_below (Bt HB.out hb) (Nat.le_refl _), fun b hne => store4_far hne, by simp [World.setCell]⟩
 have hs0 : Hid (W0.heap.size = w.heap.size + 1) := by unfold Hid; rw [hW0, size_alloc]
 obtain ⟨fl, hfe⟩ : ∃ x, x = (os.getD k default).f := ⟨_, rfl⟩
 rw [<- hfe] at CF hfl ⊢
 clear hz b0 hk hal hbd hf hfe h5 hA
 have hkid : (bigNd fl).kids = [] := by unfold bigNd; split <;> rfl
 obtain ⟨d, hdd⟩ : ∃ d, d = bigNd fl := ⟨_, rfl⟩
 rw [<- hdd] at CF hkid ⊢
 obtain ⟨dk, dn, dt, dl⟩ := d
 simp only at hkid
 subst hkid
 unfold bareV at CF
 simp only at CF
 obtain ⟨gh, rfl⟩ := h.ph.ptr
 have C3 := hid (CF.out W0 HB.out)
 rw [hW0] at C3
 clear hdd h hs
 go_enter Tryz.func90, Tryz.ntmps90
 go_wp2_with (first
  | (go_at_call 112; (with_reducible refine C3.out.mono ?_); rintro e W3 ⟨rfl, b3⟩; rw [<- hW0] at b3; have hf3 := b3; clear b3; obtain ⟨hz2, q1, q2, q3, q4⟩ := fin.out dk dn W3 dt hf3; obtain ⟨c0, c1, c2, c3, f0, f1, f2, f3⟩ := hz2.c; have t0 := blk_cell q1 0; have t1 := blk_cell q1 1; have t2 := blk_cell q1 2; have t3 := blk_cell q1 3; have HQ2 := hid q2; have HQ3 := hid q3; have HQ4 := hid q4; clear hz2 q1 q2 q3 q4; clear hf3))
 (try simp only [Exit.inBlock, Exit.then]); refine bodyPost_ret (by simp [results, Tryz.results90, go_sem, t0, t1, t2, t3]; rfl) rfl ?_
 exact OPost.bare HQ2.out
set_option maxHeartbeats 8000000 in
theorem nodee2_is (x : Int) (hx : U64 x) (w : World) (h : HE B v N os F w) (hA : AllBig os) (hs : SB gs v vn w) {k : Nat} (hf : findM os x = some k) (h5 : (os.getD k default).kind = 5) :
  Calls Tryz.prog 69 #[.pointer (some ⟨gs, 0, none⟩), .int .u64 x] w (OPost (bigNd (os.getD k default).f) w) := by
 have hz := NZ.new w
 have b0 := Ba w (.cells #[.int .i64 0, .int .i64 0, .string ⟨#[]⟩, .slice none 0 0] 75)
 obtain ⟨W0, hW0⟩ : ∃ W, W = w.alloc (.cells #[.int .i64 0, .int .i64 0, .string ⟨#[]⟩, .slice none 0 0] 75) := ⟨_, rfl⟩
 rw [<- hW0] at hz b0
 have HZ := hid hz
 have HB := hid b0
 have s0 := (hs.on b0).1
 have CK := hid (pkind_any h.fine x hx _ (h.on b0).ph)
 have hs0 : Hid (W0.heap.size = w.heap.size + 1) := by unfold Hid; rw [hW0, size_alloc]
 have fin : Hid (∀ (k m : Int) (W : World) (t0 : ByteArray), Below W0.heap.size W0 W -> NZ w.heap.size W /\ ((((W.setCell ⟨w.heap.size, 0, none⟩ (.int .i64 k)).setCell ⟨w.heap.size, 1, none⟩ (.int .i64 m)).setCell ⟨w.heap.size, 2, none⟩ (.string t0)).setCell ⟨w.heap.size, 3, none⟩ (.slice none 0 0)).heap[w.heap.size]? = some (.cells #[.int .i64 k, .int .i64 m, .string t0, .slice none 0 0] 75 (0, 0)) /\ Below w.heap.size w ((((W.setCell ⟨w.heap.size, 0, none⟩ (.int .i64 k)).setCell ⟨w.heap.size, 1, none⟩ (.int .i64 m)).setCell ⟨w.heap.size, 2, none⟩ (.string t0)).setCell ⟨w.heap.size, 3, none⟩ (.slice none 0 0)) /\ (∀ b, b ≠ w.heap.size -> ((((W.setCell ⟨w.heap.size, 0, none⟩ (.int .i64 k)).setCell ⟨w.heap.size, 1, none⟩ (.int .i64 m)).setCell ⟨w.heap.size, 2, none⟩ (.string t0)).setCell ⟨w.heap.size, 3, none⟩ (.slice none 0 0)).heap[b]? = W.heap[b]?) /\ ((((W.setCell ⟨w.heap.size, 0, none⟩ (.int .i64 k)).setCell ⟨w.heap.size, 1, none⟩ (.int .i64 m)).setCell ⟨w.heap.size, 2, none⟩ (.string t0)).setCell ⟨w.heap.size, 3, none⟩ (.slice none 0 0)).heap.size = W.heap.size) := fun k m W t0 hb =>
  ⟨HZ.out.on hb, store4 (HZ.out.on hb), store4_below (Bt HB.out hb) (Nat.le_refl _), fun b hne => store4_far hne, by simp [World.setCell]⟩
 have CO2 : Hid (∀ W, Below w.heap.size w W -> Calls Tryz.prog 90 #[.pointer (some ⟨gs, 0, none⟩), .int .u64 x, .int .i64 5] W (OPost (bigNd (os.getD k default).f) W)) := fun W hb => objecte2_is x hx W (h.on hb) hA (hs.on hb) hf h5
 obtain ⟨gh, rfl⟩ := h.ph.ptr
 unfold kindM at CK
 rw [hW0] at s0 CK
 clear h hs hz b0
 rw [hf] at CK
 simp only at CK
 rw [h5] at CK
 obtain ⟨d, hdd⟩ : ∃ d, d = bigNd (os.getD k default).f := ⟨_, rfl⟩
 rw [<- hdd] at CO2 ⊢
 obtain ⟨dk, dn, dt, dl⟩ := d
 unfold OPost bareV at CO2
 simp only at CO2
 clear hf hdd h5
 go_enter Tryz.func69, Tryz.ntmps69
 go_wp2_with (first
  | (go_at_call 65; (with_reducible refine CK.out.mono ?_); rintro e W1 ⟨rfl, b1⟩; rw [<- hW0] at b1; have HB1 := hid b1; have C2 := hid (CO2.out W1 (Bt HB.out b1)); clear b1)
  | (go_at_call 90; (with_reducible refine C2.out.mono ?_); rintro e W3 ⟨ak, nk, ck, rfl, hu3, ha3, b3⟩; have HU3 := hid hu3; have HA3 := hid ha3; have hf3 := HB1.out.trans (b3.mono HB1.out.size); obtain ⟨hz2, q1, q2, q3, q4⟩ := fin.out dk dn W3 dt hf3; obtain ⟨c0, c1, c2, c3, f0, f1, f2, f3⟩ := hz2.c; have t0 := blk_cell q1 0; have t1 := blk_cell q1 1; have t2 := blk_cell q1 2; have t3 := blk_cell q1 3; have HQ2 := hid q2; have HQ3 := hid q3; have HQ4 := hid q4; clear hz2 q1 q2 q3 q4 b3 hf3 hu3 ha3))
 (try simp only [Exit.inBlock, Exit.then]); refine bodyPost_ret (by simp [results, Tryz.results69, go_sem, t0, t1, t2, t3]; rfl) rfl ?_
 have e1 := HB1.out.size
 have e2 := hs0.out
 exact ⟨ak, nk, ck, rfl, HU3.out.keep (by have := HQ4.out; omega) (fun _ a e => HQ3.out _ (by have := HA3.out a e; omega)), fun a e => by have := HA3.out a e; omega, HQ2.out⟩
theorem showe2_any (a : Int) (ha : U64 a) (w : World) (h : HE B v N os F w) (hA : AllBig os) (hT : TabsS w) {k : Nat} (hf : findM os a = some k) (h5 : (os.getD k default).kind = 5) (g : Nat) (hg : w.heap[g]? = some (.cells #[.int .u64 a] 32 (0, 0))) :
  Calls Tryz.prog 41 #[v, .pointer none, .slice (some ⟨g, 0, none⟩) 1 1] w fun e w' => ∃ b o n1 c1 a2 n2 c2, e = .returned (.agg #[.slice (some ⟨b, o, none⟩) n1 c1, .slice a2 n2 c2]) /\ 0 < n1 /\ n1 <= c1 /\ c1 <= maxLen /\ w'.cell? ⟨b, o, none⟩ = some (.int .i64 (if bigB (os.getD k default).f = true then 3 else 11)) /\ Below w.heap.size w w' := by
 obtain ⟨gh, rfl⟩ := h.ph.ptr
 have hd : wordD os [] a = bigNd (os.getD k default).f := by unfold wordD; rw [hf]; simp only; rw [h5]; rfl
 obtain ⟨s1, s2, s3⟩ := bign_small (os.getD k default).f
 have hr : ∀ x, Rch (wordD os []) [a] x -> x ∈ [a] := fun x hx => by
  induction hx with
  | root hm => exact hm
  | @kid x y _ hy ih => rw [List.mem_singleton.1 ih, hd, s1] at hy; cases hy
 refine (sshow_gen (op := none) (wordD os []) (ok_word os []) (some ⟨g, 0, none⟩) 1 1 [a] w (urow_one hg ha) [a] hr (by simp) (fun x hx => by obtain rfl := List.mem_singleton.1 hx; rw [hd, s1]; exact ⟨by simp, s2⟩) (by omega) hT (fun wr x gs hx hu hb hs => by obtain rfl := List.mem_singleton.1 hx; rw [hd]; exact nodee2_is x hu wr (h.on hb) hA hs hf h5)).mono ?_
 rintro e w' ⟨a1, n1, c1, a2, n2, c2, W, ns, rs, rfl, hT1, hF, hG, _, hb⟩
 have hc := told_one (ok_word os []) (by rw [hd]; exact s1) hT1 hF
 rw [hc] at hG
 have hl := hG.nodes.len
 have hl1 : n1 = 1 := by simpa using hl.symm
 subst hl1
 obtain ⟨b, o, rfl, _, hcc⟩ := hG.nodes.some (by omega)
 obtain ⟨c0, _⟩ := hcc 0 (by simp)
 refine ⟨b, o, 1, c1, a2, n2, c2, rfl, by omega, hG.nodes.fits, hG.nodes.most, ?_, hb⟩
 rw [<- s3, <- hd]
 simpa using c0
set_option maxHeartbeats 4000000 in
theorem esamei2_any (a b : Int) (ha : U64 a) (hb : U64 b) (w : World) (h : HE B v N os F w) (hA : AllBig os) (hT : TabsS w) : Calls Tryz.prog 22 #[v, .int .u64 a, .int .u64 b] w fun e w' => e = .returned (.bool (sameIB os a b)) /\ Below w.heap.size w w' := by
 have C := hid (etype_any a b ha hb w h)
 have HSI : Hid (∀ i k, findM os a = some i -> findM os b = some k -> sameIB os a b = bigEq os i k) := fun i k h1 h2 => by unfold sameIB; rw [h1, h2]
 by_cases h5 : stM os a b = 5
 ·unfold stM kindM at h5
  cases hi : findM os a with
  | none => rw [hi] at h5; simp only at h5; split at h5 <;> omega
  | some i =>
   cases hk : findM os b with
   | none =>
    rw [hi, hk] at h5
    simp only at h5
    have := h.fine.kd _ (getD_in_os (findM_lt hi).1)
    rw [if_neg (by omega)] at h5
    omega
   | some k =>
    rw [hi, hk] at h5
    simp only at h5
    have h5' : (os.getD i default).kind = 5 /\ (os.getD k default).kind = 5 := by
     split at h5
     ·rename_i e; exact ⟨h5, by rw [<- e]; exact h5⟩
     ·omega
    have hst : stM os a b = 5 := by unfold stM kindM; rw [hi, hk]; simp only; rw [h5'.1, h5'.2]; rfl
    rw [hst] at C
    have CF : Hid (∀ W, Below w.heap.size w W -> _) := fun W hW => esamef_any a b ha hb W (h.on hW) hi hk
    have CS : Hid (∀ W, Below w.heap.size w W -> Calls Tryz.prog 41 #[v, .pointer none, .slice (some ⟨W.heap.size, 0, none⟩) 1 1] (W.alloc (.cells #[.int .u64 a] 32)) fun e w' => ∃ b o n1 c1 a2 n2 c2, e = .returned (.agg #[.slice (some ⟨b, o, none⟩) n1 c1, .slice a2 n2 c2]) /\ 0 < n1 /\ n1 <= c1 /\ c1 <= maxLen /\ w'.cell? ⟨b, o, none⟩ = some (.int .i64 (if bigB (os.getD i default).f = true then 3 else 11)) /\ Below w.heap.size w w') := fun W hW => by
     have hb1 := Bt hW (Ba W (.cells #[.int .u64 a] 32))
     refine (showe2_any a ha _ (h.on hb1) hA (hT.below hb1) hi h5'.1 W.heap.size (blk_new _ _ _)).mono ?_
     rintro e w' ⟨b, o, n1, c1, a2, n2, c2, h1, h2, h3, h4, h6, h7⟩
     exact ⟨b, o, n1, c1, a2, n2, c2, h1, h2, h3, h4, h6, hb1.trans (h7.mono hb1.size)⟩
    obtain ⟨gh, rfl⟩ := h.ph.ptr
    rw [HSI.out i k hi hk]
    unfold bigEq
    rw [decide_eq_true h5'.1, decide_eq_true h5'.2]
    obtain ⟨b1, hb1⟩ : ∃ x, x = decide ((os.getD i default).f = (os.getD k default).f) := ⟨_, rfl⟩
    obtain ⟨b2, hb2⟩ : ∃ x, x = bigB (os.getD i default).f := ⟨_, rfl⟩
    rw [<- hb1] at CF
    rw [<- hb2] at CS
    rw [<- hb1, <- hb2]
    clear h hi hk ha hb hT h5 h5' hst hb1 hb2
    cases b1
    ·go_enter Tryz.func22, Tryz.ntmps22
     go_wp2_with (first
      | (go_at_call 39; (with_reducible refine C.out.mono ?_); rintro e W1 ⟨rfl, b1⟩; have HB1 := hid b1; have C2 := hid (CF.out W1 b1); clear b1)
      | (go_at_call 40; (with_reducible refine C2.out.mono ?_); rintro e W2 ⟨rfl, b2⟩; have HB2 := hid (HB1.out.trans (b2.mono HB1.out.size)); clear b2))
     go_ret
     exact ⟨rfl, HB2.out⟩
    ·cases b2
     all_goals
      simp only [if_true, if_false, Bool.false_eq_true] at CS
      unfold maxLen at CS
      have hfd : ∀ bx ox n1 c1 a2 n2 c2 wx, (Instr.field 78 (.agg #[.slice (some ⟨bx, ox, none⟩) n1 c1, .slice a2 n2 c2]) 0).run Tryz.prog wx = .ok (.slice (some ⟨bx, ox, none⟩) n1 c1) wx := fun _ _ _ _ _ _ _ _ => rfl
      go_enter Tryz.func22, Tryz.ntmps22
      go_wp2_with (first
       | (go_at_call 39; (with_reducible refine C.out.mono ?_); rintro e W1 ⟨rfl, b1⟩; have HB1 := hid b1; have C2 := hid (CF.out W1 b1); clear b1)
       | (go_at_call 40; (with_reducible refine C2.out.mono ?_); rintro e W2 ⟨rfl, b2⟩; have HB2 := hid (HB1.out.trans (b2.mono HB1.out.size)); have C3 := hid (CS.out W2 HB2.out); clear b2)
       | (go_at_call 41; (with_reducible refine C3.out.mono ?_); rintro e W3 ⟨bx, ox, n1, c1, a2, n2, c2, rfl, g1, g2, g3, g4, b3⟩; have HB3 := hid b3; clear b3))
      go_ret
      exact ⟨rfl, HB3.out⟩
 ·have hfin : sameIB os a b = false := by
   unfold sameIB
   cases hi : findM os a with
   | none => rfl
   | some i =>
    cases hk : findM os b with
    | none => rfl
    | some k =>
     simp only [bigEq]
     unfold stM kindM at h5
     rw [hi, hk] at h5
     simp only at h5
     by_cases e1 : (os.getD i default).kind = 5
     ·by_cases e2 : (os.getD k default).kind = 5
      ·rw [e1, e2] at h5; exact absurd rfl h5
      ·rw [decide_eq_false e2, Bool.false_and, Bool.and_false]
     ·rw [decide_eq_false e1, Bool.false_and]
  rw [hfin]
  obtain ⟨gh, rfl⟩ := h.ph.ptr
  obtain ⟨st, hst⟩ : ∃ x, x = stM os a b := ⟨_, rfl⟩
  rw [<- hst] at C h5
  have e0 : (st != 5) = true := by simp [h5]
  clear h ha hb hT h5 hst hfin
  go_enter Tryz.func22, Tryz.ntmps22
  go_wp2_with (go_at_call 39; (with_reducible refine C.out.mono ?_); rintro e W1 ⟨rfl, b1⟩; have HB1 := hid b1; clear b1)
  go_ret
  exact ⟨rfl, HB1.out⟩
theorem eeqv2_any (a b : Int) (ha : U64 a) (hb : U64 b) (w : World) (h : HE B v N os F w) (hA : AllBig os) (hT : TabsS w) : Calls Tryz.prog 10 #[v, .int .u64 a, .int .u64 b] w fun e w' => e = .returned (.bool (eqvB os a b)) /\ Below w.heap.size w w' := by
 have C := hid (esamei2_any a b ha hb w h hA hT)
 unfold eqvB
 obtain ⟨gh, rfl⟩ := h.ph.ptr
 obtain ⟨bb, hbb⟩ : ∃ x, x = (sameIB os a b) := ⟨_, rfl⟩
 rw [<- hbb] at C ⊢
 clear h ha hb hT hbb
 by_cases e : a = b
 ·have e1 : (a == b) = true := by simp [e]
  rw [decide_eq_true e]
  clear e
  go_enter Tryz.func10, Tryz.ntmps10
  go_wp2_with fail
  go_ret
  exact ⟨rfl, Below.refl _ _⟩
 ·have e1 : (a == b) = false := by simp [e]
  rw [decide_eq_false e]
  clear e
  go_enter Tryz.func10, Tryz.ntmps10
  go_wp2_with (go_at_call 22; (with_reducible refine C.out.mono ?_); rintro e W1 ⟨rfl, b1⟩; have HB1 := hid b1; clear b1)
  go_ret
  exact ⟨rfl, HB1.out⟩
end
end Go.Proofs.YtdekkieajffblaaGreatDoor
