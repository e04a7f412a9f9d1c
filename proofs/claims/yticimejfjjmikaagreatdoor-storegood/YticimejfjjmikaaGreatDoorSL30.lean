import Derived.Test.YticimejfjjmikaaGreatDoorSL28
set_option linter.unusedVariables false
set_option linter.unusedSimpArgs false
set_option maxRecDepth 100000
namespace Go.Proofs.YticimejfjjmikaaGreatDoor
open Go.RowKit
def OPost (d : Nd) (w : World) (e : Ending) (w' : World) : Prop := ∃ ak nk ck, e = .returned (.tuple #[bareV d, .slice ak nk ck]) /\ URow w' ak nk ck d.kids /\ (∀ a, ak = some a -> w.heap.size <= a.block) /\ Below w.heap.size w w'
theorem OPost.bare {k m : Int} {t : ByteArray} {w w' : World} (hb : Below w.heap.size w w') : OPost ⟨k, m, t, []⟩ w (.returned (.tuple #[.agg #[.int .i64 k, .int .i64 m, .string t, .slice none 0 0], .slice none 0 0])) w' := ⟨none, 0, 0, rfl, unil _, fun a e => (by cases e), hb⟩
section
variable {B : Nat} {v vn : Value} {N : Int} {os : List Ob} {nm : List ByteArray} {F : Nat -> Prop} {gs : Nat}
set_option maxHeartbeats 16000000 in
theorem object_is (p : Int) (hp : U64 p) (w : World) (h : PN B v vn N os nm F w) (hs : SB gs v vn w) (hnm : nm.length <= 1000000) (hns : ∀ s ∈ nm, s.size <= 1000000) (hT : TabsS w) {k : Nat} (hf : findM os p = some k) :
  Calls Tryz.prog 74 #[.pointer (some ⟨gs, 0, none⟩), .int .u64 p, .int .i64 (os.getD k default).kind] w (OPost (objD os nm (os.getD k default).kind (os.getD k default).f) w) := by
 have hk := (findM_lt hf).1
 have hal := at_lt hk
 have hbd := h.bd.1
 have hfl : (os.getD k default).f.length <= 5000000 := by omega
 have hz := NZ.new w
 have b0 := Ba w (.cells #[.int .i64 0, .int .i64 0, .string ⟨#[]⟩, .slice none 0 0] 54)
 have CF := hid (fields_is p hp _ (h.on b0) (hs.on b0) hf)
 obtain ⟨W0, hW0⟩ : ∃ W, W = w.alloc (.cells #[.int .i64 0, .int .i64 0, .string ⟨#[]⟩, .slice none 0 0] 54) := ⟨_, rfl⟩
 rw [<- hW0] at hz b0 CF
 have HZ := hid hz
 have HB := hid b0
 have fin : Hid (∀ (k m : Int) (W : World) (t0 : ByteArray), Below W0.heap.size W0 W -> NZ w.heap.size W /\ ((((W.setCell ⟨w.heap.size, 0, none⟩ (.int .i64 k)).setCell ⟨w.heap.size, 1, none⟩ (.int .i64 m)).setCell ⟨w.heap.size, 2, none⟩ (.string t0)).setCell ⟨w.heap.size, 3, none⟩ (.slice none 0 0)).heap[w.heap.size]? = some (.cells #[.int .i64 k, .int .i64 m, .string t0, .slice none 0 0] 54 (0, 0)) /\ Below w.heap.size w ((((W.setCell ⟨w.heap.size, 0, none⟩ (.int .i64 k)).setCell ⟨w.heap.size, 1, none⟩ (.int .i64 m)).setCell ⟨w.heap.size, 2, none⟩ (.string t0)).setCell ⟨w.heap.size, 3, none⟩ (.slice none 0 0)) /\ (∀ b, b ≠ w.heap.size -> ((((W.setCell ⟨w.heap.size, 0, none⟩ (.int .i64 k)).setCell ⟨w.heap.size, 1, none⟩ (.int .i64 m)).setCell ⟨w.heap.size, 2, none⟩ (.string t0)).setCell ⟨w.heap.size, 3, none⟩ (.slice none 0 0)).heap[b]? = W.heap[b]?) /\ ((((W.setCell ⟨w.heap.size, 0, none⟩ (.int .i64 k)).setCell ⟨w.heap.size, 1, none⟩ (.int .i64 m)).setCell ⟨w.heap.size, 2, none⟩ (.string t0)).setCell ⟨w.heap.size, 3, none⟩ (.slice none 0 0)).heap.size = W.heap.size) := fun k m W t0 hb =>
  ⟨HZ.out.on hb, store4 (HZ.out.on hb), store4_below (Bt HB.out hb) (Nat.le_refl _), fun b hne => store4_far hne, by simp [World.setCell]⟩
 have hs0 : Hid (W0.heap.size = w.heap.size + 1) := by unfold Hid; rw [hW0, size_alloc]
 have CVd : Hid (∀ W, Calls Tryz.prog 127 #[] W fun e w' => e = .returned (.agg #[.int .i64 11, .int .i64 0, .string ⟨#[]⟩, .slice none 0 0]) /\ Below W.heap.size W w') := fun W => void_any W
 have CRC : Hid (∀ (ao : Option Addr) (n cap : Nat) (f : List Int) (W : World), URow W ao n cap f -> n <= 5000000 -> Below w.heap.size w W -> Calls Tryz.prog 126 #[.pointer (some ⟨gs, 0, none⟩), .slice ao n cap] W (KPost (recNd os nm f) ao W)) := fun ao n cap f W R hn hb => record_is ao n cap f W R hn (h.on hb) (hs.on hb) hnm hns (hT.below hb)
 obtain ⟨kd, hkd⟩ : ∃ x, x = (os.getD k default).kind := ⟨_, rfl⟩
 obtain ⟨fl, hfe⟩ : ∃ x, x = (os.getD k default).f := ⟨_, rfl⟩
 rw [<- hfe] at CF hfl ⊢
 rw [<- hkd]
 have HOB : Hid (∀ W3 (d : Nd) (ao : Option Addr) (W1 : World), Below W0.heap.size W0 W1 -> (∀ a, ao = some a -> W0.heap.size <= a.block) -> Below W1.heap.size W1 W3 -> ∀ ak nk ck, URow W3 ak nk ck d.kids -> (∀ a, ak = some a -> ∃ a0, ao = some a0 /\ a0.block = a.block) -> ∀ W4 : World, (∀ b, b ≠ w.heap.size -> W4.heap[b]? = W3.heap[b]?) -> W4.heap.size = W3.heap.size -> Below w.heap.size w W4 -> OPost d w (.returned (.tuple #[bareV d, .slice ak nk ck])) W4) := fun W3 d ao W1 h1 h2 h3 ak nk ck hu ha W4 h4 h5 h6 => by
  have hge : ∀ a, ak = some a -> W0.heap.size <= a.block := fun a e => by
   obtain ⟨a0, e0, e1⟩ := ha a e
   rw [<- e1]; exact h2 a0 e0
  have e9 := hs0.out
  refine ⟨ak, nk, ck, rfl, hu.keep (by omega) (fun _ a e => h4 _ (by have := hge a e; omega)), fun a e => by have := hge a e; omega, h6⟩
 clear h hs hT hz b0 hk hal hbd hf hkd hfe hnm hns
 by_cases k1 : kd = 1
 ·subst k1
  have hd : objD os nm 1 fl = if fl.length = 2 then ⟨7, 0, ByteArray.empty, fl⟩ else voidN := rfl
  rw [hd]
  have C2 : Hid (∀ (ao : Option Addr) (cap : Nat) (W : World), URow W ao fl.length cap fl -> Below w.heap.size w W -> Calls Tryz.prog 119 #[.slice ao fl.length cap] W (KPost (if fl.length = 2 then ⟨7, 0, ByteArray.empty, fl⟩ else voidN) ao W)) := fun ao cap W R hb => pair_any ao fl.length cap fl W R hfl
  obtain ⟨n, hn⟩ : ∃ n, n = fl.length := ⟨_, rfl⟩
  obtain ⟨d, hdd⟩ : ∃ d, d = (if fl.length = 2 then ⟨7, 0, ByteArray.empty, fl⟩ else voidN) := ⟨_, rfl⟩
  rw [<- hdd] at C2 ⊢
  rw [<- hn] at C2 CF
  obtain ⟨dk, dn, dt, dl⟩ := d
  unfold KPost bareV at C2
  simp only at C2
  rw [hW0] at CF
  clear hd hn hdd
  go_enter Tryz.func74, Tryz.ntmps74
  go_wp2_with (first
   | (go_at_call 120; (with_reducible refine CF.out.mono ?_); rintro e W1 ⟨ao, cap, rfl, hu1, ha1, b1⟩; try (rw [<- hW0] at ha1 b1); have HB1 := hid b1; have HA1 := hid ha1; have C3 := hid (C2.out ao cap W1 hu1 (Bt HB.out b1)); clear hu1 ha1 b1)
   | (go_at_call 119; (with_reducible refine C3.out.mono ?_); rintro e W3 ⟨ak, nk, ck, rfl, hu3, ha3, b3⟩; have HU3 := hid hu3; have HA3 := hid ha3; have HBL3 := hid b3; have hf3 := HB1.out.trans (b3.mono HB1.out.size); clear hu3 ha3 b3; obtain ⟨hz2, q1, q2, q3, q4⟩ := fin.out dk dn W3 dt hf3; obtain ⟨c0, c1, c2, c3, f0, f1, f2, f3⟩ := hz2.c; have t0 := blk_cell q1 0; have t1 := blk_cell q1 1; have t2 := blk_cell q1 2; have t3 := blk_cell q1 3; have HQ2 := hid q2; have HQ3 := hid q3; have HQ4 := hid q4; clear hz2 q1 q2 q3 q4; clear hf3))
  (try simp only [Exit.inBlock, Exit.then]); refine bodyPost_ret (by simp [results, Tryz.results74, go_sem, t0, t1, t2, t3]; rfl) rfl ?_
  exact HOB.out W3 ⟨dk, dn, dt, dl⟩ ao W1 HB1.out HA1.out HBL3.out ak nk ck HU3.out HA3.out _ HQ3.out HQ4.out HQ2.out
 by_cases k2 : kd = 2
 ·subst k2
  have hd : objD os nm 2 fl = if fl.length <= 1024 then ⟨8, 0, ByteArray.empty, fl⟩ else voidN := rfl
  rw [hd]
  have C2 : Hid (∀ (ao : Option Addr) (cap : Nat) (W : World), URow W ao fl.length cap fl -> Below w.heap.size w W -> Calls Tryz.prog 121 #[.slice ao fl.length cap] W (KPost (if fl.length <= 1024 then ⟨8, 0, ByteArray.empty, fl⟩ else voidN) ao W)) := fun ao cap W R hb => vector_any ao fl.length cap fl W R hfl
  obtain ⟨n, hn⟩ : ∃ n, n = fl.length := ⟨_, rfl⟩
  obtain ⟨d, hdd⟩ : ∃ d, d = (if fl.length <= 1024 then ⟨8, 0, ByteArray.empty, fl⟩ else voidN) := ⟨_, rfl⟩
  rw [<- hdd] at C2 ⊢
  rw [<- hn] at C2 CF
  obtain ⟨dk, dn, dt, dl⟩ := d
  unfold KPost bareV at C2
  simp only at C2
  rw [hW0] at CF
  clear hd hn hdd
  go_enter Tryz.func74, Tryz.ntmps74
  go_wp2_with (first
   | (go_at_call 120; (with_reducible refine CF.out.mono ?_); rintro e W1 ⟨ao, cap, rfl, hu1, ha1, b1⟩; try (rw [<- hW0] at ha1 b1); have HB1 := hid b1; have HA1 := hid ha1; have C3 := hid (C2.out ao cap W1 hu1 (Bt HB.out b1)); clear hu1 ha1 b1)
   | (go_at_call 121; (with_reducible refine C3.out.mono ?_); rintro e W3 ⟨ak, nk, ck, rfl, hu3, ha3, b3⟩; have HU3 := hid hu3; have HA3 := hid ha3; have HBL3 := hid b3; have hf3 := HB1.out.trans (b3.mono HB1.out.size); clear hu3 ha3 b3; obtain ⟨hz2, q1, q2, q3, q4⟩ := fin.out dk dn W3 dt hf3; obtain ⟨c0, c1, c2, c3, f0, f1, f2, f3⟩ := hz2.c; have t0 := blk_cell q1 0; have t1 := blk_cell q1 1; have t2 := blk_cell q1 2; have t3 := blk_cell q1 3; have HQ2 := hid q2; have HQ3 := hid q3; have HQ4 := hid q4; clear hz2 q1 q2 q3 q4; clear hf3))
  (try simp only [Exit.inBlock, Exit.then]); refine bodyPost_ret (by simp [results, Tryz.results74, go_sem, t0, t1, t2, t3]; rfl) rfl ?_
  exact HOB.out W3 ⟨dk, dn, dt, dl⟩ ao W1 HB1.out HA1.out HBL3.out ak nk ck HU3.out HA3.out _ HQ3.out HQ4.out HQ2.out
 by_cases k12 : kd = 12
 ·subst k12
  have hd : objD os nm 12 fl = condNd fl := rfl
  rw [hd]
  have C2 : Hid (∀ (ao : Option Addr) (cap : Nat) (W : World), URow W ao fl.length cap fl -> Below w.heap.size w W -> Calls Tryz.prog 125 #[.slice ao fl.length cap] W (KPost (condNd fl) ao W)) := fun ao cap W R hb => condn_any ao fl.length cap fl W R hfl
  obtain ⟨n, hn⟩ : ∃ n, n = fl.length := ⟨_, rfl⟩
  obtain ⟨d, hdd⟩ : ∃ d, d = (condNd fl) := ⟨_, rfl⟩
  rw [<- hdd] at C2 ⊢
  rw [<- hn] at C2 CF
  obtain ⟨dk, dn, dt, dl⟩ := d
  unfold KPost bareV at C2
  simp only at C2
  rw [hW0] at CF
  clear hd hn hdd
  go_enter Tryz.func74, Tryz.ntmps74
  go_wp2_with (first
   | (go_at_call 120; (with_reducible refine CF.out.mono ?_); rintro e W1 ⟨ao, cap, rfl, hu1, ha1, b1⟩; try (rw [<- hW0] at ha1 b1); have HB1 := hid b1; have HA1 := hid ha1; have C3 := hid (C2.out ao cap W1 hu1 (Bt HB.out b1)); clear hu1 ha1 b1)
   | (go_at_call 125; (with_reducible refine C3.out.mono ?_); rintro e W3 ⟨ak, nk, ck, rfl, hu3, ha3, b3⟩; have HU3 := hid hu3; have HA3 := hid ha3; have HBL3 := hid b3; have hf3 := HB1.out.trans (b3.mono HB1.out.size); clear hu3 ha3 b3; obtain ⟨hz2, q1, q2, q3, q4⟩ := fin.out dk dn W3 dt hf3; obtain ⟨c0, c1, c2, c3, f0, f1, f2, f3⟩ := hz2.c; have t0 := blk_cell q1 0; have t1 := blk_cell q1 1; have t2 := blk_cell q1 2; have t3 := blk_cell q1 3; have HQ2 := hid q2; have HQ3 := hid q3; have HQ4 := hid q4; clear hz2 q1 q2 q3 q4; clear hf3))
  (try simp only [Exit.inBlock, Exit.then]); refine bodyPost_ret (by simp [results, Tryz.results74, go_sem, t0, t1, t2, t3]; rfl) rfl ?_
  exact HOB.out W3 ⟨dk, dn, dt, dl⟩ ao W1 HB1.out HA1.out HBL3.out ak nk ck HU3.out HA3.out _ HQ3.out HQ4.out HQ2.out
 by_cases k14 : kd = 14
 ·subst k14
  have hd : objD os nm 14 fl = recNd os nm fl := rfl
  rw [hd]
  have C2 : Hid (∀ (ao : Option Addr) (cap : Nat) (W : World), URow W ao fl.length cap fl -> Below w.heap.size w W -> Calls Tryz.prog 126 #[.pointer (some ⟨gs, 0, none⟩), .slice ao fl.length cap] W (KPost (recNd os nm fl) ao W)) := fun ao cap W R hb => CRC.out ao fl.length cap fl W R hfl hb
  obtain ⟨n, hn⟩ : ∃ n, n = fl.length := ⟨_, rfl⟩
  obtain ⟨d, hdd⟩ : ∃ d, d = (recNd os nm fl) := ⟨_, rfl⟩
  rw [<- hdd] at C2 ⊢
  rw [<- hn] at C2 CF
  obtain ⟨dk, dn, dt, dl⟩ := d
  unfold KPost bareV at C2
  simp only at C2
  rw [hW0] at CF
  clear hd hn hdd
  go_enter Tryz.func74, Tryz.ntmps74
  go_wp2_with (first
   | (go_at_call 120; (with_reducible refine CF.out.mono ?_); rintro e W1 ⟨ao, cap, rfl, hu1, ha1, b1⟩; try (rw [<- hW0] at ha1 b1); have HB1 := hid b1; have HA1 := hid ha1; have C3 := hid (C2.out ao cap W1 hu1 (Bt HB.out b1)); clear hu1 ha1 b1)
   | (go_at_call 126; (with_reducible refine C3.out.mono ?_); rintro e W3 ⟨ak, nk, ck, rfl, hu3, ha3, b3⟩; have HU3 := hid hu3; have HA3 := hid ha3; have HBL3 := hid b3; have hf3 := HB1.out.trans (b3.mono HB1.out.size); clear hu3 ha3 b3; obtain ⟨hz2, q1, q2, q3, q4⟩ := fin.out dk dn W3 dt hf3; obtain ⟨c0, c1, c2, c3, f0, f1, f2, f3⟩ := hz2.c; have t0 := blk_cell q1 0; have t1 := blk_cell q1 1; have t2 := blk_cell q1 2; have t3 := blk_cell q1 3; have HQ2 := hid q2; have HQ3 := hid q3; have HQ4 := hid q4; clear hz2 q1 q2 q3 q4; clear hf3))
  (try simp only [Exit.inBlock, Exit.then]); refine bodyPost_ret (by simp [results, Tryz.results74, go_sem, t0, t1, t2, t3]; rfl) rfl ?_
  exact HOB.out W3 ⟨dk, dn, dt, dl⟩ ao W1 HB1.out HA1.out HBL3.out ak nk ck HU3.out HA3.out _ HQ3.out HQ4.out HQ2.out
 by_cases k3 : kd = 3
 ·subst k3
  have hd : objD os nm 3 fl = textNd fl := rfl
  rw [hd]
  have C2 : Hid (∀ (ao : Option Addr) (cap : Nat) (W : World), URow W ao fl.length cap fl -> Calls Tryz.prog 122 #[.slice ao fl.length cap] W fun e w' => e = .returned (bareV (textNd fl)) /\ Below W.heap.size W w') := fun ao cap W R => textn_any ao fl.length cap fl W R hfl
  have hkid : (textNd fl).kids = [] := by unfold textNd; split <;> rfl
  obtain ⟨n, hn⟩ : ∃ n, n = fl.length := ⟨_, rfl⟩
  obtain ⟨d, hdd⟩ : ∃ d, d = textNd fl := ⟨_, rfl⟩
  rw [<- hdd] at C2 hkid ⊢
  rw [<- hn] at C2 CF
  obtain ⟨dk, dn, dt, dl⟩ := d
  simp only at hkid
  subst hkid
  unfold bareV at C2
  simp only at C2
  rw [hW0] at CF
  clear hd hn hdd
  go_enter Tryz.func74, Tryz.ntmps74
  go_wp2_with (first
   | (go_at_call 120; (with_reducible refine CF.out.mono ?_); rintro e W1 ⟨ao, cap, rfl, hu1, ha1, b1⟩; try (rw [<- hW0] at ha1 b1); have HB1 := hid b1; have C3 := hid (C2.out ao cap W1 hu1); clear hu1 ha1 b1)
   | (go_at_call 122; (with_reducible refine C3.out.mono ?_); rintro e W3 ⟨rfl, b3⟩; have hf3 := HB1.out.trans (b3.mono HB1.out.size); clear b3; obtain ⟨hz2, q1, q2, q3, q4⟩ := fin.out dk dn W3 dt hf3; obtain ⟨c0, c1, c2, c3, f0, f1, f2, f3⟩ := hz2.c; have t0 := blk_cell q1 0; have t1 := blk_cell q1 1; have t2 := blk_cell q1 2; have t3 := blk_cell q1 3; have HQ2 := hid q2; have HQ3 := hid q3; have HQ4 := hid q4; clear hz2 q1 q2 q3 q4; clear hf3))
  (try simp only [Exit.inBlock, Exit.then]); refine bodyPost_ret (by simp [results, Tryz.results74, go_sem, t0, t1, t2, t3]; rfl) rfl ?_
  exact OPost.bare HQ2.out
 by_cases k4 : kd = 4
 ·subst k4
  have hd : objD os nm 4 fl = bytesNd fl := rfl
  rw [hd]
  have C2 : Hid (∀ (ao : Option Addr) (cap : Nat) (W : World), URow W ao fl.length cap fl -> Calls Tryz.prog 123 #[.slice ao fl.length cap] W fun e w' => e = .returned (bareV (bytesNd fl)) /\ Below W.heap.size W w') := fun ao cap W R => bytesn_any ao fl.length cap fl W R hfl
  have hkid : (bytesNd fl).kids = [] := by unfold bytesNd; split <;> rfl
  obtain ⟨n, hn⟩ : ∃ n, n = fl.length := ⟨_, rfl⟩
  obtain ⟨d, hdd⟩ : ∃ d, d = bytesNd fl := ⟨_, rfl⟩
  rw [<- hdd] at C2 hkid ⊢
  rw [<- hn] at C2 CF
  obtain ⟨dk, dn, dt, dl⟩ := d
  simp only at hkid
  subst hkid
  unfold bareV at C2
  simp only at C2
  rw [hW0] at CF
  clear hd hn hdd
  go_enter Tryz.func74, Tryz.ntmps74
  go_wp2_with (first
   | (go_at_call 120; (with_reducible refine CF.out.mono ?_); rintro e W1 ⟨ao, cap, rfl, hu1, ha1, b1⟩; try (rw [<- hW0] at ha1 b1); have HB1 := hid b1; have C3 := hid (C2.out ao cap W1 hu1); clear hu1 ha1 b1)
   | (go_at_call 123; (with_reducible refine C3.out.mono ?_); rintro e W3 ⟨rfl, b3⟩; have hf3 := HB1.out.trans (b3.mono HB1.out.size); clear b3; obtain ⟨hz2, q1, q2, q3, q4⟩ := fin.out dk dn W3 dt hf3; obtain ⟨c0, c1, c2, c3, f0, f1, f2, f3⟩ := hz2.c; have t0 := blk_cell q1 0; have t1 := blk_cell q1 1; have t2 := blk_cell q1 2; have t3 := blk_cell q1 3; have HQ2 := hid q2; have HQ3 := hid q3; have HQ4 := hid q4; clear hz2 q1 q2 q3 q4; clear hf3))
  (try simp only [Exit.inBlock, Exit.then]); refine bodyPost_ret (by simp [results, Tryz.results74, go_sem, t0, t1, t2, t3]; rfl) rfl ?_
  exact OPost.bare HQ2.out
 by_cases k5 : kd = 5
 ·subst k5
  have hd : objD os nm 5 fl = bigNd fl := rfl
  rw [hd]
  have C2 : Hid (∀ (ao : Option Addr) (cap : Nat) (W : World), URow W ao fl.length cap fl -> Calls Tryz.prog 124 #[.slice ao fl.length cap] W fun e w' => e = .returned (bareV (bigNd fl)) /\ Below W.heap.size W w') := fun ao cap W R => bign_any ao fl.length cap fl W R hfl
  have hkid : (bigNd fl).kids = [] := by unfold bigNd; split <;> rfl
  obtain ⟨n, hn⟩ : ∃ n, n = fl.length := ⟨_, rfl⟩
  obtain ⟨d, hdd⟩ : ∃ d, d = bigNd fl := ⟨_, rfl⟩
  rw [<- hdd] at C2 hkid ⊢
  rw [<- hn] at C2 CF
  obtain ⟨dk, dn, dt, dl⟩ := d
  simp only at hkid
  subst hkid
  unfold bareV at C2
  simp only at C2
  rw [hW0] at CF
  clear hd hn hdd
  go_enter Tryz.func74, Tryz.ntmps74
  go_wp2_with (first
   | (go_at_call 120; (with_reducible refine CF.out.mono ?_); rintro e W1 ⟨ao, cap, rfl, hu1, ha1, b1⟩; try (rw [<- hW0] at ha1 b1); have HB1 := hid b1; have C3 := hid (C2.out ao cap W1 hu1); clear hu1 ha1 b1)
   | (go_at_call 124; (with_reducible refine C3.out.mono ?_); rintro e W3 ⟨rfl, b3⟩; have hf3 := HB1.out.trans (b3.mono HB1.out.size); clear b3; obtain ⟨hz2, q1, q2, q3, q4⟩ := fin.out dk dn W3 dt hf3; obtain ⟨c0, c1, c2, c3, f0, f1, f2, f3⟩ := hz2.c; have t0 := blk_cell q1 0; have t1 := blk_cell q1 1; have t2 := blk_cell q1 2; have t3 := blk_cell q1 3; have HQ2 := hid q2; have HQ3 := hid q3; have HQ4 := hid q4; clear hz2 q1 q2 q3 q4; clear hf3))
  (try simp only [Exit.inBlock, Exit.then]); refine bodyPost_ret (by simp [results, Tryz.results74, go_sem, t0, t1, t2, t3]; rfl) rfl ?_
  exact OPost.bare HQ2.out
 by_cases k18 : kd = 18
 ·subst k18
  have hd : objD os nm 18 fl = ⟨16, 0, ⟨#[]⟩, fl⟩ := rfl
  rw [hd]
  obtain ⟨n, hn⟩ : ∃ n, n = fl.length := ⟨_, rfl⟩
  rw [<- hn] at CF
  rw [hW0] at CF
  clear hd hn
  go_enter Tryz.func74, Tryz.ntmps74
  go_wp2_with (go_at_call 120; (with_reducible refine CF.out.mono ?_); rintro e W1 ⟨ao, cap, rfl, hu1, ha1, b1⟩; try (rw [<- hW0] at ha1 b1); have HB1 := hid b1; have HA1 := hid ha1; have HU1 := hid hu1; obtain ⟨hz2, q1, q2, q3, q4⟩ := fin.out 16 0 W1 ⟨#[]⟩ b1; obtain ⟨c0, c1, c2, c3, f0, f1, f2, f3⟩ := hz2.c; have t0 := blk_cell q1 0; have t1 := blk_cell q1 1; have t2 := blk_cell q1 2; have t3 := blk_cell q1 3; have HQ2 := hid q2; have HQ3 := hid q3; have HQ4 := hid q4; clear hz2 q1 q2 q3 q4; clear hu1 ha1 b1)
  (try simp only [Exit.inBlock, Exit.then]); refine bodyPost_ret (by simp [results, Tryz.results74, go_sem, t0, t1, t2, t3]; rfl) rfl ?_
  exact HOB.out W1 ⟨16, 0, ⟨#[]⟩, fl⟩ ao W1 HB1.out HA1.out (Below.refl _ _) ao n cap HU1.out (fun a e => ⟨a, e, rfl⟩) _ HQ3.out HQ4.out HQ2.out
 by_cases k13 : kd = 13
 ·subst k13
  have hd : objD os nm 13 fl = ⟨15, 0, ⟨#[114, 101, 99, 111, 114, 100, 45, 116, 121, 112, 101]⟩, []⟩ := rfl
  rw [hd]
  have hst := blk_new w #[.int .i64 15, .int .i64 0, .string ⟨#[114, 101, 99, 111, 114, 100, 45, 116, 121, 112, 101]⟩, .slice none 0 0] 54
  have t0 := blk_cell hst 0
  have t1 := blk_cell hst 1
  have t2 := blk_cell hst 2
  have t3 := blk_cell hst 3
  have HB5 := hid (Ba w (.cells #[.int .i64 15, .int .i64 0, .string ⟨#[114, 101, 99, 111, 114, 100, 45, 116, 121, 112, 101]⟩, .slice none 0 0] 54))
  clear hst hd
  go_enter Tryz.func74, Tryz.ntmps74
  go_wp2_with fail
  (try simp only [Exit.inBlock, Exit.then]); refine bodyPost_ret (by simp [results, Tryz.results74, go_sem, t0, t1, t2, t3]; rfl) rfl ?_
  exact OPost.bare HB5.out
 by_cases k22 : kd = 22
 ·subst k22
  have hd : objD os nm 22 fl = ⟨15, 0, ⟨#[116, 97, 98, 108, 101]⟩, []⟩ := rfl
  rw [hd]
  have hst := blk_new w #[.int .i64 15, .int .i64 0, .string ⟨#[116, 97, 98, 108, 101]⟩, .slice none 0 0] 54
  have t0 := blk_cell hst 0
  have t1 := blk_cell hst 1
  have t2 := blk_cell hst 2
  have t3 := blk_cell hst 3
  have HB5 := hid (Ba w (.cells #[.int .i64 15, .int .i64 0, .string ⟨#[116, 97, 98, 108, 101]⟩, .slice none 0 0] 54))
  clear hst hd
  go_enter Tryz.func74, Tryz.ntmps74
  go_wp2_with fail
  (try simp only [Exit.inBlock, Exit.then]); refine bodyPost_ret (by simp [results, Tryz.results74, go_sem, t0, t1, t2, t3]; rfl) rfl ?_
  exact OPost.bare HB5.out
 by_cases k11 : kd = 11
 ·subst k11
  have hd : objD os nm 11 fl = ⟨14, 0, ⟨#[]⟩, []⟩ := rfl
  rw [hd]
  have hst := blk_new w #[.int .i64 14, .int .i64 0, .string ⟨#[]⟩, .slice none 0 0] 54
  have t0 := blk_cell hst 0
  have t1 := blk_cell hst 1
  have t2 := blk_cell hst 2
  have t3 := blk_cell hst 3
  have HB5 := hid (Ba w (.cells #[.int .i64 14, .int .i64 0, .string ⟨#[]⟩, .slice none 0 0] 54))
  clear hst hd
  go_enter Tryz.func74, Tryz.ntmps74
  go_wp2_with fail
  (try simp only [Exit.inBlock, Exit.then]); refine bodyPost_ret (by simp [results, Tryz.results74, go_sem, t0, t1, t2, t3]; rfl) rfl ?_
  exact OPost.bare HB5.out
 by_cases k19 : kd = 19
 ·subst k19
  have hd : objD os nm 19 fl = ⟨17, 0, ⟨#[]⟩, []⟩ := rfl
  rw [hd]
  have hst := blk_new w #[.int .i64 17, .int .i64 0, .string ⟨#[]⟩, .slice none 0 0] 54
  have t0 := blk_cell hst 0
  have t1 := blk_cell hst 1
  have t2 := blk_cell hst 2
  have t3 := blk_cell hst 3
  have HB5 := hid (Ba w (.cells #[.int .i64 17, .int .i64 0, .string ⟨#[]⟩, .slice none 0 0] 54))
  clear hst hd
  go_enter Tryz.func74, Tryz.ntmps74
  go_wp2_with fail
  (try simp only [Exit.inBlock, Exit.then]); refine bodyPost_ret (by simp [results, Tryz.results74, go_sem, t0, t1, t2, t3]; rfl) rfl ?_
  exact OPost.bare HB5.out
 by_cases k6 : kd = 6
 ·subst k6
  have hd : objD os nm 6 fl = ⟨12, 0, ⟨#[]⟩, []⟩ := rfl
  rw [hd]
  have hst := blk_new w #[.int .i64 12, .int .i64 0, .string ⟨#[]⟩, .slice none 0 0] 54
  have t0 := blk_cell hst 0
  have t1 := blk_cell hst 1
  have t2 := blk_cell hst 2
  have t3 := blk_cell hst 3
  have HB5 := hid (Ba w (.cells #[.int .i64 12, .int .i64 0, .string ⟨#[]⟩, .slice none 0 0] 54))
  clear hst hd
  go_enter Tryz.func74, Tryz.ntmps74
  go_wp2_with fail
  (try simp only [Exit.inBlock, Exit.then]); refine bodyPost_ret (by simp [results, Tryz.results74, go_sem, t0, t1, t2, t3]; rfl) rfl ?_
  exact OPost.bare HB5.out
 by_cases k17 : kd = 17
 ·subst k17
  have hd : objD os nm 17 fl = ⟨12, 0, ⟨#[]⟩, []⟩ := rfl
  rw [hd]
  have hst := blk_new w #[.int .i64 12, .int .i64 0, .string ⟨#[]⟩, .slice none 0 0] 54
  have t0 := blk_cell hst 0
  have t1 := blk_cell hst 1
  have t2 := blk_cell hst 2
  have t3 := blk_cell hst 3
  have HB5 := hid (Ba w (.cells #[.int .i64 12, .int .i64 0, .string ⟨#[]⟩, .slice none 0 0] 54))
  clear hst hd
  go_enter Tryz.func74, Tryz.ntmps74
  go_wp2_with fail
  (try simp only [Exit.inBlock, Exit.then]); refine bodyPost_ret (by simp [results, Tryz.results74, go_sem, t0, t1, t2, t3]; rfl) rfl ?_
  exact OPost.bare HB5.out
 by_cases k16 : kd = 16
 ·subst k16
  have hd : objD os nm 16 fl = ⟨12, 0, ⟨#[]⟩, []⟩ := rfl
  rw [hd]
  have hst := blk_new w #[.int .i64 12, .int .i64 0, .string ⟨#[]⟩, .slice none 0 0] 54
  have t0 := blk_cell hst 0
  have t1 := blk_cell hst 1
  have t2 := blk_cell hst 2
  have t3 := blk_cell hst 3
  have HB5 := hid (Ba w (.cells #[.int .i64 12, .int .i64 0, .string ⟨#[]⟩, .slice none 0 0] 54))
  clear hst hd
  go_enter Tryz.func74, Tryz.ntmps74
  go_wp2_with fail
  (try simp only [Exit.inBlock, Exit.then]); refine bodyPost_ret (by simp [results, Tryz.results74, go_sem, t0, t1, t2, t3]; rfl) rfl ?_
  exact OPost.bare HB5.out
 by_cases k15 : kd = 15
 ·subst k15
  have hd : objD os nm 15 fl = ⟨12, 0, ⟨#[]⟩, []⟩ := rfl
  rw [hd]
  have hst := blk_new w #[.int .i64 12, .int .i64 0, .string ⟨#[]⟩, .slice none 0 0] 54
  have t0 := blk_cell hst 0
  have t1 := blk_cell hst 1
  have t2 := blk_cell hst 2
  have t3 := blk_cell hst 3
  have HB5 := hid (Ba w (.cells #[.int .i64 12, .int .i64 0, .string ⟨#[]⟩, .slice none 0 0] 54))
  clear hst hd
  go_enter Tryz.func74, Tryz.ntmps74
  go_wp2_with fail
  (try simp only [Exit.inBlock, Exit.then]); refine bodyPost_ret (by simp [results, Tryz.results74, go_sem, t0, t1, t2, t3]; rfl) rfl ?_
  exact OPost.bare HB5.out
 have hd : objD os nm kd fl = voidN := by
  rw [objD_o k1 k2 k3 k4 k5 k12 k14, if_neg k11, if_neg k19, if_neg k18, if_neg k13, if_neg k22, if_neg (by omega)]
 rw [hd]
 have e1 : (kd == 1) = false := by simpa using k1
 have e2 : (kd == 2) = false := by simpa using k2
 have e3 : (kd == 3) = false := by simpa using k3
 have e4 : (kd == 4) = false := by simpa using k4
 have e5 : (kd == 5) = false := by simpa using k5
 have e12 : (kd == 12) = false := by simpa using k12
 have e18 : (kd == 18) = false := by simpa using k18
 have e14 : (kd == 14) = false := by simpa using k14
 have e13 : (kd == 13) = false := by simpa using k13
 have e22 : (kd == 22) = false := by simpa using k22
 have e11 : (kd == 11) = false := by simpa using k11
 have e19 : (kd == 19) = false := by simpa using k19
 have e6 : (kd == 6) = false := by simpa using k6
 have e17 : (kd == 17) = false := by simpa using k17
 have e16 : (kd == 16) = false := by simpa using k16
 have e15 : (kd == 15) = false := by simpa using k15
 clear hd k1 k2 k3 k4 k5 k12 k18 k14 k13 k22 k11 k19 k6 k17 k16 k15
 go_enter Tryz.func74, Tryz.ntmps74
 go_wp2_with (go_at_call 127; (with_reducible refine (CVd.out _).mono ?_); rintro e W5 ⟨rfl, b5⟩; rw [<- hW0] at b5; obtain ⟨hz2, q1, q2, q3, q4⟩ := fin.out 11 0 W5 ⟨#[]⟩ b5; obtain ⟨c0, c1, c2, c3, f0, f1, f2, f3⟩ := hz2.c; have t0 := blk_cell q1 0; have t1 := blk_cell q1 1; have t2 := blk_cell q1 2; have t3 := blk_cell q1 3; have HQ2 := hid q2; have HQ3 := hid q3; have HQ4 := hid q4; clear hz2 q1 q2 q3 q4; clear b5)
 (try simp only [Exit.inBlock, Exit.then]); refine bodyPost_ret (by simp [results, Tryz.results74, go_sem, t0, t1, t2, t3]; rfl) rfl ?_
 exact OPost.bare HQ2.out
end
section
variable {B : Nat} {v vn : Value} {N : Int} {os : List Ob} {nm : List ByteArray} {F : Nat -> Prop} {gs : Nat}
set_option maxHeartbeats 8000000 in
theorem node_is (x : Int) (hx : U64 x) (w : World) (h : PN B v vn N os nm F w) (hs : SB gs v vn w) (hnm : nm.length <= 1000000) (hns : ∀ s ∈ nm, s.size <= 1000000) (hT : TabsS w) :
  Calls Tryz.prog 39 #[.pointer (some ⟨gs, 0, none⟩), .int .u64 x] w (OPost (wordD os nm x) w) := by
 have hz := NZ.new w
 have b0 := Ba w (.cells #[.int .i64 0, .int .i64 0, .string ⟨#[]⟩, .slice none 0 0] 54)
 obtain ⟨W0, hW0⟩ : ∃ W, W = w.alloc (.cells #[.int .i64 0, .int .i64 0, .string ⟨#[]⟩, .slice none 0 0] 54) := ⟨_, rfl⟩
 rw [<- hW0] at hz b0
 have HZ := hid hz
 have HB := hid b0
 have s0 := (hs.on b0).1
 have CK := hid ((h.on b0).kind x hx)
 have hs0 : Hid (W0.heap.size = w.heap.size + 1) := by unfold Hid; rw [hW0, size_alloc]
 have fin : Hid (∀ (k m : Int) (W : World) (t0 : ByteArray), Below W0.heap.size W0 W -> NZ w.heap.size W /\ ((((W.setCell ⟨w.heap.size, 0, none⟩ (.int .i64 k)).setCell ⟨w.heap.size, 1, none⟩ (.int .i64 m)).setCell ⟨w.heap.size, 2, none⟩ (.string t0)).setCell ⟨w.heap.size, 3, none⟩ (.slice none 0 0)).heap[w.heap.size]? = some (.cells #[.int .i64 k, .int .i64 m, .string t0, .slice none 0 0] 54 (0, 0)) /\ Below w.heap.size w ((((W.setCell ⟨w.heap.size, 0, none⟩ (.int .i64 k)).setCell ⟨w.heap.size, 1, none⟩ (.int .i64 m)).setCell ⟨w.heap.size, 2, none⟩ (.string t0)).setCell ⟨w.heap.size, 3, none⟩ (.slice none 0 0)) /\ (∀ b, b ≠ w.heap.size -> ((((W.setCell ⟨w.heap.size, 0, none⟩ (.int .i64 k)).setCell ⟨w.heap.size, 1, none⟩ (.int .i64 m)).setCell ⟨w.heap.size, 2, none⟩ (.string t0)).setCell ⟨w.heap.size, 3, none⟩ (.slice none 0 0)).heap[b]? = W.heap[b]?) /\ ((((W.setCell ⟨w.heap.size, 0, none⟩ (.int .i64 k)).setCell ⟨w.heap.size, 1, none⟩ (.int .i64 m)).setCell ⟨w.heap.size, 2, none⟩ (.string t0)).setCell ⟨w.heap.size, 3, none⟩ (.slice none 0 0)).heap.size = W.heap.size) := fun k m W t0 hb =>
  ⟨HZ.out.on hb, store4 (HZ.out.on hb), store4_below (Bt HB.out hb) (Nat.le_refl _), fun b hne => store4_far hne, by simp [World.setCell]⟩
 have CO : Hid (∀ (k : Nat) W, findM os x = some k -> Below w.heap.size w W -> Calls Tryz.prog 74 #[.pointer (some ⟨gs, 0, none⟩), .int .u64 x, .int .i64 (os.getD k default).kind] W (OPost (objD os nm (os.getD k default).kind (os.getD k default).f) W)) := fun k W hf hb => object_is x hx W (h.on hb) (hs.on hb) hnm hns (hT.below hb) hf
 have CPL : Hid (∀ W, Below w.heap.size w W -> Calls Tryz.prog 75 #[.pointer (some ⟨gs, 0, none⟩), .int .u64 x] W fun e w' => e = .returned (bareV (plainD nm x)) /\ Below W.heap.size W w') := fun W hb => plain_is x hx W (h.on hb) (hs.on hb) hnm hns (hT.below hb)
 obtain ⟨gh, gp, rfl, rfl⟩ := h.ptrs
 unfold kindM at CK
 rw [hW0] at s0 CK
 clear h hs hz b0 hT hns hnm
 cases hf : findM os x with
 | none =>
  have hd : wordD os nm x = plainD nm x := by unfold wordD; rw [hf]
  have hkid : (plainD nm x).kids = [] := by
   unfold plainD
   repeat' split
   all_goals rfl
  rw [hf] at CK
  simp only at CK
  rw [hd]
  obtain ⟨d, hdd⟩ : ∃ d, d = plainD nm x := ⟨_, rfl⟩
  rw [<- hdd] at CPL hkid ⊢
  obtain ⟨dk, dn, dt, dl⟩ := d
  simp only at hkid
  subst hkid
  unfold bareV at CPL
  simp only at CPL
  clear hf hd hdd
  go_enter Tryz.func39, Tryz.ntmps39
  go_wp2_with (first
   | (go_at_call 73; (with_reducible refine CK.out.mono ?_); rintro e W1 ⟨rfl, b1⟩; rw [<- hW0] at b1; have HB1 := hid b1; have C2 := hid (CPL.out W1 (Bt HB.out b1)); clear b1)
   | (go_at_call 75; (with_reducible refine C2.out.mono ?_); rintro e W3 ⟨rfl, b3⟩; have hf3 := HB1.out.trans (b3.mono HB1.out.size); obtain ⟨hz2, q1, q2, q3, q4⟩ := fin.out dk dn W3 dt hf3; obtain ⟨c0, c1, c2, c3, f0, f1, f2, f3⟩ := hz2.c; have t0 := blk_cell q1 0; have t1 := blk_cell q1 1; have t2 := blk_cell q1 2; have t3 := blk_cell q1 3; have HQ2 := hid q2; clear hz2 q1 q2 q3 q4 b3 hf3))
  (try simp only [Exit.inBlock, Exit.then]); refine bodyPost_ret (by simp [results, Tryz.results39, go_sem, t0, t1, t2, t3]; rfl) rfl ?_
  exact OPost.bare HQ2.out
 | some k =>
  have hd : wordD os nm x = objD os nm (os.getD k default).kind (os.getD k default).f := by unfold wordD; rw [hf]
  have CO2 := hid (fun W => CO.out k W hf)
  rw [hf] at CK
  simp only at CK
  rw [<- hd] at CO2
  obtain ⟨kd, hkd⟩ : ∃ d, d = (os.getD k default).kind := ⟨_, rfl⟩
  rw [<- hkd] at CO2 CK
  obtain ⟨d, hdd⟩ : ∃ d, d = wordD os nm x := ⟨_, rfl⟩
  rw [<- hdd] at CO2 ⊢
  obtain ⟨dk, dn, dt, dl⟩ := d
  unfold OPost bareV at CO2
  simp only at CO2
  clear hf hd hdd hkd CO CPL
  go_enter Tryz.func39, Tryz.ntmps39
  go_wp2_with (first
   | (go_at_call 73; (with_reducible refine CK.out.mono ?_); rintro e W1 ⟨rfl, b1⟩; rw [<- hW0] at b1; have HB1 := hid b1; have C2 := hid (CO2.out W1 (Bt HB.out b1)); clear b1)
   | (go_at_call 74; (with_reducible refine C2.out.mono ?_); rintro e W3 ⟨ak, nk, ck, rfl, hu3, ha3, b3⟩; have HU3 := hid hu3; have HA3 := hid ha3; have hf3 := HB1.out.trans (b3.mono HB1.out.size); obtain ⟨hz2, q1, q2, q3, q4⟩ := fin.out dk dn W3 dt hf3; obtain ⟨c0, c1, c2, c3, f0, f1, f2, f3⟩ := hz2.c; have t0 := blk_cell q1 0; have t1 := blk_cell q1 1; have t2 := blk_cell q1 2; have t3 := blk_cell q1 3; have HQ2 := hid q2; have HQ3 := hid q3; have HQ4 := hid q4; clear hz2 q1 q2 q3 q4 b3 hf3 hu3 ha3))
  (try simp only [Exit.inBlock, Exit.then]); refine bodyPost_ret (by simp [results, Tryz.results39, go_sem, t0, t1, t2, t3]; rfl) rfl ?_
  have e1 := HB1.out.size
  have e2 := hs0.out
  exact ⟨ak, nk, ck, rfl, HU3.out.keep (by have := HQ4.out; omega) (fun _ a e => HQ3.out _ (by have := HA3.out a e; omega)), fun a e => by have := HA3.out a e; omega, HQ2.out⟩
end
end Go.Proofs.YticimejfjjmikaaGreatDoor
