/-
  Rows of nodes that hang on no older block: where they lie is fixed.
-/
import Derived.Test.YtadfihnffboelaaGreatDoorSL9
set_option linter.unusedVariables false
set_option linter.unusedSimpArgs false
set_option maxRecDepth 100000
namespace Go.Proofs.YtadfihnffboelaaGreatDoor
open Go.RowKit

section
variable {B : Nat} {v vn : Value} {N : Int} {os : List Ob} {nm : List ByteArray} {F : Nat → Prop} {w W : World}
theorem pn_alloc_at (h : PN B v vn N os nm F w) (hb : Below w.heap.size w W) (hB : B ≤ w.heap.size) {kind P : Int} {fl : List Int} {os' : List Ob} (hk : Z64 kind) (hal : allocM os N kind fl = (P, 0)) (hao : allocO os N kind fl = os') (ho : OsOk os') {vr : Value} {b1 : Nat} (own : W.ownsRow b1 70 1 vr fl.length (uz fl)) (hb1 : w.heap.size ≤ b1) (hu : ∀ z ∈ fl, U64 z) (hl : fl.length ≤ 1000000) :
    Calls Tryz.prog 34 #[v, .int .i64 kind, vr] W fun e w' => e = .returned (.tuple #[.int .u64 P, .int .i64 0]) ∧ PNPost B v vn N F w os' nm w' := by
  obtain ⟨ao, cap, rfl, R⟩ := urow_own own hu
  have := pn_alloc (h.on hb) kind hk ao fl.length cap fl R (Nat.le_trans hB hb.size) (fun a e hf => by
    have h1 := (own.lt a.block (by rw [e]; rfl)).1
    have h2 := (h.ge _ hf).2
    omega) hl (by rw [hao]; exact ho)
  rw [hal, hao] at this
  refine this.mono ?_
  rintro e w' ⟨rfl, p⟩
  exact ⟨rfl, p.front hb⟩
theorem pn_fill_at (h : PN B v vn N os nm F w) (hb : Below w.heap.size w W) (hB : B ≤ w.heap.size) {kind P : Int} {n : Nat} {os' : List Ob} (hk : 1 ≤ kind ∧ kind ≤ 22) (hal : allocM os N kind (List.replicate n 2) = (P, 0)) (hao : allocO os N kind (List.replicate n 2) = os') (ho : OsOk os') (hn : n ≤ 1000000) :
    Calls Tryz.prog 52 #[v, .int .i64 kind, .int .i64 n, .int .u64 2] W fun e w' => e = .returned (.tuple #[.int .u64 P, .int .i64 0]) ∧ PNPost B v vn N F w os' nm w' := by
  have e1 : fillP os N kind (n : Nat) 2 = (P, 0) := by
    unfold fillP
    rw [if_neg (by omega), if_neg (by omega), Int.toNat_natCast]; exact hal
  have e2 : fillQ os N kind (n : Nat) 2 = os' := by
    unfold fillQ
    rw [e1, if_pos rfl, Int.toNat_natCast, ← hao]
    unfold allocO
    rw [hal, if_pos rfl]
  have := pn_fill (h.on hb) kind (n : Nat) 2 (by unfold Z64; omega) (by unfold Z64; omega) (by unfold U64; omega) (Nat.le_trans hB hb.size) (by rw [e2]; exact ho)
  rw [e1, e2] at this
  refine this.mono ?_
  rintro e w' ⟨rfl, p⟩
  exact ⟨rfl, p.front hb⟩
theorem plainN_o {d : Nd} (h : d.kind ≠ 6) : plainN nm d = nm := by unfold plainN; rw [if_neg h]
set_option maxHeartbeats 8000000 in
theorem lay_any (d : Nd) (ka : Option Addr) (kc : Nat) (w : World) (h : PN B v vn N os nm F w) (hd : LNd d) (hn2 : d.kind = 2 → d.num = 0 ∨ d.num = 1) (hn4 : d.kind = 4 → letB d.num = true) (hkk : d.kids.length ≤ kc) (hkc : kc ≤ 9223372036854775807) (hB : B ≤ w.heap.size) (hnm : nm.length ≤ 1000000)
    (P : Int) (os' : List Ob) (ho : OsOk os') (hz : 0 < sizeN d → allocM os N (fieldsK d) (nullF d) = (P, 0) ∧ allocO os N (fieldsK d) (nullF d) = os') (h0 : ¬ 0 < sizeN d → os' = os ∧ P = plainWd nm d) :
    Calls Tryz.prog 76 #[v, vn, NdVal d ka kc] w fun e w' => e = .returned (.int .u64 P) ∧ PNPost B v vn N F w os' (plainN nm d) w' := by
  have HB := hid (Ba w (.cells #[.int .i64 d.kind, .int .i64 d.num, .string d.text, .slice ka d.kids.length kc] 68))
  have hx := blk_new w #[.int .i64 d.kind, .int .i64 d.num, .string d.text, .slice ka d.kids.length kc] 68
  have HH := hid h
  have HO := hid ho
  have HZ := hid hz
  have H0 := hid h0
  have HP := hid hd.c.int_
  have HV := hid hd.tv
  have hge := hd.sz
  have hkd := hd.c.kind
  have htx := hd.c.text
  have hks := hd.c.kids
  have hnu := hd.c.num
  have HN2 := hid hn2
  have HN4 := hid hn4
  have hneg := size_neg hd.c
  have HBB := hid hB
  obtain ⟨gh, gp, rfl, rfl⟩ := h.ptrs
  unfold NdVal
  clear hd h ho hz h0 hn2 hn4 hB
  obtain ⟨dk, dn, dt, dl⟩ := d
  simp only at HB HZ H0 HP HV htx hkk hks hkd hx hneg hnu HN2 HN4 ⊢
  have c0 : (w.alloc (.cells #[.int .i64 dk, .int .i64 dn, .string dt, .slice ka dl.length kc] 68)).cell? ⟨w.heap.size, 0, none⟩ = some (.int .i64 dk) := blk_cell hx 0
  have c1 : (w.alloc (.cells #[.int .i64 dk, .int .i64 dn, .string dt, .slice ka dl.length kc] 68)).cell? ⟨w.heap.size, 1, none⟩ = some (.int .i64 dn) := blk_cell hx 1
  have c2 : (w.alloc (.cells #[.int .i64 dk, .int .i64 dn, .string dt, .slice ka dl.length kc] 68)).cell? ⟨w.heap.size, 2, none⟩ = some (.string dt) := blk_cell hx 2
  have c3 : (w.alloc (.cells #[.int .i64 dk, .int .i64 dn, .string dt, .slice ka dl.length kc] 68)).cell? ⟨w.heap.size, 3, none⟩ = some (.slice ka dl.length kc) := blk_cell hx 3
  obtain ⟨kn, hkn⟩ : ∃ n, n = dl.length := ⟨_, rfl⟩
  rw [← hkn] at HB c0 c1 c2 c3 hkk hks ⊢
  have HKN := hid hkn
  have same : Hid (∀ W, Below w.heap.size w W → PNPost B (.pointer (some ⟨gh, 0, none⟩)) (.pointer (some ⟨gp, 0, none⟩)) N F w os nm W) := fun W hb => PNPost.same HH.out hb
  clear hx hkn
  by_cases k1 : dk = 1
  · subst k1
    obtain ⟨rfl, rfl⟩ := H0.out (by unfold sizeN; rw [if_pos (by simp)]; omega)
    rw [plainN_o (by simp)]
    have e : plainWd nm ⟨1, dn, dt, dl⟩ = 2 := rfl
    rw [e]
    clear hneg hge e
    go_enter Tryz.func76, Tryz.ntmps76
    go_wp2_with fail
    go_ret
    exact ⟨rfl, same.out _ HB.out⟩
  by_cases k2 : dk = 2
  · subst k2
    obtain ⟨rfl, rfl⟩ := H0.out (by unfold sizeN; rw [if_pos (by simp)]; omega)
    rw [plainN_o (by simp)]
    have C : Hid (∀ (b : Bool) W, Calls Tryz.prog 118 #[.bool b] W fun e w' => e = .returned (.int .u64 (if b then 18 else 10)) ∧ w' = W) := fun b W => bool_any b W
    rcases HN2.out rfl with rfl | rfl
    · have e : plainWd nm ⟨2, 0, dt, dl⟩ = 10 := rfl
      rw [e]
      have C2 := hid (C.out false)
      clear hneg hge e
      go_enter Tryz.func76, Tryz.ntmps76
      go_wp2_with (go_at_call 118; (refine (C2.out _).mono ?_); rintro e W2 ⟨rfl, hw2⟩; rw [hw2]; clear hw2)
      go_ret
      exact ⟨rfl, same.out _ HB.out⟩
    · have e : plainWd nm ⟨2, 1, dt, dl⟩ = 18 := rfl
      rw [e]
      have C2 := hid (C.out true)
      clear hneg hge e
      go_enter Tryz.func76, Tryz.ntmps76
      go_wp2_with (go_at_call 118; (refine (C2.out _).mono ?_); rintro e W2 ⟨rfl, hw2⟩; rw [hw2]; clear hw2)
      go_ret
      exact ⟨rfl, same.out _ HB.out⟩
  by_cases k10 : dk = 10
  · subst k10
    obtain ⟨rfl, rfl⟩ := H0.out (by unfold sizeN; rw [if_pos (by simp)]; omega)
    rw [plainN_o (by simp)]
    have e : plainWd nm ⟨10, dn, dt, dl⟩ = 26 := rfl
    rw [e]
    clear hneg hge e
    go_enter Tryz.func76, Tryz.ntmps76
    go_wp2_with fail
    go_ret
    exact ⟨rfl, same.out _ HB.out⟩
  by_cases k11 : dk = 11
  · subst k11
    obtain ⟨rfl, rfl⟩ := H0.out (by unfold sizeN; rw [if_pos (by simp)]; omega)
    rw [plainN_o (by simp)]
    have e : plainWd nm ⟨11, dn, dt, dl⟩ = 34 := rfl
    rw [e]
    clear hneg hge e
    go_enter Tryz.func76, Tryz.ntmps76
    go_wp2_with fail
    go_ret
    exact ⟨rfl, same.out _ HB.out⟩
  by_cases k4 : dk = 4
  · subst k4
    obtain ⟨rfl, rfl⟩ := H0.out (by unfold sizeN; rw [if_pos (by simp)]; omega)
    rw [plainN_o (by simp)]
    have e : plainWd nm ⟨4, dn, dt, dl⟩ = wordR 4 dn 0 := rfl
    rw [e]
    have C : Hid (∀ W, Calls Tryz.prog 120 #[.int .i64 dn] W fun e w' => e = .returned (.tuple #[.int .u64 (wordR 4 dn 0), .bool (rightB 4 dn 0)]) ∧ w' = W) := fun W => char_any dn (by unfold Z64; omega) W
    obtain ⟨x, hx⟩ : ∃ x, x = wordR 4 dn 0 := ⟨_, rfl⟩
    obtain ⟨y, hy⟩ : ∃ x, x = rightB 4 dn 0 := ⟨_, rfl⟩
    rw [← hx] at C ⊢
    rw [← hy] at C
    clear hneg hge e hx hy
    go_enter Tryz.func76, Tryz.ntmps76
    go_wp2_with (go_at_call 120; (with_reducible refine (C.out _).mono ?_); rintro e W2 ⟨rfl, hw2⟩; rw [hw2]; clear hw2)
    go_ret
    exact ⟨rfl, same.out _ HB.out⟩
  by_cases k6 : dk = 6
  · subst k6
    obtain ⟨rfl, rfl⟩ := H0.out (by unfold sizeN; rw [if_pos (by simp)]; omega)
    have e : plainWd nm ⟨6, dn, dt, dl⟩ = wordR 5 ((idM nm dt : Nat) : Int) 0 := rfl
    have e' : plainN nm ⟨6, dn, dt, dl⟩ = idL nm dt := rfl
    rw [e, e']
    have C := hid (pname_word (HH.out.on HB.out) dt (Nat.le_trans HBB.out HB.out.size) hnm (by omega))
    obtain ⟨x, hx⟩ : ∃ x, x = wordR 5 ((idM nm dt : Nat) : Int) 0 := ⟨_, rfl⟩
    rw [← hx] at C ⊢
    clear hneg hge e e' hx
    go_enter Tryz.func76, Tryz.ntmps76
    go_wp2_with (go_at_call 121; (with_reducible refine C.out.mono ?_); rintro e W2 ⟨rfl, p2⟩; have HP2 := hid (p2.front HB.out); clear p2)
    go_ret
    exact ⟨rfl, HP2.out⟩
  by_cases k3 : dk = 3
  · subst k3
    rw [plainN_o (by simp)]
    have he : intW os N dt = P ∧ intO os N dt = os' := by
      unfold intW intO
      by_cases hf : fixB (txZ dt) = true
      · rw [if_pos hf, if_pos hf]
        obtain ⟨e1, e2⟩ := H0.out (by unfold sizeN; rw [if_neg (by simp), if_pos rfl, if_pos hf]; omega)
        exact ⟨e2.symm, e1.symm⟩
      · rw [if_neg hf, if_neg hf]
        have := HZ.out (by unfold sizeN; rw [if_neg (by simp), if_pos rfl, if_neg hf]; omega)
        have e3 : nullF ⟨3, dn, dt, dl⟩ = bigL (decide (txZ dt < 0)) (mg (txZ dt).natAbs) := rfl
        have e4 : fieldsK ⟨3, dn, dt, dl⟩ = 5 := rfl
        rw [e3, e4] at this
        exact ⟨by rw [this.1], this.2⟩
    have C := hid (play_int (HH.out.on HB.out) dt (by omega) (HP.out rfl) (Nat.le_trans HBB.out HB.out.size) (by rw [he.2]; exact HO.out))
    rw [he.1, he.2] at C
    clear hneg hge he
    go_enter Tryz.func76, Tryz.ntmps76
    go_wp2_with (go_at_call 119; (with_reducible refine C.out.mono ?_); rintro e W2 ⟨rfl, p2⟩; have HP2 := hid (p2.front HB.out); clear p2)
    go_ret
    exact ⟨rfl, HP2.out⟩
  by_cases k5 : dk = 5
  · subst k5
    rw [plainN_o (by simp)]
    obtain ⟨e1, e2⟩ := HZ.out (by unfold sizeN; rw [if_neg (by simp), if_neg (by simp), if_pos rfl]; omega)
    have e3 : nullF ⟨5, dn, dt, dl⟩ = (ltrs dt).map ltW := rfl
    have e4 : fieldsK ⟨5, dn, dt, dl⟩ = 3 := rfl
    rw [e3, e4] at e1 e2
    have hll := ltrs_len dt
    have hlm : ((ltrs dt).map ltW).length = (ltrs dt).length := List.length_map _
    have C1 := hid (pletters_any dt (by omega) (HV.out rfl) (w.alloc (.cells #[.int .i64 5, .int .i64 dn, .string dt, .slice ka kn kc] 68)))
    have CA : Hid (∀ (vr : Value) (W : World), Below (w.alloc (.cells #[.int .i64 5, .int .i64 dn, .string dt, .slice ka kn kc] 68)).heap.size (w.alloc (.cells #[.int .i64 5, .int .i64 dn, .string dt, .slice ka kn kc] 68)) W → W.ownsRow (w.alloc (.cells #[.int .i64 5, .int .i64 dn, .string dt, .slice ka kn kc] 68)).heap.size 70 1 vr (ltrs dt).length (uz ((ltrs dt).map ltW)) → Calls Tryz.prog 34 #[.pointer (some ⟨gh, 0, none⟩), .int .i64 3, vr] W fun e w' => e = .returned (.tuple #[.int .u64 P, .int .i64 0]) ∧ PNPost B (.pointer (some ⟨gh, 0, none⟩)) (.pointer (some ⟨gp, 0, none⟩)) N F w os' nm w') := fun vr W hb own =>
      pn_alloc_at HH.out (Bt HB.out hb) HBB.out (by unfold Z64; omega) e1 e2 HO.out (by rw [hlm]; exact own) HB.out.size (fun z hz => by obtain ⟨c, _, rfl⟩ := List.mem_map.1 hz; exact wordR_rng _ _ _) (by rw [hlm]; omega)
    clear hneg hge e1 e2 e3 e4 hlm hll
    go_enter Tryz.func76, Tryz.ntmps76
    go_wp2_with (first
      | (go_at_call 122; (with_reducible refine C1.out.mono ?_); rintro e W1 ⟨vr, rfl, ho1, b1⟩; have C2 := hid (CA.out vr W1 b1 ho1); clear ho1 b1)
      | (go_at_call 34; (with_reducible refine C2.out.mono ?_); rintro e W2 ⟨rfl, p2⟩; have HP2 := hid p2; clear p2))
    go_ret
    exact ⟨rfl, HP2.out⟩
  by_cases k9 : dk = 9
  · subst k9
    rw [plainN_o (by simp)]
    obtain ⟨e1, e2⟩ := HZ.out (by unfold sizeN; rw [if_neg (by simp), if_neg (by simp), if_neg (by simp), if_neg (by simp), if_pos rfl]; omega)
    have e3 : nullF ⟨9, dn, dt, dl⟩ = bytesL dt dt.size := rfl
    have e4 : fieldsK ⟨9, dn, dt, dl⟩ = 4 := rfl
    rw [e3, e4] at e1 e2
    have hlm : (bytesL dt dt.size).length = dt.size := bytesL_len _ _
    have C1 := hid (pbytes_any dt (by omega) (w.alloc (.cells #[.int .i64 9, .int .i64 dn, .string dt, .slice ka kn kc] 68)))
    have CA : Hid (∀ (vr : Value) (W : World), Below (w.alloc (.cells #[.int .i64 9, .int .i64 dn, .string dt, .slice ka kn kc] 68)).heap.size (w.alloc (.cells #[.int .i64 9, .int .i64 dn, .string dt, .slice ka kn kc] 68)) W → W.ownsRow (w.alloc (.cells #[.int .i64 9, .int .i64 dn, .string dt, .slice ka kn kc] 68)).heap.size 70 1 vr dt.size (uz (bytesL dt dt.size)) → Calls Tryz.prog 34 #[.pointer (some ⟨gh, 0, none⟩), .int .i64 4, vr] W fun e w' => e = .returned (.tuple #[.int .u64 P, .int .i64 0]) ∧ PNPost B (.pointer (some ⟨gh, 0, none⟩)) (.pointer (some ⟨gp, 0, none⟩)) N F w os' nm w') := fun vr W hb own =>
      pn_alloc_at HH.out (Bt HB.out hb) HBB.out (by unfold Z64; omega) e1 e2 HO.out (by rw [hlm]; exact own) HB.out.size (fun z hz => by unfold bytesL at hz; obtain ⟨c, _, rfl⟩ := List.mem_map.1 hz; exact wordR_rng _ _ _) (by rw [hlm]; omega)
    clear hneg hge e1 e2 e3 e4 hlm
    go_enter Tryz.func76, Tryz.ntmps76
    go_wp2_with (first
      | (go_at_call 123; (with_reducible refine C1.out.mono ?_); rintro e W1 ⟨vr, rfl, ho1, b1⟩; have C2 := hid (CA.out vr W1 b1 ho1); clear ho1 b1)
      | (go_at_call 34; (with_reducible refine C2.out.mono ?_); rintro e W2 ⟨rfl, p2⟩; have HP2 := hid p2; clear p2))
    go_ret
    exact ⟨rfl, HP2.out⟩
  by_cases k7 : dk = 7
  · subst k7
    rw [plainN_o (by simp)]
    obtain ⟨e1, e2⟩ := HZ.out (size_kids (.inl rfl))
    have e3 : nullF ⟨7, dn, dt, dl⟩ = List.replicate kn 2 := by rw [HKN.out]; rfl
    have e4 : fieldsK ⟨7, dn, dt, dl⟩ = 1 := rfl
    rw [e3, e4] at e1 e2
    have C := hid (pn_fill_at HH.out HB.out HBB.out (kind := 1) (by omega) e1 e2 HO.out (by omega))
    clear hneg hge e1 e2 e3 e4
    go_enter Tryz.func76, Tryz.ntmps76
    go_wp2_with (go_at_call 52; (with_reducible refine C.out.mono ?_); rintro e W2 ⟨rfl, p2⟩; have HP2 := hid p2; clear p2)
    go_ret
    exact ⟨rfl, HP2.out⟩
  by_cases k8 : dk = 8
  · subst k8
    rw [plainN_o (by simp)]
    obtain ⟨e1, e2⟩ := HZ.out (size_kids (.inr rfl))
    have e3 : nullF ⟨8, dn, dt, dl⟩ = List.replicate kn 2 := by rw [HKN.out]; rfl
    have e4 : fieldsK ⟨8, dn, dt, dl⟩ = 2 := rfl
    rw [e3, e4] at e1 e2
    have C := hid (pn_fill_at HH.out HB.out HBB.out (kind := 2) (by omega) e1 e2 HO.out (by omega))
    clear hneg hge e1 e2 e3 e4
    go_enter Tryz.func76, Tryz.ntmps76
    go_wp2_with (go_at_call 52; (with_reducible refine C.out.mono ?_); rintro e W2 ⟨rfl, p2⟩; have HP2 := hid p2; clear p2)
    go_ret
    exact ⟨rfl, HP2.out⟩
  exfalso
  have := mt hneg.2
  omega
end
end Go.Proofs.YtadfihnffboelaaGreatDoor

set_option linter.unusedVariables false
set_option linter.unusedSimpArgs false
set_option maxRecDepth 100000
namespace Go.Proofs.YtadfihnffboelaaGreatDoor
open Go.RowKit

/-- The heap and the names, and a row of words that is filled beside them. -/
structure LQ (B : Nat) (v vn : Value) (N : Int) (F : Nat → Prop) (W0 : World) (gw : Nat) (os : List Ob) (nm : List ByteArray) (ws : List Int) (wr : World) : Prop where
  pn : ∃ F', PN B v vn N os nm F' wr ∧ (∀ b, F' b → F b ∨ W0.heap.size ≤ b)
  mod : Mod (fun b => F b ∨ b = gw) W0 wr
  row : wr.heap[gw]? = some (.cells (uz ws).toArray 70 (0, 0))
  lt : gw < W0.heap.size
  off : ¬ F gw
section
variable {B : Nat} {v vn : Value} {N : Int} {F : Nat → Prop} {W0 : World} {gw : Nat} {os os' : List Ob} {nm nm' : List ByteArray} {ws : List Int} {wr w' : World}
theorem LQ.size (h : LQ B v vn N F W0 gw os nm ws wr) : W0.heap.size ≤ wr.heap.size := h.mod.size
theorem LQ.on (h : LQ B v vn N F W0 gw os nm ws wr) (hb : Below wr.heap.size wr w') : LQ B v vn N F W0 gw os nm ws w' := by
  obtain ⟨F', h1, h2⟩ := h.pn
  have hs := h.size
  have hl := h.lt
  exact ⟨⟨F', h1.on hb, h2⟩, h.mod.trans (Mod.of_below _ hb) (fun _ _ e => e), (hb.block gw (by omega)).trans h.row, h.lt, h.off⟩
theorem LQ.step (h : LQ B v vn N F W0 gw os nm ws wr) {F' : Nat → Prop} (hf : ∀ b, F' b → F b ∨ W0.heap.size ≤ b) (p : PNPost B v vn N F' wr os' nm' w') : LQ B v vn N F W0 gw os' nm' ws w' := by
  obtain ⟨F2, p1, p2, p3⟩ := p
  have hs := h.size
  have hl := h.lt
  refine ⟨⟨F2, p1, fun b e => ?_⟩, h.mod.trans p3 (fun b hb e => ?_), (p3.block gw (by omega) (fun e => ?_)).trans h.row, h.lt, h.off⟩
  · rcases p2 b e with e | e
    · exact hf b e
    · exact .inr (by omega)
  · rcases hf b e with e | e
    · exact .inl e
    · omega
  · rcases hf gw e with e | e
    · exact h.off e
    · omega
theorem LQ.put (h : LQ B v vn N F W0 gw os nm ws wr) (k : Nat) (z : Int) : LQ B v vn N F W0 gw os nm (ws.set k z) (wr.setCell ⟨gw, k, none⟩ (.int .u64 z)) := by
  obtain ⟨F', h1, h2⟩ := h.pn
  have hl := h.lt
  refine ⟨⟨F', h1.keep (fun b e => Below.heap_setCell _ _ _ _ (fun e2 => ?_)), h2⟩, h.mod.setCell (p := ⟨gw, k, none⟩) (.inl (.inr rfl)) _, ?_, h.lt, h.off⟩
  · have e3 : b = gw := e2
    subst e3
    rcases h2 b e with e | e
    · exact h.off e
    · omega
  · rw [blk_set h.row]
    simp [uz, List.map_set]
theorem LQ.cell (h : LQ B v vn N F W0 gw os nm ws wr) {k : Nat} (hk : k < ws.length) : wr.cell? ⟨gw, k, none⟩ = some (.int .u64 (ws.getD k 0)) := by
  rw [blk_cell h.row, List.getElem?_toArray, uz_get hk]
end
theorem plainN_pos {nm : List ByteArray} {d : Nd} (h : 0 < sizeN d) : plainN nm d = nm := by
  refine plainN_o (fun e => ?_)
  unfold sizeN at h
  rw [if_pos (by omega)] at h
  omega
theorem nulls_ok {os : List Ob} (h : OsOk os) (cs : List Nd) : OsOk (os ++ nullsOf cs) := by
  have hu : ∀ d : Nd, ∀ z ∈ nullF d, U64 z := fun d z hz => by
    unfold nullF at hz
    split at hz
    · obtain ⟨_, rfl⟩ := List.mem_replicate.1 hz; unfold U64; omega
    · exact fieldsL_u d (fun z h => by cases h) z hz
  refine ⟨fun x hx => ?_, fun x hx => ?_, fun x hx => ?_⟩ <;> rcases List.mem_append.1 hx with hx | hx
  · exact h.kd x hx
  · unfold nullsOf at hx
    obtain ⟨d, _, rfl⟩ := List.mem_map.1 hx
    have := fieldsK_rng d
    show 1 ≤ fieldsK d ∧ fieldsK d ≤ 22
    omega
  · exact h.uf x hx
  · unfold nullsOf at hx
    obtain ⟨d, _, rfl⟩ := List.mem_map.1 hx
    exact hu d
  · exact h.nh x hx
  · unfold nullsOf at hx
    obtain ⟨d, _, rfl⟩ := List.mem_map.1 hx
    exact nullF_nohd d
/-- What a node is laid as, in its turn. -/
theorem lay_turn {N : Int} {os : List Ob} {nm : List ByteArray} {cs : List Nd} (h : PutOk N os nm cs) {q : Nat} (hq : q < cs.length) (hz : 0 ≤ sizeN (cs.getD q default)) :
    ∃ P, putS nm (usedL os) (cs.take (q + 1)) = ⟨(putS nm (usedL os) (cs.take q)).ws ++ [P], plainN (putS nm (usedL os) (cs.take q)).nm (cs.getD q default), (putS nm (usedL os) (cs.take (q + 1))).at_⟩ ∧ U64 P ∧
      (0 < sizeN (cs.getD q default) → allocM (os ++ nullsOf (cs.take q)) N (fieldsK (cs.getD q default)) (nullF (cs.getD q default)) = (P, 0) ∧ allocO (os ++ nullsOf (cs.take q)) N (fieldsK (cs.getD q default)) (nullF (cs.getD q default)) = os ++ nullsOf (cs.take (q + 1))) ∧
      (¬ 0 < sizeN (cs.getD q default) → os ++ nullsOf (cs.take (q + 1)) = os ++ nullsOf (cs.take q) ∧ P = plainWd (putS nm (usedL os) (cs.take q)).nm (cs.getD q default)) := by
  by_cases hp : 0 < sizeN (cs.getD q default)
  · obtain ⟨e1, e2⟩ := null_alloc h hq hp
    refine ⟨_, ?_, wordR_rng _ _ _, fun _ => ⟨e1, e2⟩, fun hn => absurd hp hn⟩
    rw [plainN_pos hp, putS_take hq]
    unfold stepP
    rw [if_neg (by omega)]
  · refine ⟨_, ?_, plainWd_u _ _, fun hn => absurd hn hp, fun _ => ⟨by rw [null_skip hq hp], rfl⟩⟩
    rw [putS_take hq]
    unfold stepP
    rw [if_pos (by omega)]
end Go.Proofs.YtadfihnffboelaaGreatDoor

set_option linter.unusedVariables false
set_option linter.unusedSimpArgs false
set_option maxRecDepth 100000
namespace Go.Proofs.YtadfihnffboelaaGreatDoor
open Go.RowKit

/-- A world that has the blocks of w from b0 on. -/
def Agree (b0 : Nat) (w wx : World) : Prop := w.heap.size ≤ wx.heap.size ∧ ∀ b, b0 ≤ b → b < w.heap.size → wx.heap[b]? = w.heap[b]?
/-- The world in which block b is something else. -/
def junk (w : World) (b : Nat) : World := { w with heap := w.heap.setIfInBounds b (.map #[] 0) }
theorem junk_agree {w : World} {b b0 : Nat} (h : b < b0) : Agree b0 w (junk w b) := by
  refine ⟨by unfold junk; simp, fun k hk hl => ?_⟩
  unfold junk
  simp only
  rw [Array.getElem?_setIfInBounds_ne (by omega)]
theorem junk_cell {w : World} {b o : Nat} (h : b < w.heap.size) : (junk w b).cell? ⟨b, o, none⟩ = none := by
  have e : (junk w b).heap[b]? = some (.map #[] 0) := by
    unfold junk
    simp only
    rw [Array.getElem?_setIfInBounds_self_of_lt h]
  unfold World.cell?
  simp [e]
theorem agree_cell {w wx : World} {b0 b o : Nat} (h : Agree b0 w wx) (h1 : b0 ≤ b) (h2 : b < w.heap.size) : wx.cell? ⟨b, o, none⟩ = w.cell? ⟨b, o, none⟩ := World.cell?_of_block (a := ⟨b, o, none⟩) (h.2 b h1 h2)
theorem rows_fixed {w : World} {b0 : Nat} {an : Option Addr} {nn cn : Nat} {cs : List Nd} (K : ∀ wx : World, Agree b0 w wx → NRow wx an nn cn cs) {q : Nat} (hq : q < nn) :
    ∃ b o ak nk ck, an = some ⟨b, o, none⟩ ∧ ∀ wx : World, Agree b0 w wx → wx.cell? ⟨b, o + q * 4, none⟩ = some (.int .i64 (cs.getD q default).kind) ∧ wx.cell? ⟨b, o + q * 4 + 1, none⟩ = some (.int .i64 (cs.getD q default).num) ∧ wx.cell? ⟨b, o + q * 4 + 2, none⟩ = some (.string (cs.getD q default).text) ∧ wx.cell? ⟨b, o + q * 4 + 3, none⟩ = some (.slice ak nk ck) ∧ IRow wx ak nk ck (cs.getD q default).kids := by
  have hw := K w ⟨Nat.le_refl _, fun _ _ _ => rfl⟩
  obtain ⟨b, o, rfl, hlb, hc⟩ := hw.some (by omega)
  obtain ⟨k1, k2, k3, ak, nk, ck, k4, k5⟩ := hc q hq
  have hb : b0 ≤ b := by
    rcases Nat.lt_or_ge b b0 with h | h
    · exfalso
      obtain ⟨b', o', e', _, hc'⟩ := (K _ (junk_agree h)).some (by omega)
      cases e'
      obtain ⟨j1, _⟩ := hc' q hq
      rw [junk_cell hlb] at j1
      cases j1
    · exact h
  refine ⟨b, o, ak, nk, ck, rfl, fun wx hx => ?_⟩
  have c0 := agree_cell (o := o + q * 4) hx hb hlb
  have c1 := agree_cell (o := o + q * 4 + 1) hx hb hlb
  have c2 := agree_cell (o := o + q * 4 + 2) hx hb hlb
  have c3 := agree_cell (o := o + q * 4 + 3) hx hb hlb
  refine ⟨c0.trans k1, c1.trans k2, c2.trans k3, c3.trans k4, ?_⟩
  refine ⟨k5.len, k5.fits, k5.most, k5.nil_, k5.bd, ?_⟩
  rcases k5.rd with e | ⟨b2, o2, e2, hl2, hc2⟩
  · exact .inl e
  · by_cases hk : (cs.getD q default).kids = []
    · exact .inl hk
    right
    have hb2 : b0 ≤ b2 := by
      rcases Nat.lt_or_ge b2 b0 with h | h
      · exfalso
        obtain ⟨b', o', e', _, hc'⟩ := (K _ (junk_agree h)).some (by omega)
        cases e'
        obtain ⟨_, _, _, ak', nk', ck', j4, j5⟩ := hc' q hq
        have j4' := (agree_cell (o := o + q * 4 + 3) (junk_agree (w := w) h) hb hlb).symm.trans j4
        rw [k4] at j4'
        cases j4'
        rcases j5.rd with e3 | ⟨b3, o3, e3, _, hc3⟩
        · exact hk e3
        · rw [e2] at e3
          cases e3
          have := hc3 0 (List.length_pos_iff.2 hk)
          rw [junk_cell hl2] at this
          cases this
      · exact h
    exact ⟨b2, o2, e2, Nat.lt_of_lt_of_le hl2 hx.1, fun i hi => (agree_cell hx hb2 hl2).trans (hc2 i hi)⟩
end Go.Proofs.YtadfihnffboelaaGreatDoor
