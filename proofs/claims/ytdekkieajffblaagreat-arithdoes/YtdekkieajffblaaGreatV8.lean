/-
  Deeds that are handed in; few.
-/
import Derived.Test.YtdekkieajffblaaGreatST4
set_option linter.unusedVariables false
set_option linter.unusedSimpArgs false
set_option maxRecDepth 100000
namespace Go.Proofs.YtdekkieajffblaaGreat
open Go.RowKit

/-- All used words. -/
def wordsL : List Ob → List Int
  | [] => []
  | x :: l => wordR 8 (x.f.length : Nat) x.kind :: (x.f ++ wordsL l)
theorem wordsL_append (a b : List Ob) : wordsL (a ++ b) = wordsL a ++ wordsL b := by
  induction a with
  | nil => rfl
  | cons x l ih => simp only [List.cons_append, wordsL, ih, List.append_assoc]
theorem wordsL_length (a : List Ob) : (wordsL a).length = usedL a := by
  induction a with
  | nil => rfl
  | cons x l ih => simp only [wordsL, usedL, List.length_cons, List.length_append, ih]; omega
theorem wordsL_u64 {a : List Ob} (h : ∀ x ∈ a, ∀ z ∈ x.f, U64 z) : ∀ z ∈ wordsL a, U64 z := by
  induction a with
  | nil => intro z hz; cases hz
  | cons x l ih =>
    intro z hz
    simp only [wordsL, List.mem_cons, List.mem_append] at hz
    rcases hz with rfl | hz | hz
    · exact wordR_rng _ _ _
    · exact h x List.mem_cons_self z hz
    · exact ih (fun y hy => h y (List.mem_cons_of_mem _ hy)) z hz
theorem h3_on {w1 wx wy : World} {p q r s : Nat} {a0 a1 a2 : Value} (h : wx.cell? ⟨p, 1, none⟩ = some a0 ∧ wx.cell? ⟨q, r, none⟩ = some a1 ∧ wx.cell? ⟨q, s, none⟩ = some a2 ∧ Below w1.heap.size w1 wx) (hb : Below wx.heap.size wx wy) : wy.cell? ⟨p, 1, none⟩ = some a0 ∧ wy.cell? ⟨q, r, none⟩ = some a1 ∧ wy.cell? ⟨q, s, none⟩ = some a2 ∧ Below w1.heap.size w1 wy :=
  ⟨(hb.cell (p := ⟨p, 1, none⟩) (cell_lt h.1)).trans h.1, (hb.cell (p := ⟨q, r, none⟩) (cell_lt h.2.1)).trans h.2.1, (hb.cell (p := ⟨q, s, none⟩) (cell_lt h.2.2.1)).trans h.2.2.1, Bt h.2.2.2 hb⟩
theorem h3_bel {w1 wx : World} {p q r s : Nat} {a0 a1 a2 : Value} (h : wx.cell? ⟨p, 1, none⟩ = some a0 ∧ wx.cell? ⟨q, r, none⟩ = some a1 ∧ wx.cell? ⟨q, s, none⟩ = some a2 ∧ Below w1.heap.size w1 wx) : Below w1.heap.size w1 wx := h.2.2.2
set_option maxHeartbeats 16000000 in
theorem rwords_any {B g : Nat} {N : Int} {vL : Value} {ls : List (Ob × Sl)} (w : World) (h : RH B g N vL ls w) :
    Calls Tryz.prog 22 #[.pointer (some ⟨g, 0, none⟩)] w fun e w' => ∃ ao cap, e = .returned (.slice ao (usedL (ls.map Prod.fst)) cap) ∧ URow w' ao (usedL (ls.map Prod.fst)) cap (wordsL (ls.map Prod.fst)) ∧ (∀ a, ao = some a → w.heap.size ≤ a.block) ∧ Below w.heap.size w w' := by
  have H := hid h
  have hrm := h.room
  have hlen : ls.length ≤ 1099511627776 := by have := len_le_used (ls.map Prod.fst); rw [List.length_map] at this; omega
  clear h
  go_enter Tryz.func22, Tryz.ntmps22
  go_wp2_with fail
  go_loopw [3, 4] (fun v i wr => ∃ q : Nat, q ≤ ls.length ∧ i = .int .i64 q ∧ Hid (wr.ownsRow w.heap.size 35 1 v (atO (ls.map Prod.fst) q) (uz (wordsL ((ls.map Prod.fst).take q))) ∧ Below w.heap.size w wr)) (fun _ i _ => ls.length - (intOf i).toNat)
  case atStart => exact ⟨0, Nat.zero_le _, rfl, by simpa [uz, atO, usedL, wordsL] using World.ownsRow_nil _ _ _ _, Below.refl _ _⟩
  case round =>
    obtain ⟨q, hq, rfl, hI⟩ := hrel
    have HR := hid (H.out.on hI.out.2)
    have c1 : wr.cell? ⟨g, 1, none⟩ = some vL := blk_cell HR.out.box 1
    by_cases hlt : q < ls.length
    · obtain ⟨x, hx⟩ : ∃ x, x = ls.getD q default := ⟨_, rfl⟩
      obtain ⟨gl, cap, hv, hc1, hc2, j0, j1, j2⟩ := HR.out.obj hlt hx
      obtain rfl := hv
      have hmem : x ∈ ls := by rw [hx]; exact getD_in_ob hlt
      obtain ⟨hrow, hxn⟩ := HR.out.rows x hmem
      have hkd := HR.out.kd x hmem
      have huf := HR.out.uf x hmem
      have hxl : 1 + x.1.f.length ≤ usedL (ls.map Prod.fst) := used_mem (List.mem_map.2 ⟨x, hmem, rfl⟩)
      have htk : Hid ((ls.map Prod.fst).take (q + 1) = (ls.map Prod.fst).take q ++ [x.1]) := by
        unfold Hid
        rw [List.take_succ_eq_append_getElem (by rw [List.length_map]; omega)]
        congr 2
        rw [hx, getD_fst, List.getD_eq_getElem?_getD, List.getElem?_eq_getElem (by rw [List.length_map]; omega)]
        rfl
      have HF : Hid (∀ w5, RH B g N (.slice (some ⟨gl, 0, none⟩) ls.length cap) ls w5 → w5.cell? ⟨g, 1, none⟩ = some (.slice (some ⟨gl, 0, none⟩) ls.length cap) ∧ w5.cell? ⟨gl, q * 3 + 2, none⟩ = some (.slice x.2.1 x.2.2.1 x.2.2.2) ∧ URow w5 x.2.1 x.2.2.1 x.2.2.2 x.1.f) := fun w5 hR5 => by
        obtain ⟨gl', cap', hv', _, _, _, _, k2⟩ := hR5.obj hlt hx
        cases hv'
        obtain ⟨r1, r2⟩ := hR5.rows x hmem
        obtain ⟨a1, c1, hve, hU⟩ := urow_own r1 (hR5.uf x hmem)
        injection hve with e1 e2 e3
        refine ⟨blk_cell hR5.box 1, k2, ?_⟩
        rw [e1, e2, e3]; exact hU
      obtain ⟨⟨xk, xf⟩, xa, xn, xc⟩ := x
      simp only at j1 j2 hrow hxn hkd huf hxl htk HF
      subst hxn
      have hUF : ∃ ao cap, (Value.slice xa xf.length xc) = .slice ao xf.length cap ∧ URow wr ao xf.length cap xf := urow_own hrow huf
      obtain ⟨_, _, hve, hUR⟩ := hUF
      cases hve
      have HUR := hid hUR
      have HRW := hid hrow
      unfold maxLen at hc2
      have C1 := hid (rword_any 8 (xf.length : Nat) xk (by unfold Z64; omega) (by unfold Z64; omega) (by unfold Z64; omega))
      unfold SVal at C1
      have HS0 : Hid (wr.cell? ⟨g, 1, none⟩ = some (.slice (some ⟨gl, 0, none⟩) ls.length cap) ∧ wr.cell? ⟨gl, q * 3 + 1, none⟩ = some (.int .i64 xk) ∧ wr.cell? ⟨gl, q * 3 + 2, none⟩ = some (.slice xa xf.length xc) ∧ Below wr.heap.size wr wr) := ⟨c1, j1, j2, Below.refl _ _⟩
      obtain ⟨X, hX⟩ : ∃ X, X = wordR 8 (xf.length : Nat) xk := ⟨_, rfl⟩
      have hXu : U64 X := by rw [hX]; exact wordR_rng _ _ _
      obtain ⟨rb, hrb⟩ : ∃ r, r = rightB 8 (xf.length : Nat) xk := ⟨_, rfl⟩
      rw [← hX, ← hrb] at C1
      obtain ⟨A, hA⟩ : ∃ A, A = atO (ls.map Prod.fst) q := ⟨_, rfl⟩
      have hAU := used_take_le (ls.map Prod.fst) q
      rw [← hA] at hI hAU
      obtain ⟨WL, hWL⟩ : ∃ l, l = wordsL ((ls.map Prod.fst).take q) := ⟨_, rfl⟩
      rw [← hWL] at hI
      have hA2 : Hid (atO (ls.map Prod.fst) (q + 1) = A + 1 + xf.length) := by
        unfold Hid
        rw [hA]
        unfold atO
        rw [htk.out, usedL_append]
        simp [usedL]; omega
      have hW2 : Hid (wordsL ((ls.map Prod.fst).take (q + 1)) = WL ++ [X] ++ xf) := by
        unfold Hid
        rw [htk.out, wordsL_append, hWL, hX]
        simp [wordsL]
      obtain ⟨U, hU⟩ : ∃ u, u = usedL (ls.map Prod.fst) := ⟨_, rfl⟩
      rw [← hU] at hAU hxl hrm
      have hA3 : A + 1 + xf.length ≤ 1099511627776 := by
        have := used_take_le (ls.map Prod.fst) (q + 1)
        rw [hA2.out, ← hU] at this; omega
      clear hx j0 hUR hrow hmem htk hX hrb hA hWL hU
      have HIo := hid hI.out
      go_wp2_with fail
      clear c1 j1 j2
      go_region_held3 (fun wx => wx.cell? ⟨g, 1, none⟩ = some (.slice (some ⟨gl, 0, none⟩) ls.length cap) ∧ wx.cell? ⟨gl, q * 3 + 1, none⟩ = some (.int .i64 xk) ∧ wx.cell? ⟨gl, q * 3 + 2, none⟩ = some (.slice xa xf.length xc) ∧ Below wr.heap.size wr wx)
        (first | exact h3_on HS0.out (Bd wr 1) | exact h3_on (by assumption) (by assumption))
        (first | (go_at_call 48; with_reducible refine (C1.out _).mono ?_; rintro e wa ⟨rfl, ba⟩))
      rename_i hHeld
      obtain ⟨s0, s1, s2, s3⟩ := hHeld
      have HBA := hid s3
      have HO1 := hid (uown_on (uown_on HIo.out.1 s3) (Ba wa (.cells #[.int .u64 X] 35)))
      have HU1 := hid (urow_one (blk_new wa #[.int .u64 X] 35) hXu)
      have HB1 := hid (Bt s3 (Ba wa (.cells #[.int .u64 X] 35)))
      have HSz : Hid (w.heap.size ≤ (wa.alloc (.cells #[.int .u64 X] 35)).heap.size) := Nat.le_trans HIo.out.2.size HB1.out.size
      clear s0 s1 s2 s3 ba
      have hG : Hid (∀ w5, (wa.alloc (.cells #[.int .u64 X] 35)).grownBy w5 u3.ownBlock → (∀ k, u3.ownBlock = some k → w.heap.size ≤ k) → w5.cell? ⟨g, 1, none⟩ = some (.slice (some ⟨gl, 0, none⟩) ls.length cap) ∧ w5.cell? ⟨gl, q * 3 + 2, none⟩ = some (.slice xa xf.length xc) ∧ URow w5 xa xf.length xc xf) := fun w5 hg hrow => HF.out w5 (HR.out.keep (fun b hb => by
          have h1 := (H.out.foot_ge b hb).2
          have h2 := HIo.out.2.size
          have h3 := HB1.out.size
          exact (hg.block b (by omega) (fun e => by have := hrow b e.symm; omega)).trans (HB1.out.block b (by omega))))
      go_wp2_with (first
        | (at_builtin; refine appU rfl _ _ 33 rfl w.heap.size 35 Tryz.underlying33 info_word _ A WL rfl HO1.out (some ⟨wa.heap.size, 0, none⟩) 1 1 [X] rfl HU1.out (by omega) HSz.out ?_; intro v' w5 ho hg; obtain ⟨y0, y1, y2⟩ := hG.out w5 hg (fun k hk => (HO1.out.lt k hk).1); have HO5 := hid ho; have HU5 := hid y2; have HB5 := hid ((HIo.out.2.trans (HB1.out.mono HIo.out.2.size)).grown hg HSz.out (fun k hk => (HO1.out.lt k hk).1)); clear ho hg y2)
        | (at_builtin; refine appU rfl _ _ 33 rfl w.heap.size 35 Tryz.underlying33 info_word _ (A + 1) (WL ++ [X]) rfl HO5.out xa xf.length xc xf rfl HU5.out (by omega) HB5.out.size ?_; intro v2 w6 ho2 hg2))
      exact ⟨⟨q + 1, by omega, by go_num, by rw [hA2.out, hW2.out]; exact ho2, HB5.out.grown hg2 HB5.out.size (fun k hk => (HO5.out.lt k hk).1)⟩, by simp [intOf] <;> omega⟩
    · obtain rfl : q = ls.length := by omega
      have hrow := hI.out.1
      have hbel := hI.out.2
      have e1 : (ls.map Prod.fst).take ls.length = ls.map Prod.fst := List.take_of_length_le (by rw [List.length_map]; omega)
      have e2 : atO (ls.map Prod.fst) ls.length = usedL (ls.map Prod.fst) := by unfold atO; rw [e1]
      rw [e1, e2, ← wordsL_length] at hrow
      have huf : ∀ x ∈ ls.map Prod.fst, ∀ z ∈ x.f, U64 z := fun x hx => by obtain ⟨y, hy, rfl⟩ := List.mem_map.1 hx; exact H.out.uf y hy
      have hlt := fun k hk => (hrow.lt k hk).1
      obtain ⟨ao, cp, hv, hU⟩ := urow_own hrow (wordsL_u64 huf)
      obtain rfl := hv
      rw [wordsL_length] at hU hrow hlt
      have HU := hid hU
      have HLT := hid hlt
      have HBL := hid hbel
      rw [wordsL_length]
      clear hI hrow hbel hU hlt e1 e2 huf
      obtain ⟨gl, n1, cap, rfl⟩ : ∃ gl n1 cap, vL = .slice gl n1 cap := by rcases HR.out.own.2 with ⟨h, _⟩ | ⟨g, cap, cur, h, _⟩ <;> exact ⟨_, _, _, h⟩
      have hn1 : n1 = ls.length := by rcases HR.out.own.2 with ⟨h, h'⟩ | ⟨g, cap, cur, h, _⟩ <;> cases h <;> first | rfl | omega
      subst hn1
      go_wp2_with fail
      go_ret
      exact ⟨ao, cp, rfl, HU.out, fun a ha => HLT.out a.block (by rw [ha]; rfl), HBL.out⟩
end Go.Proofs.YtdekkieajffblaaGreat

set_option linter.unusedVariables false
set_option linter.unusedSimpArgs false
set_option maxRecDepth 100000
namespace Go.Proofs.YtdekkieajffblaaGreat
open Go.RowKit

/-- A deed. -/
structure Dd where
  kind : Int
  type : Int
  n : Int
  at_ : Int
  l : List Int
  w : Int
  w2 : Int
  raw : Bool
deriving Inhabited
structure DOk (d : Dd) : Prop where
  kind : Z64 d.kind
  type : Z64 d.type
  n : Z64 d.n
  at_ : Z64 d.at_
  w : U64 d.w
  w2 : U64 d.w2
def DCells (d : Dd) (s : Sl) : Array Value := #[.int .i64 d.kind, .int .i64 d.type, .int .i64 d.n, .int .i64 d.at_, .slice s.1 s.2.1 s.2.2, .int .u64 d.w, .int .u64 d.w2, .bool d.raw]
/-- The object that is meant, counted round. -/
def roundI (at_ : Int) (n : Nat) : Nat := (Int.tmod (Int.tmod at_ n + n) n).toNat
theorem round_at {n : Nat} (hn : 0 < n) (b : Int) : roundI b n < n ∧ Int.tmod (Int.tmod b n + n) n = (roundI b n : Int) := by
  have h1 : (Int.tmod b n).natAbs < n := by
    rw [Int.natAbs_tmod]; exact Nat.mod_lt _ (by omega)
  have h2 : 0 ≤ Int.tmod b n + n := by omega
  have h3 : Int.tmod (Int.tmod b n + n) n = (Int.tmod b n + n) % n := Int.tmod_eq_emod_of_nonneg h2
  have h4 := Int.emod_nonneg (Int.tmod b n + n) (by omega : (n : Int) ≠ 0)
  have h5 := Int.emod_lt_of_pos (Int.tmod b n + n) (by omega : (0 : Int) < n)
  unfold roundI
  constructor <;> omega
def targetM (os : List Ob) (d : Dd) : Int := if d.raw = true ∨ os.length = 0 then d.w2 else wordR 2 (atO os (roundI d.at_ os.length) : Nat) 0
theorem target_u64 {os : List Ob} {d : Dd} (hd : DOk d) : U64 (targetM os d) := by
  unfold targetM
  split
  · exact hd.w2
  · exact wordR_rng _ _ _
theorem h3b_on {w1 wx wy : World} {p q r s : Nat} {a0 a1 a2 : Value} (h : wx.cell? ⟨p, 1, none⟩ = some a0 ∧ wx.cell? ⟨q, 3, none⟩ = some a1 ∧ wx.cell? ⟨r, s, none⟩ = some a2 ∧ Below w1.heap.size w1 wx) (hb : Below wx.heap.size wx wy) : wy.cell? ⟨p, 1, none⟩ = some a0 ∧ wy.cell? ⟨q, 3, none⟩ = some a1 ∧ wy.cell? ⟨r, s, none⟩ = some a2 ∧ Below w1.heap.size w1 wy :=
  ⟨(hb.cell (p := ⟨p, 1, none⟩) (cell_lt h.1)).trans h.1, (hb.cell (p := ⟨q, 3, none⟩) (cell_lt h.2.1)).trans h.2.1, (hb.cell (p := ⟨r, s, none⟩) (cell_lt h.2.2.1)).trans h.2.2.1, Bt h.2.2.2 hb⟩
theorem h3b_bel {w1 wx : World} {p q r s : Nat} {a0 a1 a2 : Value} (h : wx.cell? ⟨p, 1, none⟩ = some a0 ∧ wx.cell? ⟨q, 3, none⟩ = some a1 ∧ wx.cell? ⟨r, s, none⟩ = some a2 ∧ Below w1.heap.size w1 wx) : Below w1.heap.size w1 wx := h.2.2.2
end Go.Proofs.YtdekkieajffblaaGreat

set_option linter.unusedVariables false
set_option linter.unusedSimpArgs false
set_option maxRecDepth 100000
namespace Go.Proofs.YtdekkieajffblaaGreat
open Go.RowKit

/-- A deed at a place of memory. -/
def DIs (w : World) (b o : Nat) (d : Dd) : Prop :=
  w.cell? ⟨b, o, none⟩ = some (.int .i64 d.kind) ∧ w.cell? ⟨b, o + 1, none⟩ = some (.int .i64 d.type) ∧ w.cell? ⟨b, o + 2, none⟩ = some (.int .i64 d.n) ∧ w.cell? ⟨b, o + 3, none⟩ = some (.int .i64 d.at_) ∧
  (∃ la ln lc, w.cell? ⟨b, o + 4, none⟩ = some (.slice la ln lc) ∧ URow w la ln lc d.l) ∧
  w.cell? ⟨b, o + 5, none⟩ = some (.int .u64 d.w) ∧ w.cell? ⟨b, o + 6, none⟩ = some (.int .u64 d.w2) ∧ w.cell? ⟨b, o + 7, none⟩ = some (.bool d.raw)
structure DRow (w : World) (ao : Option Addr) (n cap : Nat) (ds : List Dd) : Prop where
  len : ds.length = n
  fits : n ≤ cap
  most : cap ≤ maxLen
  ok : ∀ d ∈ ds, DOk d
  rd : ds = [] ∨ ∃ b o, ao = some ⟨b, o, none⟩ ∧ b < w.heap.size ∧ ∀ i, i < ds.length → DIs w b (o + i * 8) (ds.getD i default)
theorem DIs.on {w w' : World} {b o : Nat} {d : Dd} (h : DIs w b o d) (hb : b < w.heap.size) (hw : Below w.heap.size w w') : DIs w' b o d := by
  obtain ⟨h0, h1, h2, h3, ⟨la, ln, lc, h4, hU⟩, h5, h6, h7⟩ := h
  have k : ∀ i, w'.cell? ⟨b, i, none⟩ = w.cell? ⟨b, i, none⟩ := fun i => hw.cell (p := ⟨b, i, none⟩) hb
  exact ⟨(k _).trans h0, (k _).trans h1, (k _).trans h2, (k _).trans h3, ⟨la, ln, lc, (k _).trans h4, hU.on hw⟩, (k _).trans h5, (k _).trans h6, (k _).trans h7⟩
theorem DRow.on {w w' : World} {ao : Option Addr} {n cap : Nat} {ds : List Dd} (h : DRow w ao n cap ds) (hw : Below w.heap.size w w') : DRow w' ao n cap ds := by
  refine ⟨h.len, h.fits, h.most, h.ok, ?_⟩
  rcases h.rd with e | ⟨b, o, e, h1, h2⟩
  · exact .inl e
  · exact .inr ⟨b, o, e, Nat.lt_of_lt_of_le h1 hw.size, fun i hi => (h2 i hi).on h1 hw⟩
theorem DRow.some {w : World} {ao : Option Addr} {n cap : Nat} {ds : List Dd} (h : DRow w ao n cap ds) (hn : 0 < n) : ∃ b o, ao = Option.some ⟨b, o, none⟩ ∧ b < w.heap.size ∧ ∀ i, i < n → DIs w b (o + i * 8) (ds.getD i default) := by
  rcases h.rd with e | h2
  · have := h.len; simp [e] at this; omega
  · rw [h.len] at h2; exact h2
theorem getD_in_dd {l : List Dd} {i : Nat} (h : i < l.length) : l.getD i default ∈ l := by
  rw [List.getD_eq_getElem?_getD, List.getElem?_eq_getElem h]; exact List.getElem_mem h
/-- Is a deed small? -/
def smallD (d : Dd) : Bool := decide (d.l.length ≤ 100) && !(decide (d.kind = 1) && (decide (1000 < d.n) && decide (d.n ≤ 4194304)))
def fewD (ds : List Dd) : Bool := decide (ds.length ≤ 100) && ds.all smallD
theorem all_take {ds : List Dd} {q : Nat} (h : (ds.take q).all smallD = true) (hq : q < ds.length) (hz : smallD (ds.getD q default) = true) : (ds.take (q + 1)).all smallD = true := by
  rw [List.take_succ_eq_append_getElem hq, List.all_append, h]
  rw [List.getD_eq_getElem?_getD, List.getElem?_eq_getElem hq] at hz
  simp only [Option.getD_some] at hz
  simp [hz]
theorem all_not {ds : List Dd} {q : Nat} (hq : q < ds.length) (hz : smallD (ds.getD q default) = false) : ds.all smallD = false := by
  rw [List.getD_eq_getElem?_getD, List.getElem?_eq_getElem hq] at hz
  rw [← Bool.not_eq_true]
  intro h
  have := List.all_eq_true.1 h ds[q] (List.getElem_mem hq)
  simp only [Option.getD_some] at hz
  rw [hz] at this; cases this
end Go.Proofs.YtdekkieajffblaaGreat
