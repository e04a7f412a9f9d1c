import Derived.Test.YticimejfjjmikaaGreatDoorSR
import Derived.Test.YticimejfjjmikaaGreatDoorSL10
import Derived.Deep.QuietTactic
import Derived.BigQuiet
import Derived.Test.YticimejfjjmikaaGreatDoorW20
import Derived.Test.YticimejfjjmikaaGreatDoorSP1
import Derived.Test.YticimejfjjmikaaGreatDoorST4
set_option linter.unusedVariables false
set_option linter.unusedSimpArgs false
set_option maxRecDepth 100000
namespace Go.Proofs.YticimejfjjmikaaGreatDoor
open Go.RowKit
section
variable {w w' : World} {ao : Option Addr} {n cap : Nat}
theorem SfAt.on {b o : Nat} {f : Sf} (h : SfAt w b o f) (hb : b < w.heap.size) (hw : Below w.heap.size w w') : SfAt w' b o f :=
 ⟨(hw.cell (p := ⟨b, o, none⟩) hb).trans h.1, (hw.cell (p := ⟨b, o + 1, none⟩) hb).trans h.2.1, (hw.cell (p := ⟨b, o + 2, none⟩) hb).trans h.2.2⟩
theorem SfRow.on {fs : List Sf} (h : SfRow w ao n cap fs) (hw : Below w.heap.size w w') : SfRow w' ao n cap fs := by
 refine ⟨h.len, h.fits, h.most, h.ok, ?_⟩
 rcases h.rd with e | ⟨b, o, e, h1, h2⟩
 ·exact .inl e
 ·exact .inr ⟨b, o, e, Nat.lt_of_lt_of_le h1 hw.size, fun i hi => (h2 i hi).on h1 hw⟩
theorem SfRow.some {fs : List Sf} (h : SfRow w ao n cap fs) (hn : 0 < n) : ∃ b o, ao = Option.some ⟨b, o, none⟩ /\ b < w.heap.size /\ ∀ i, i < n -> SfAt w b (o + i * 3) (fs.getD i default) := by
 rcases h.rd with e | h2
 ·have := h.len; simp [e] at this; omega
 ·rw [h.len] at h2; exact h2
theorem SoRow.some {xs : List So} (h : SoRow w ao n cap xs) (hn : 0 < n) : ∃ b o, ao = Option.some ⟨b, o, none⟩ /\ b < w.heap.size /\ ∀ i, i < n -> SoAt w b (o + i * 2) (xs.getD i default) := by
 rcases h.rd with e | h2
 ·have := h.len; simp [e] at this; omega
 ·rw [h.len] at h2; exact h2
end
theorem getD_in_so {l : List So} {i : Nat} (h : i < l.length) : l.getD i default ∈ l := by
 rw [List.getD_eq_getElem?_getD, List.getElem?_eq_getElem h]; exact List.getElem_mem h
theorem getD_in_sf {l : List Sf} {i : Nat} (h : i < l.length) : l.getD i default ∈ l := by
 rw [List.getD_eq_getElem?_getD, List.getElem?_eq_getElem h]; exact List.getElem_mem h
def fewS (xs : List So) : Bool := decide (xs.length <= 60) && xs.all (fun x => decide (x.l.length <= 30))
theorem few_parts_s {xs : List So} (h : fewS xs = true) : xs.length <= 60 /\ ∀ x ∈ xs, x.l.length <= 30 := by
 unfold fewS at h
 simp only [Bool.and_eq_true, decide_eq_true_eq] at h
 exact ⟨h.1, fun x hx => of_decide_eq_true (List.all_eq_true.1 h.2 x hx)⟩
set_option maxHeartbeats 8000000 in
theorem sfew_any (ao : Option Addr) (n cap : Nat) (xs : List So) (w : World) (R : SoRow w ao n cap xs) :
  Calls Tryz.prog 9 #[.slice ao n cap] w fun e w' => e = .returned (.bool (fewS xs)) /\ w' = w := by
 have HR := hid R
 have hn := R.len
 have hf := R.fits
 have hm := R.most
 unfold maxLen at hm
 clear R
 by_cases h1 : 60 < n
 ·have hfw : Hid (fewS xs = false) := by unfold Hid fewS; rw [decide_eq_false (by omega)]; rfl
  go_enter Tryz.func9, Tryz.ntmps9
  go_wp2_with fail
  go_ret
  rw [hfw.out]
  exact ⟨rfl, rfl⟩
 go_enter Tryz.func9, Tryz.ntmps9
 go_wp2_with fail
 go_loop [3] (fun i => ∃ q : Nat, q <= n /\ i = .int .i64 q /\ Hid (∀ k, k < q -> (xs.getD k default).l.length <= 30)) (fun i => n - (intOf i).toNat)
 case atStart => exact ⟨0, Nat.zero_le _, rfl, fun k hk => by omega⟩
 case round =>
  obtain ⟨q, hq, rfl, hI⟩ := hrel
  by_cases hlt : q < n
  ·obtain ⟨b, o, rfl, hlb, hcc⟩ := HR.out.some (by omega)
   obtain ⟨d0, fa, fn, fcc, d1, hF⟩ := hcc q hlt
   have hfl := hF.len
   have hff := hF.fits
   have hfm := hF.most
   unfold maxLen at hfm
   clear hcc hF d0
   by_cases h3 : 30 < fn
   ·have hfw : Hid (fewS xs = false) := by
     unfold Hid
     rw [<- Bool.not_eq_true]
     intro e
     have := (few_parts_s e).2 _ (getD_in_so (l := xs) (i := q) (by omega))
     omega
    clear hfl
    go_wp2_with fail
    go_ret
    rw [hfw.out]
    exact ⟨rfl, rfl⟩
   ·have HFL := hid hfl
    clear hfl
    go_wp2_with fail
    refine ⟨⟨q + 1, by omega, by go_num, fun k hk => ?_⟩, by simp [intOf] <;> omega⟩
    by_cases e : k = q
    ·subst e; rw [HFL.out]; omega
    ·exact hI.out k (by omega)
  ·obtain rfl : q = n := by omega
   have hfw : Hid (fewS xs = true) := by
    unfold Hid fewS
    rw [decide_eq_true (by omega)]
    simp only [Bool.and_self, Bool.true_and, List.all_eq_true, decide_eq_true_eq]
    intro x hx
    obtain ⟨k, hk, rfl⟩ := List.mem_iff_getElem.1 hx
    have := hI.out k (by omega)
    rw [List.getD_eq_getElem?_getD, List.getElem?_eq_getElem hk] at this
    exact this
   go_wp2_with fail
   go_ret
   rw [hfw.out]
   exact ⟨rfl, rfl⟩
structure Fd where
 is : Bool
 «to» : Int
 w : Int
deriving Inhabited
structure Oj where
 kind : Int
 l : List Fd
deriving Inhabited
def kindO (k : Int) : Int := Int.tmod (Int.tmod k 22 + 22) 22 + 1
theorem kindO_rng (k : Int) : 1 <= kindO k /\ kindO k <= 22 := by
 have := round_at (n := 22) (by omega) k
 unfold kindO
 have e : Int.tmod (Int.tmod k 22 + 22) 22 = (roundI k 22 : Int) := this.2
 rw [e]; omega
def blankO (x : Oj) : Ob := ⟨kindO x.kind, List.replicate x.l.length 2⟩
def blankL (xs : List Oj) : List Ob := xs.map blankO
def atsL (xs : List Oj) : List Int := (List.range xs.length).map (fun i => wordR 2 (atO (blankL xs) i : Nat) 0)
theorem atsL_len (xs : List Oj) : (atsL xs).length = xs.length := by unfold atsL; simp
theorem atsL_get {xs : List Oj} {i : Nat} (h : i < xs.length) : (atsL xs).getD i 0 = wordR 2 (atO (blankL xs) i : Nat) 0 := by
 unfold atsL; rw [List.getD_eq_getElem?_getD, List.getElem?_map, List.getElem?_range h]; rfl
theorem atsL_u64 {xs : List Oj} : ∀ z ∈ atsL xs, U64 z := fun z hz => by
 unfold atsL at hz; obtain ⟨i, _, rfl⟩ := List.mem_map.1 hz; exact wordR_rng _ _ _
theorem small_used {xs : List Oj} (hn : xs.length <= 60) (h : ∀ x ∈ xs, x.l.length <= 30) : usedL (blankL xs) <= 31 * xs.length := by
 unfold blankL
 clear hn
 induction xs with
 | nil => simp [usedL]
 | cons x l ih =>
  have h1 := h x List.mem_cons_self
  have h2 := ih (fun y hy => h y (List.mem_cons_of_mem _ hy))
  simp only [List.map_cons, usedL, blankO, List.length_replicate, List.length_cons]
  omega
theorem blank_ok (xs : List Oj) : OsOk (blankL xs) := by
 unfold blankL
 refine ⟨fun x hx => ?_, fun x hx z hz => ?_, fun x hx z hz => ?_⟩ <;> obtain ⟨y, _, rfl⟩ := List.mem_map.1 hx
 ·exact kindO_rng _
 ·rw [List.eq_of_mem_replicate hz]; unfold U64; omega
 ·rw [List.eq_of_mem_replicate hz]; decide
structure KZ (B B' : Nat) (v vn : Value) (N : Int) (g gn : Nat) (os : List Ob) (nm : List ByteArray) (os2 : List Ob) (nm2 : List ByteArray) (F : Nat -> Prop) (vL : Value) (ls : List (Ob × Sl)) (vN : Value) (X : Nat -> Prop) (w : World) : Prop where
 z : Pz B B' v vn N g gn os nm os2 nm2 F vL ls vN w
 kp : ∀ b, X b -> b < w.heap.size /\ ¬ F b /\ ¬ HNF g vL ls gn vN b
 bb : B <= B' /\ B' <= w.heap.size
section
variable {B B' : Nat} {v vn : Value} {N : Int} {g gn : Nat} {os os' os2 : List Ob} {nm nm' nm2 : List ByteArray} {F F' : Nat -> Prop} {vL : Value} {ls : List (Ob × Sl)} {vN : Value} {X Y : Nat -> Prop} {w w' : World}
theorem KZ.on (h : KZ B B' v vn N g gn os nm os2 nm2 F vL ls vN X w) (hb : Below w.heap.size w w') : KZ B B' v vn N g gn os nm os2 nm2 F vL ls vN X w' :=
 ⟨h.z.on hb, fun b e => ⟨Nat.lt_of_lt_of_le (h.kp b e).1 hb.size, (h.kp b e).2⟩, h.bb.1, Nat.le_trans h.bb.2 hb.size⟩
theorem KZ.other (h : KZ B B' v vn N g gn os nm os2 nm2 F vL ls vN X w) (hY : ∀ b, Y b -> b < w.heap.size /\ ¬ F b /\ ¬ HNF g vL ls gn vN b) : KZ B B' v vn N g gn os nm os2 nm2 F vL ls vN Y w := ⟨h.z, hY, h.bb⟩
theorem KZ.stepP (h : KZ B B' v vn N g gn os nm os2 nm2 F vL ls vN X w) (p : PNPost B v vn N F w os' nm' w') : ∃ F', KZ B B' v vn N g gn os' nm' os2 nm2 F' vL ls vN X w' /\ (∀ b, X b -> w'.heap[b]? = w.heap[b]?) /\ Below B w w' := by
 obtain ⟨F', p1, p2, p3⟩ := p
 refine ⟨F', ⟨h.z.putP p1 p2 p3, fun b e => ⟨Nat.lt_of_lt_of_le (h.kp b e).1 p3.size, fun e' => ?_, (h.kp b e).2.2⟩, h.bb.1, Nat.le_trans h.bb.2 p3.size⟩, fun b e => p3.block b (h.kp b e).1 (h.kp b e).2.1, p3.below (fun b e => (h.z.pn.ge b e).1) (Nat.le_trans h.bb.1 h.bb.2)⟩
 rcases p2 b e' with e2 | e2
 ·exact (h.kp b e).2.1 e2
 ·have := (h.kp b e).1; omega
theorem KZ.stepD {osn : List Ob} {nmn : List ByteArray} (h : KZ B B' v vn N g gn os nm os2 nm2 F vL ls vN X w) (p : HNPost B' g N (HNF g vL ls gn vN) gn w osn nmn w') : ∃ vL' ls' vN', KZ B B' v vn N g gn os nm osn nmn F vL' ls' vN' X w' /\ (∀ b, X b -> w'.heap[b]? = w.heap[b]?) /\ Below B w w' := by
 obtain ⟨vL', ls', vN', h1, h2, h3, h4⟩ := p
 refine ⟨vL', ls', vN', ⟨⟨h.z.pn.keep (fun b e => h4.block b (h.z.pn.ge b e).2 (h.z.apart b e)), h1, h2, fun b e1 e2 => ?_⟩, fun b e => ⟨Nat.lt_of_lt_of_le (h.kp b e).1 h4.size, (h.kp b e).2.1, fun e' => ?_⟩, h.bb.1, Nat.le_trans h.bb.2 h4.size⟩, fun b e => h4.block b (h.kp b e).1 (h.kp b e).2.2, h4.below (fun b e => Nat.le_trans h.bb.1 (h.z.hn.ge b e).1) (Nat.le_trans h.bb.1 h.bb.2)⟩
 ·rcases h3 b e2 with e | e
  ·exact h.z.apart b e1 e
  ·have := (h.z.pn.ge b e1).2; omega
 ·rcases h3 b e' with e2 | e2
  ·exact (h.kp b e).2.2 e2
  ·have := (h.kp b e).1; omega
theorem KZ.grown {row : Option Nat} (h : KZ B B' v vn N g gn os nm os2 nm2 F vL ls vN X w) (hg : w.grownBy w' row) (hX : ∀ k, row = some k -> X k) (hY : ∀ b, Y b -> (X b \/ w.heap.size <= b) /\ b < w'.heap.size) : KZ B B' v vn N g gn os nm os2 nm2 F vL ls vN Y w' := by
 have k1 : ∀ b, F b -> w'.heap[b]? = w.heap[b]? := fun b e => hg.block b (h.z.pn.ge b e).2 (fun e' => (h.kp b (hX b e'.symm)).2.1 e)
 have k2 : ∀ b, HNF g vL ls gn vN b -> w'.heap[b]? = w.heap[b]? := fun b e => hg.block b (h.z.hn.ge b e).2 (fun e' => (h.kp b (hX b e'.symm)).2.2 e)
 refine ⟨⟨h.z.pn.keep k1, h.z.hn.keep k2, h.z.os2_, h.z.apart⟩, fun b e => ⟨(hY b e).2, fun e' => ?_, fun e' => ?_⟩, h.bb.1, Nat.le_trans h.bb.2 hg.size⟩
 ·rcases (hY b e).1 with e1 | e1
  ·exact (h.kp b e1).2.1 e'
  ·have := (h.z.pn.ge b e').2; omega
 ·rcases (hY b e).1 with e1 | e1
  ·exact (h.kp b e1).2.2 e'
  ·have := (h.z.hn.ge b e').2; omega
theorem HN.heapPost (h : HN B' g N vL ls gn vN nm w) (p : RPost B' g N vL ls w os' w') : HNPost B' g N (HNF g vL ls gn vN) gn w os' nm w' := by
 obtain ⟨vL2, ls2, k1, k2, k3, k4⟩ := p
 refine ⟨vL2, ls2, vN, ⟨k1, h.names.keep (fun b e => k4.block b (h.names.ge b e).2 (fun e' => h.apart b e' e)), fun b e e' => ?_⟩, k2, fun b e => ?_, k4.mono (fun b _ e => .inl e)⟩
 ·rcases k3 b e with e2 | e2
  ·exact h.apart b e2 e'
  ·have := (h.names.ge b e').2; omega
 ·rcases e with e | e
  ·rcases k3 b e with e2 | e2
   ·exact .inl (.inl e2)
   ·exact .inr e2
  ·exact .inl (.inr e)
theorem HN.namePost (h : HN B' g N vL ls gn vN nm w) (p : NPost B' gn vN w nm' w') : HNPost B' g N (HNF g vL ls gn vN) gn w (ls.map Prod.fst) nm' w' := by
 obtain ⟨vN2, k1, k2, k3⟩ := p
 refine ⟨vL, ls, vN2, ⟨h.heap.mod k3 h.apart, k1, fun b e e' => ?_⟩, rfl, fun b e => ?_, k3.mono (fun b _ e => .inr e)⟩
 ·rcases k2 b e' with e2 | e2
  ·exact h.apart b e e2
  ·have := (h.heap.foot_ge b e).2; omega
 ·rcases e with e | e
  ·exact .inl (.inl e)
  ·rcases k2 b e with e2 | e2
   ·exact .inl (.inr e2)
   ·exact .inr e2
theorem hn_set (h : HN B' g N vL ls gn vN nm w) (p kind i z : Int) (hp : U64 p) (hk : Z64 kind) (hi : Z64 i) (hz : U64 z) :
  Calls Tryz.prog 37 #[.pointer (some ⟨g, 0, none⟩), .int .u64 p, .int .i64 kind, .int .i64 i, .int .u64 z] w fun e w' => e = .returned (.int .i64 (setM (ls.map Prod.fst) p kind i z).2) /\ HNPost B' g N (HNF g vL ls gn vN) gn w (setM (ls.map Prod.fst) p kind i z).1 nm w' := by
 refine (rset_any p kind i z hp hk hi hz w h.heap).mono ?_
 rintro e w' ⟨rfl, ls', k1, k2, k3, k4⟩
 exact ⟨rfl, h.heapPost ⟨vL, ls', k1, k2, fun b e => .inl ((k3 b).1 e), k4⟩⟩
theorem hn_fill (h : HN B' g N vL ls gn vN nm w) (kind n z : Int) (hk : Z64 kind) (hn : Z64 n) (hz : U64 z) (hB : B' <= w.heap.size) :
  Calls Tryz.prog 35 #[.pointer (some ⟨g, 0, none⟩), .int .i64 kind, .int .i64 n, .int .u64 z] w fun e w' => e = .returned (.tuple #[.int .u64 (fillM (ls.map Prod.fst) N kind n z).1, .int .i64 (fillM (ls.map Prod.fst) N kind n z).2]) /\ HNPost B' g N (HNF g vL ls gn vN) gn w (fillO (ls.map Prod.fst) N kind n z) nm w' := by
 refine (rfill_any kind n z hk hn hz w h.heap hB).mono ?_
 rintro e w' ⟨rfl, hp⟩
 exact ⟨rfl, h.heapPost hp⟩
theorem hn_id (h : HN B' g N vL ls gn vN nm w) (s : ByteArray) (hB : B' <= w.heap.size) (hl : nm.length <= 1000000) :
  Calls Tryz.prog 33 #[.pointer (some ⟨gn, 0, none⟩), .string s] w fun e w' => e = .returned (.int .i64 (idM nm s : Nat)) /\ HNPost B' g N (HNF g vL ls gn vN) gn w (ls.map Prod.fst) (idL nm s) w' := by
 refine (nid_any s w h.names hB hl).mono ?_
 rintro e w' ⟨rfl, hp⟩
 exact ⟨rfl, h.namePost hp⟩
end
def ojOf (x : So) : Oj := ⟨x.kind, x.l.map (fun f => ⟨f.is_, f.to_, f.w⟩)⟩
theorem fill5_is {os : List Ob} {kind n : Int} (hk : 1 <= kind /\ kind <= 22) (hn : 0 <= n /\ n <= 5000) (hr : (usedL os : Int) + (1 + n) <= 5000) : fillM os 5000 kind n 2 = (wordR 2 (usedL os : Nat) 0, 0) /\ fillO os 5000 kind n 2 = os ++ [⟨kind, List.replicate n.toNat 2⟩] := by
 have h2 : isHd 2 = false := by decide
 have e : fillM os 5000 kind n 2 = (wordR 2 (usedL os : Nat) 0, 0) := by
  unfold fillM
  rw [if_neg (by omega), if_neg (by rw [h2]; simp; omega)]
  unfold allocM
  rw [if_neg (by omega), if_neg (by simp [h2]), if_neg (by rw [List.length_replicate]; omega)]
 refine ⟨e, ?_⟩
 unfold fillO
 rw [e]; rfl
theorem blank_take_s {xs : List Oj} {q : Nat} (h : q < xs.length) : blankL (xs.take (q + 1)) = blankL (xs.take q) ++ [blankO (xs.getD q default)] := by
 unfold blankL
 rw [List.take_succ_eq_append_getElem h, List.map_append, List.getD_eq_getElem?_getD, List.getElem?_eq_getElem h]; rfl
theorem ats_take_s {xs : List Oj} {q : Nat} (h : q < xs.length) : (atsL xs).take (q + 1) = (atsL xs).take q ++ [wordR 2 (usedL (blankL (xs.take q)) : Nat) 0] := by
 rw [List.take_succ_eq_append_getElem (by rw [atsL_len]; exact h)]
 congr 2
 have := atsL_get h
 rw [List.getD_eq_getElem?_getD, List.getElem?_eq_getElem (by rw [atsL_len]; exact h)] at this
 rw [Option.getD_some] at this
 rw [this]
 unfold atO blankL
 rw [List.map_take]
def sayS (ats : List Int) (f : Sf) : Int := if f.is_ = true then ats.getD (roundI f.to_ ats.length) 0 else f.w
def setK (a : Int) (ats : List Int) (fs : List Sf) : Nat -> List Ob -> List Ob
 | 0, os => os
 | k + 1, os => (setM (setK a ats fs k os) a 0 (k : Nat) (sayS ats (fs.getD k default))).1
def setA (ats : List Int) (xs : List So) : Nat -> List Ob -> List Ob
 | 0, os => os
 | q + 1, os => setK (ats.getD q 0) ats (xs.getD q default).l (xs.getD q default).l.length (setA ats xs q os)
def madeS (xs : List So) : List Ob := setA (atsL (xs.map ojOf)) xs xs.length (blankL (xs.map ojOf))
def nm4 : List ByteArray := [⟨#[120]⟩, ⟨#[121]⟩, ⟨#[]⟩, ⟨#[255]⟩]
theorem nm4_step : ∀ q, q < 4 -> idL (nm4.take q) (nm4.getD q ByteArray.empty) = nm4.take (q + 1)
 | 0, _ => by kernel_rfl
 | 1, _ => by kernel_rfl
 | 2, _ => by kernel_rfl
 | 3, _ => by kernel_rfl
 | n + 4, h => by omega
theorem digs_len : ∀ (f k v : Nat), v < 10 ^ k -> (digs f v).length <= k
 | 0, k, v, _ => by simp [digs]
 | f + 1, k, v, h => by
  unfold digs
  split
  ·simp
  ·rename_i hv
   cases k with
   | zero => simp at h; omega
   | succ k =>
    have := digs_len f k (v / 10) (by rw [Nat.pow_succ] at h; omega)
    simp; omega
theorem printL_len {v k : Nat} (neg : Bool) (h : v < 10 ^ k) : (printL neg v).length <= k + 1 := by
 have := digs_len v k v h
 unfold printL
 split
 ·simp
 ·cases neg <;> simp <;> omega
theorem textOf_size (l : List Nat) : (textOf l).size = l.length := by
 show (l.map UInt8.ofNat).toArray.size = l.length
 simp
theorem fix_print {z : Int} (h : fixB z = true) : (textOf (printL (decide (z < 0)) z.natAbs)).size <= 2000 := by
 rw [textOf_size]
 unfold fixB at h
 rw [Bool.and_eq_true, decide_eq_true_eq, decide_eq_true_eq] at h
 have := printL_len (v := z.natAbs) (k := 20) (decide (z < 0)) (by omega)
 omega
theorem lr_one {x : Int} (h : lrB x = true) : (bs (Utf8.encode (nN x))).length <= 4 := by
 have h1 : nK x = 4 := by unfold lrB at h; exact of_decide_eq_true h
 have h2 := nK4_let h1
 generalize nN x = z at h2
 obtain ⟨c, rfl⟩ : ∃ c : Nat, z = (c : Int) := ⟨z.toNat, by unfold letB at h2; simp at h2; omega⟩
 have h3 := (enc_len h2).2
 unfold bs
 rw [List.length_map]
 exact h3
theorem lrT_len {f : List Int} (h : f.all lrB = true) : (lrT f).length <= 4 * f.length := by
 induction f with
 | nil => exact Nat.le_refl _
 | cons x f ih =>
  rw [List.all_cons, Bool.and_eq_true] at h
  have h1 := ih h.2
  have h2 := lr_one h.1
  have e : lrT (x :: f) = bs (Utf8.encode (nN x)) ++ lrT f := List.flatMap_cons
  rw [e, List.length_append, List.length_cons]
  generalize bs (Utf8.encode (nN x)) = q at h2
  omega
theorem pow_b32 : B32 ^ 29 < 10 ^ 290 := by decide +kernel
theorem big_print {f : List Int} (h : bigB f = true) (hl : f.length <= 30) : (textOf (printL (numNeg f) (val B32 (numMag f)))).size <= 2000 := by
 rw [textOf_size]
 unfold bigB at h
 simp only [Bool.and_eq_true] at h
 have hd : Dg B32 (numMag f) := fun x hx => by
  unfold numMag at hx
  obtain ⟨y, hy, rfl⟩ := List.mem_map.1 hx
  have := List.all_eq_true.1 h.2.1 y (List.mem_of_mem_drop hy)
  unfold limbB at this
  simp only [Bool.and_eq_true, decide_eq_true_eq] at this
  show (nN y).toNat < 4294967296
  omega
 have hv := val_lt hd
 have hn : (numMag f).length <= 29 := by unfold numMag; simp; omega
 have h2 : B32 ^ (numMag f).length <= B32 ^ 29 := Nat.pow_le_pow_right (by decide) hn
 have := printL_len (k := 290) (numNeg f) (Nat.lt_trans (Nat.lt_of_lt_of_le hv h2) pow_b32)
 omega
section
variable {os : List Ob} {nm : List ByteArray}
theorem symT_small (hn : ∀ s ∈ nm, s.size <= 2000) (x : Int) : (symT nm x).size <= 2000 := by
 unfold symT
 rw [List.getD_eq_getElem?_getD]
 cases e : nm[(nN x).toNat]? with
 | none => exact Nat.zero_le _
 | some s => exact hn s (List.mem_of_getElem? e)
theorem plain_small (hn : ∀ s ∈ nm, s.size <= 2000) (x : Int) : (plainD nm x).kids = [] /\ (plainD nm x).text.size <= 2000 := by
 have h0 : ByteArray.empty.size <= 2000 := Nat.zero_le _
 unfold plainD
 split
 ·rename_i h; exact ⟨rfl, fix_print (nK1_fix h)⟩
 split
 ·split
  ·exact ⟨rfl, h0⟩
  split
  ·exact ⟨rfl, h0⟩
  split
  ·exact ⟨rfl, h0⟩
  ·exact ⟨rfl, h0⟩
 split
 ·exact ⟨rfl, h0⟩
 split
 ·exact ⟨rfl, symT_small hn x⟩
 split
 ·exact ⟨rfl, h0⟩
 ·exact ⟨rfl, h0⟩
theorem recT_small (hn : ∀ s ∈ nm, s.size <= 2000) (x : Int) : (recT os nm x).size <= 2000 := by
 unfold recT
 split
 ·exact symT_small hn _
 ·exact Nat.zero_le _
theorem obj_small (hn : ∀ s ∈ nm, s.size <= 2000) (kd : Int) (f : List Int) (hl : f.length <= 30) : (∀ y ∈ (objD os nm kd f).kids, y ∈ f) /\ (objD os nm kd f).kids.length <= 100 /\ (objD os nm kd f).text.size <= 2000 := by
 have h0 : ByteArray.empty.size <= 2000 := Nat.zero_le _
 have hv : (∀ y ∈ voidN.kids, y ∈ f) /\ voidN.kids.length <= 100 /\ voidN.text.size <= 2000 := ⟨fun y h => (by cases h), by decide, h0⟩
 have hnil : ∀ y ∈ ([] : List Int), y ∈ f := fun y h => by cases h
 have hdrop : (∀ y ∈ f.drop 1, y ∈ f) /\ (f.drop 1).length <= 100 := ⟨fun y h => List.mem_of_mem_drop h, by simp; omega⟩
 unfold objD
 by_cases k1 : kd = 1
 ·rw [if_pos k1]
  by_cases h : f.length = 2
  ·rw [if_pos h]; exact ⟨fun y h => h, by show f.length <= 100; omega, h0⟩
  ·rw [if_neg h]; exact hv
 rw [if_neg k1]
 by_cases k2 : kd = 2
 ·rw [if_pos k2]
  by_cases h : f.length <= 1024
  ·rw [if_pos h]; exact ⟨fun y h => h, by show f.length <= 100; omega, h0⟩
  ·rw [if_neg h]; exact hv
 rw [if_neg k2]
 by_cases k3 : kd = 3
 ·rw [if_pos k3]
  by_cases h : (f.all lrB && decide (f.length <= 1024)) = true
  ·rw [if_pos h]
   rw [Bool.and_eq_true] at h
   exact ⟨hnil, Nat.zero_le _, by show (textOf (lrT f)).size <= 2000; rw [textOf_size]; have := lrT_len h.1; omega⟩
  ·rw [if_neg h]; exact hv
 rw [if_neg k3]
 by_cases k4 : kd = 4
 ·rw [if_pos k4]
  by_cases h : (f.all byB && decide (f.length <= 1024)) = true
  ·rw [if_pos h]
   exact ⟨hnil, Nat.zero_le _, by show (textOf (byT f)).size <= 2000; rw [textOf_size]; unfold byT; rw [List.length_map]; omega⟩
  ·rw [if_neg h]; exact hv
 rw [if_neg k4]
 by_cases k5 : kd = 5
 ·rw [if_pos k5]
  by_cases h : bigB f = true
  ·rw [if_pos h]; exact ⟨hnil, Nat.zero_le _, big_print h hl⟩
  ·rw [if_neg h]; exact hv
 rw [if_neg k5]
 by_cases k12 : kd = 12
 ·rw [if_pos k12]
  by_cases h : condB f = true
  ·rw [if_pos h]; exact ⟨hdrop.1, hdrop.2, h0⟩
  ·rw [if_neg h]; exact hv
 rw [if_neg k12]
 by_cases k14 : kd = 14
 ·rw [if_pos k14]
  by_cases h : (decide (0 < f.length) && recB os nm (f.getD 0 0)) = true
  ·rw [if_pos h]; exact ⟨hdrop.1, hdrop.2, recT_small hn _⟩
  ·rw [if_neg h]; exact hv
 rw [if_neg k14]
 by_cases k11 : kd = 11
 ·rw [if_pos k11]; exact ⟨hnil, Nat.zero_le _, h0⟩
 rw [if_neg k11]
 by_cases k19 : kd = 19
 ·rw [if_pos k19]; exact ⟨hnil, Nat.zero_le _, h0⟩
 rw [if_neg k19]
 by_cases k18 : kd = 18
 ·rw [if_pos k18]; exact ⟨fun y h => h, by show f.length <= 100; omega, h0⟩
 rw [if_neg k18]
 by_cases k13 : kd = 13
 ·rw [if_pos k13]; exact ⟨hnil, Nat.zero_le _, by show recordT.size <= 2000; unfold recordT; rw [textOf_size]; decide⟩
 rw [if_neg k13]
 by_cases k22 : kd = 22
 ·rw [if_pos k22]; exact ⟨hnil, Nat.zero_le _, by show tableT.size <= 2000; unfold tableT; rw [textOf_size]; decide⟩
 rw [if_neg k22]
 by_cases k6 : kd = 6 \/ kd = 17 \/ kd = 16 \/ kd = 15
 ·rw [if_pos k6]; exact ⟨hnil, Nat.zero_le _, h0⟩
 ·rw [if_neg k6]; exact hv
def allW (os : List Ob) (rts : List Int) : List Int := rts ++ os.flatMap (·.f)
theorem find_lt {os : List Ob} {x : Int} {k : Nat} (h : findM os x = some k) : os.getD k default = default \/ os.getD k default ∈ os := by
 by_cases e : k < os.length
 ·right; rw [List.getD_eq_getElem?_getD, List.getElem?_eq_getElem e]; exact List.getElem_mem e
 ·left; rw [List.getD_eq_getElem?_getD, List.getElem?_eq_none (by omega)]; rfl
theorem word_small (hn : ∀ s ∈ nm, s.size <= 2000) (ho : ∀ o ∈ os, o.f.length <= 30) (x : Int) : (∀ y ∈ (wordD os nm x).kids, y ∈ os.flatMap (·.f)) /\ (wordD os nm x).kids.length <= 100 /\ (wordD os nm x).text.size <= 2000 := by
 unfold wordD
 split
 ·rename_i k hk
  rcases find_lt hk with e | e
  ·have h := obj_small (os := os) hn (os.getD k default).kind (os.getD k default).f (by rw [e]; exact Nat.zero_le _)
   refine ⟨fun y hy => ?_, h.2⟩
   have := h.1 y hy
   rw [e] at this; cases this
  ·have h := obj_small (os := os) hn (os.getD k default).kind (os.getD k default).f (ho _ e)
   exact ⟨fun y hy => List.mem_flatMap.2 ⟨_, e, h.1 y hy⟩, h.2⟩
 ·have h := plain_small hn x
  exact ⟨fun y hy => (by rw [h.1] at hy; cases hy), (by rw [h.1]; exact Nat.zero_le _), h.2⟩
theorem rch_all (hn : ∀ s ∈ nm, s.size <= 2000) (ho : ∀ o ∈ os, o.f.length <= 30) {rts : List Int} {x : Int} (h : Rch (wordD os nm) rts x) : x ∈ allW os rts := by
 cases h with
 | root h => exact List.mem_append_left _ h
 | kid _ hy => exact List.mem_append_right _ ((word_small hn ho _).1 _ hy)
theorem flat_len : ∀ {os : List Ob}, (∀ o ∈ os, o.f.length <= 30) -> (os.flatMap (·.f)).length <= 30 * os.length
 | [], _ => by simp
 | o :: os, h => by
  have ih := flat_len (os := os) (fun x hx => h x (List.mem_cons_of_mem _ hx))
  have := h o List.mem_cons_self
  simp only [List.flatMap_cons, List.length_append, List.length_cons]; omega
end
theorem sh_setK (a : Int) (ats : List Int) (fs : List Sf) (os : List Ob) : ∀ k, (setK a ats fs k os).map sh = os.map sh
 | 0 => rfl
 | k + 1 => by unfold setK; rw [sh_setM, sh_setK a ats fs os k]
theorem sh_setA (ats : List Int) (xs : List So) (os : List Ob) : ∀ q, (setA ats xs q os).map sh = os.map sh
 | 0 => rfl
 | q + 1 => by unfold setA; rw [sh_setK, sh_setA ats xs os q]
theorem made_small {xs : List So} (h : xs.length <= 60 /\ ∀ x ∈ xs, x.l.length <= 30) : (madeS xs).length <= 60 /\ ∀ o ∈ madeS xs, o.f.length <= 30 := by
 have e : (madeS xs).map sh = (blankL (xs.map ojOf)).map sh := sh_setA _ _ _ _
 constructor
 ·have := congrArg List.length e
  simp only [List.length_map, blankL] at this
  omega
 ·intro o ho
  have h1 : sh o ∈ (madeS xs).map sh := List.mem_map_of_mem ho
  rw [e] at h1
  obtain ⟨b, hb, e2⟩ := List.mem_map.1 h1
  unfold blankL at hb
  obtain ⟨y, hy, rfl⟩ := List.mem_map.1 hb
  obtain ⟨x, hx, rfl⟩ := List.mem_map.1 hy
  have e3 : (blankO (ojOf x)).f.length = o.f.length := congrArg Prod.snd e2
  have e4 : (blankO (ojOf x)).f.length = x.l.length := by simp [blankO, ojOf]
  have := h.2 x hx
  omega
theorem nm4_small : ∀ s ∈ nm4, s.size <= 2000 := by
 intro s hs
 simp only [nm4, List.mem_cons, List.not_mem_nil, or_false] at hs
 rcases hs with rfl | rfl | rfl | rfl <;> decide +kernel
end Go.Proofs.YticimejfjjmikaaGreatDoor
