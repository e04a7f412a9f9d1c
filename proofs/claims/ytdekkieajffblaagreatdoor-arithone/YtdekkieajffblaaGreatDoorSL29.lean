import Derived.Test.YtdekkieajffblaaGreatDoorG5
import Derived.Test.YtdekkieajffblaaGreatDoorM1
import Derived.Test.YtdekkieajffblaaGreatDoorM5
import Derived.Test.YtdekkieajffblaaGreatDoorV2
import Derived.Test.YtdekkieajffblaaGreatDoorG14
import Derived.Deep.LoopGhost
import Derived.Test.YtdekkieajffblaaGreatDoorST7
import Derived.Test.YtdekkieajffblaaGreatDoorX3
import Derived.Test.YtdekkieajffblaaGreatDoorSG2
import Derived.Test.YtdekkieajffblaaGreatDoorW15
import Derived.Test.YtdekkieajffblaaGreatDoorW6
import Derived.Laws.Cover4
import Derived.Laws.BytesArg
import Derived.Test.YtdekkieajffblaaGreatDoorW13
import Derived.Test.YtdekkieajffblaaGreatDoorSG3
import Derived.Test.YtdekkieajffblaaGreatDoorQ3
import Derived.Test.YtdekkieajffblaaGreatDoorG10
import Derived.Lib.OthersKept
import Derived.Shelf.Strings.FieldsFuncAny
import Derived.Shelf.LaysM
import Derived.Shelf.Strconv.Itoa4
import Derived.Shelf.Strconv.Clone
import Derived.Test.YtdekkieajffblaaGreatDoorProg
import Derived.Maps.OwnSet
import Derived.WalkSpells
import Derived.Lib.SmallJoins
set_option linter.unusedVariables false
set_option linter.unusedSimpArgs false
set_option maxRecDepth 100000
namespace Go.Proofs.YtdekkieajffblaaGreatDoor
open Go.RowKit
def canonN (ns : List Nd) (rs : List Int) : List Nd × List Int := canonG ns rs 300001
theorem appW {P : Program} {w : World} {ops : Array Oper} {rest : List Oper} {o : Oper} {a : Act} {Q : Exit -> Act -> World -> Prop} (hgd : o.guard = none) (s x : Operand) (t : TypeId) (ho : o.op = .call { callee := .builtin .append, args := #[s, x], argTypes := #[t, t] })
  (base : Nat) (e : TypeId) (ht : P.underlying t = some (.slice e)) (hi : (P.info? e).map (fun i => (i.zero, i.size, i.bytes)) = some (some (.int .u64 0), 1, 8))
  (v : Value) (n : Nat) (l : List Int) (hs : a.eval s = v) (hown : w.ownsRow base e 1 v n (uz l))
  (ad : Addr) (c : Nat) (d : Int) (hx : a.eval x = .slice (some ad) 1 c) (hd : w.cell? ad = some (.int .u64 d)) (hsm : n <= 10000000) (hbase : base <= w.heap.size)
  (h : ∀ g cap w', w'.ownsRow base e 1 (.slice (some ⟨g, 0, none⟩) (n + 1) cap) (n + 1) (uz (l ++ [d])) -> w.grownBy w' v.ownBlock -> (v.ownBlock = some g \/ g = w.heap.size) -> g < w'.heap.size -> wpList P ops Q rest (a.put o.dst (.slice (some ⟨g, 0, none⟩) (n + 1) cap)) w') :
  wpList P ops Q (o :: rest) a w := by
 obtain ⟨i0, hi0, hz0, hz1, hz2⟩ : ∃ i0, P.info? e = some i0 /\ i0.zero = some (.int .u64 0) /\ i0.size = 1 /\ i0.bytes = 8 := by
  cases h : P.info? e with
  | none => rw [h] at hi; cases hi
  | some i => rw [h] at hi; simp at hi; exact ⟨i, rfl, hi.1, hi.2.1, hi.2.2⟩
 refine wpList_append_lies w hgd s x t ho base e i0 (.int .u64 0) 1 8 ht hi0 hz0 hz1 hz2 rfl (by decide) v n (uz l) hs hown ad 1 c [.int .u64 d] hx rfl ?_ ?_ (by decide) (by unfold maxLen; omega) (by omega) hbase w.heap.size rfl ?_
 ·intro j u hj
  match j, hj with
  | 0, hj => simp at hj; subst hj; simpa [Addr.add] using hd
 ·intro u hu; simp at hu; subst hu; rfl
 ·intro g cap w' h1 h2 h3 h4
  refine h g cap w' ?_ h2 h3 h4
  rw [uz_append]; exact h1
theorem no_kids {k : Int} {l : List Int} (h : countB k l.length = true) (h1 : k ≠ 7) (h2 : k ≠ 13) (h3 : k ≠ 8) (h4 : k ≠ 15) (h5 : k ≠ 16) : l = [] := by
 rw [countB_o _ h1 h2 h3 h4 h5] at h
 exact List.length_eq_zero_iff.1 (of_decide_eq_true h)
theorem find_app {os os2 : List Ob} {x : Int} {k : Nat} (h : findM os x = some k) (hu : usedL (os ++ os2) <= 1099511627776) : findM (os ++ os2) x = some k /\ (os ++ os2).getD k default = os.getD k default := by
 have hk := findM_lt h
 have hp : (ofR x).1 = 2 := find_place h
 have hat : atO (os ++ os2) k = atO os k := by
  unfold atO
  rw [List.take_append_of_le_length (by omega)]
 have hlt : k < (os ++ os2).length := by rw [List.length_append]; omega
 refine ⟨?_, ?_⟩
 ·unfold findM
  rw [if_pos hp, <- hk.2, <- hat]
  exact fnd_at hlt (Nat.zero_le _)
 ·rw [List.getD_eq_getElem?_getD, List.getElem?_append_left hk.1, <- List.getD_eq_getElem?_getD]
def dd : List Int -> List Int
 | [] => []
 | x :: l => if x ∈ l then dd l else x :: dd l
theorem mem_dd : ∀ {l : List Int} {x : Int}, x ∈ dd l ↔ x ∈ l
 | [], x => Iff.rfl
 | y :: l, x => by
  unfold dd
  by_cases h : y ∈ l
  ·rw [if_pos h, mem_dd, List.mem_cons]
   constructor
   ·exact .inr
   ·rintro (rfl | e)
    ·exact h
    ·exact e
  ·rw [if_neg h, List.mem_cons, List.mem_cons, mem_dd]
theorem nodup_dd : ∀ (l : List Int), (dd l).Nodup
 | [] => List.nodup_nil
 | y :: l => by
  unfold dd
  by_cases h : y ∈ l
  ·rw [if_pos h]; exact nodup_dd l
  ·rw [if_neg h]; exact List.nodup_cons.2 ⟨fun e => h (mem_dd.1 e), nodup_dd l⟩
theorem ok_kids {d : Nd} (h : okD d = true) (ha : atomB d.kind = true) : d.kids = [] := by
 unfold okD at h
 rw [Bool.and_eq_true] at h
 have hk : d.kind = 1 \/ d.kind = 2 \/ d.kind = 3 \/ d.kind = 4 \/ d.kind = 6 \/ d.kind = 10 \/ d.kind = 11 := by
  unfold atomB at ha
  simp only [Bool.or_eq_true, decide_eq_true_eq] at ha
  omega
 refine no_kids h.2 ?_ ?_ ?_ ?_ ?_ <;> omega
section
variable {D Dc : Int -> Nd} {roots rootsc W Wc rs rc : List Int} {ns nc : List Nd} {ψ : Int -> Int} {f : Nat}
theorem told_two (T : Told D roots W ns rs) (Tc : Told Dc rootsc Wc nc rc) (hr : roots = rootsc.map ψ) (hok : ∀ x, okD (D x) = true)
  (hψ : ∀ x, Rch Dc rootsc x -> sameA (D (ψ x)) (Dc x) /\ (D (ψ x)).kids = (Dc x).kids.map ψ)
  (hi : ∀ x y, Rch Dc rootsc x -> Rch Dc rootsc y -> ψ x = ψ y -> x = y \/ atomB (Dc x).kind = true)
  (hb : ∀ x, Rch Dc rootsc x -> atomB (Dc x).kind = true -> (Dc x).kids = []) (F : Fine ns rs f) (Fc : Fine nc rc f) : canonG ns rs f = canonG nc rc f := by
 have hin : ∀ i, i < ns.length -> W.getD i 0 ∈ W := fun i hi => getD_mem_w (by rw [T.len]; exact hi)
 have hc : ∀ x ∈ dd W, ∀ y ∈ (D x).kids, y ∈ dd W := fun x hx y hy => by
  obtain ⟨i, hi, rfl⟩ := mem_getD_w (mem_dd.1 hx)
  rw [T.len] at hi
  rw [<- T.kids i hi] at hy
  obtain ⟨k, hk, rfl⟩ := List.mem_map.1 hy
  have := T.kr i hi k hk
  exact mem_dd.2 (hin _ (by omega))
 have hrt : ∀ x ∈ roots, x ∈ dd W := fun x hx => by
  rw [<- T.rts] at hx
  obtain ⟨k, hk, rfl⟩ := List.mem_map.1 hx
  have := T.rr k hk
  exact mem_dd.2 (hin _ (by omega))
 have TM := told_mk (D := D) (roots := roots) (nodup_dd W) hc hrt
 have hg := TM.good (fun x _ => hok x)
 have hn := mk_nodup (D := D) (nodup_dd W)
 have e1 : canonG (mkG D (dd W)) (roots.map (fun y => (((dd W).idxOf y : Nat) : Int))) f = canonG ns rs f := by
  have TM' : Told D (roots.map id) (dd W) (mkG D (dd W)) (roots.map (fun y => (((dd W).idxOf y : Nat) : Int))) := by rw [List.map_id]; exact TM
  exact told_canon T TM' hn (fun x _ => ⟨⟨rfl, rfl, rfl⟩, (List.map_id _).symm⟩) (fun x y _ _ e => .inl e) (fun x _ ha => ok_kids (hok x) ha) F hg
 have e2 : canonG (mkG D (dd W)) (roots.map (fun y => (((dd W).idxOf y : Nat) : Int))) f = canonG nc rc f := by
  rw [hr] at TM hg ⊢
  exact told_canon Tc TM hn hψ hi hb Fc hg
 rw [<- e1, e2]
end
def bareV (d : Nd) : Value := .agg #[.int .i64 d.kind, .int .i64 d.num, .string d.text, .slice none 0 0]
def NZ (g : Nat) (w : World) : Prop := w.heap[g]? = some (.cells #[.int .i64 0, .int .i64 0, .string ⟨#[]⟩, .slice none 0 0] 75 (0, 0))
theorem NZ.c {g : Nat} {w : World} (h : NZ g w) : w.cell? ⟨g, 0, none⟩ = some (.int .i64 0) /\ w.cell? ⟨g, 1, none⟩ = some (.int .i64 0) /\ w.cell? ⟨g, 2, none⟩ = some (.string ⟨#[]⟩) /\ w.cell? ⟨g, 3, none⟩ = some (.slice none 0 0) /\ w.frozen? ⟨g, 0, none⟩ = false /\ w.frozen? ⟨g, 1, none⟩ = false /\ w.frozen? ⟨g, 2, none⟩ = false /\ w.frozen? ⟨g, 3, none⟩ = false :=
 ⟨blk_cell h 0, blk_cell h 1, blk_cell h 2, blk_cell h 3, blk_free h 0, blk_free h 1, blk_free h 2, blk_free h 3⟩
theorem NZ.new (w : World) : NZ w.heap.size (w.alloc (.cells #[.int .i64 0, .int .i64 0, .string ⟨#[]⟩, .slice none 0 0] 75)) := blk_new _ _ _
theorem NZ.on {g : Nat} {w w' : World} (h : NZ g w) (hb : Below w.heap.size w w') : NZ g w' := (hb.block g (Array.getElem?_eq_some_iff.1 h).1).trans h
theorem unil (w : World) : URow w none 0 0 [] := ⟨rfl, Nat.le_refl _, Nat.zero_le _, fun _ => rfl, fun z h => (by cases h), .inl rfl⟩
def bigNd (f : List Int) : Nd := if bigB f = true then ⟨3, 0, textOf (printL (numNeg f) (val B32 (numMag f))), []⟩ else voidN
end Go.Proofs.YtdekkieajffblaaGreatDoor
namespace Go.Proofs
open Go.Shelf
end Go.Proofs
namespace Go.Proofs.YtdekkieajffblaaGreatDoor
open Go.RowKit
theorem zint' (w : World) : (zeroValue 3).run Tryz.prog w = .ok (.int .i64 0) w := by kernel_rfl
def TabsS (w : World) : Prop := Tabs w /\ Lib.TabIs Tryz.prog w "internal/strconv.uint64pow10" .u64 Lib.pow10Tab
theorem TabsS.below {w w' : World} (h : TabsS w) (hb : Below w.heap.size w w') : TabsS w' := by
 refine ⟨Tabs.below h.1 hb, ?_⟩
 cases hg : Tryz.prog.globalNamed "internal/strconv.uint64pow10" with
 | none =>
  have := h.2
  unfold Lib.TabIs World.var? at this
  rw [hg] at this
  cases this
 | some g => exact Joins.tab_stays hg h.2 hb (Nat.le_refl _)
theorem alloc_ok {os : List Ob} {N kind : Int} {fl : List Int} (h : OsOk os) (hf : ∀ z ∈ fl, U64 z) : OsOk (allocO os N kind fl) := by
 unfold allocO
 split
 ·rename_i h0
  unfold allocM at h0
  split at h0
  ·simp at h0
  rename_i hk
  split at h0
  ·simp at h0
  rename_i hh
  have hany : fl.any isHd = false := by simpa using hh
  have hnh : ∀ z ∈ fl, isHd z = false := fun z hz => by
   rw [<- Bool.not_eq_true]; intro e
   have := List.any_eq_true.2 ⟨z, hz, e⟩
   rw [hany] at this; cases this
  refine ⟨fun x hx => ?_, fun x hx => ?_, fun x hx => ?_⟩ <;> rcases List.mem_append.1 hx with hx | hx
  ·exact h.kd x hx
  ·obtain rfl := List.mem_singleton.1 hx; simp only; omega
  ·exact h.uf x hx
  ·obtain rfl := List.mem_singleton.1 hx; exact hf
  ·exact h.nh x hx
  ·obtain rfl := List.mem_singleton.1 hx; exact hnh
 ·exact h
def SB (gs : Nat) (v vn : Value) (w : World) : Prop := w.cell? ⟨gs, 0, none⟩ = some v /\ w.cell? ⟨gs, 1, none⟩ = some vn /\ gs < w.heap.size
theorem SB.on {gs : Nat} {v vn : Value} {w w' : World} (h : SB gs v vn w) (hb : Below w.heap.size w w') : SB gs v vn w' :=
 ⟨(hb.cell (p := ⟨gs, 0, none⟩) h.2.2).trans h.1, (hb.cell (p := ⟨gs, 1, none⟩) h.2.2).trans h.2.1, Nat.lt_of_lt_of_le h.2.2 hb.size⟩
def OPost (d : Nd) (w : World) (e : Ending) (w' : World) : Prop := ∃ ak nk ck, e = .returned (.tuple #[bareV d, .slice ak nk ck]) /\ URow w' ak nk ck d.kids /\ (∀ a, ak = some a -> w.heap.size <= a.block) /\ Below w.heap.size w w'
theorem OPost.bare {k m : Int} {t : ByteArray} {w w' : World} (hb : Below w.heap.size w w') : OPost ⟨k, m, t, []⟩ w (.returned (.tuple #[.agg #[.int .i64 k, .int .i64 m, .string t, .slice none 0 0], .slice none 0 0])) w' := ⟨none, 0, 0, rfl, unil _, fun a e => (by cases e), hb⟩
end Go.Proofs.YtdekkieajffblaaGreatDoor
