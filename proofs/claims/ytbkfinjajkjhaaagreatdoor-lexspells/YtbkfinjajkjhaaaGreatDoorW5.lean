import Derived.Test.YtbkfinjajkjhaaaGreatDoorOnto
import Derived.Deep.AppendLies
import Derived.Laws.AppendOwnNone
import Derived.Lib.SliceRun
set_option linter.unusedVariables false
set_option linter.unusedSimpArgs false
namespace Go.Proofs.YtbkfinjajkjhaaaGreatDoor
open Go.RowKit
def cs (k : IntKind) (l : List Nat) : List Value := l.map fun (x : Nat) => Value.int k (x : Int)
theorem cs_length (k : IntKind) (l : List Nat) : (cs k l).length = l.length := by simp [cs]
theorem cs_append (k : IntKind) (l r : List Nat) : cs k (l ++ r) = cs k l ++ cs k r := by simp [cs]
theorem cs_get {k : IntKind} {l : List Nat} {j : Nat} {u : Value} (h : (cs k l)[j]? = some u) : j < l.length /\ u = .int k (l.getD j 0 : Nat) := by
 unfold cs at h
 rw [List.getElem?_map] at h
 by_cases hj : j < l.length
 ·rw [List.getElem?_eq_getElem hj] at h
  refine ⟨hj, ?_⟩
  rw [List.getD_eq_getElem?_getD, List.getElem?_eq_getElem hj]
  simp at h
  exact h.symm
 ·rw [List.getElem?_eq_none (by omega)] at h; simp at h
theorem cs_get_of {k : IntKind} {l : List Nat} {j : Nat} (hj : j < l.length) : (cs k l)[j]? = some (.int k (l.getD j 0 : Nat)) := by
 unfold cs
 rw [List.getElem?_map, List.getD_eq_getElem?_getD, List.getElem?_eq_getElem hj]; rfl
theorem cs_one (k : IntKind) (l : List Nat) : ∀ u ∈ cs k l, u.oneCell' = true := by
 intro u hu
 unfold cs at hu
 obtain ⟨x, _, rfl⟩ := List.mem_map.1 hu
 rfl
theorem own_of {w : World} {base : Nat} {e : TypeId} {v : Value} {n : Nat} {k : IntKind} {l : List Nat} {B : Nat} (h : w.ownsRow base e 1 v n (cs k l)) (hd : Dg B l) :
  ∃ ao cap, v = .slice ao n cap /\ Own k e B base w ao n cap l := by
 have hn : l.length = n := by have := h.1; rw [cs_length] at this; omega
 rcases h.2 with ⟨rfl, h0⟩ | ⟨g, cap, cur, rfl, hb, hg, hle, hm, hsz, htk⟩
 ·subst h0
  have : l = [] := List.length_eq_zero_iff.1 hn
  subst this
  exact ⟨none, 0, rfl, Row.nil _ _ _ _, .inl rfl⟩
 ·have hwin : Win k e w g 0 n cur l := by
   refine ⟨hg, by omega, hn, fun i hi => ?_⟩
   have h1 : (cs k l)[i]? = some (.int k (l.getD i 0 : Nat)) := cs_get_of (by omega)
   rw [<- htk, List.getElem?_take, if_pos (by omega)] at h1
   rw [Nat.zero_add, <- Array.getElem?_toList]; exact h1
  exact ⟨some ⟨g, 0, none⟩, cap, rfl, ⟨hn, hle, hm, fun h => (by cases h), hd, hwin.rd⟩, .inr ⟨g, cur, rfl, hb, hwin⟩⟩
theorem Own.nil (k : IntKind) (e : TypeId) (B base : Nat) (w : World) (ao : Option Addr) : Own k e B base w ao 0 0 [] := ⟨Row.nil _ _ _ _, .inl rfl⟩
theorem Own.base {k : IntKind} {e : TypeId} {B base base' : Nat} {w : World} {ao : Option Addr} {n cap : Nat} {l : List Nat} (h : Own k e B base w ao n cap l) (hb : base' <= base) : Own k e B base' w ao n cap l :=
 ⟨h.row, h.own.imp id fun ⟨g, cur, h1, h2, h3⟩ => ⟨g, cur, h1, Nat.le_trans hb h2, h3⟩⟩
theorem Win.below {k : IntKind} {e : TypeId} {w w' : World} {g o n : Nat} {cur : Array Value} {l : List Nat} (h : Win k e w g o n cur l) (hb : Below w.heap.size w w') : Win k e w' g o n cur l :=
 ⟨(hb.block g h.lt).trans h.blk, h.fits, h.len, h.at_⟩
theorem Win.on {k : IntKind} {e : TypeId} {w w' : World} {g o n B : Nat} {cur : Array Value} {l : List Nat} (h : Win k e w g o n cur l) (hb : Below B w w') (hg : g < B) : Win k e w' g o n cur l :=
 ⟨(hb.block g hg).trans h.blk, h.fits, h.len, h.at_⟩
theorem Win.take {k : IntKind} {e : TypeId} {w : World} {g o n m : Nat} {cur : Array Value} {l : List Nat} (h : Win k e w g o n cur l) (hm : m <= n) : Win k e w g o m cur (l.take m) :=
 ⟨h.blk, by have := h.fits; omega, by rw [List.length_take, h.len, Nat.min_eq_left hm], fun i hi => by rw [getD_take hi]; exact h.at_ i (by omega)⟩
theorem Own.setFar {k : IntKind} {e : TypeId} {B base : Nat} {w : World} {ao : Option Addr} {n cap : Nat} {l : List Nat} (h : Own k e B base w ao n cap l) {p : Addr} (hp : p.block < base) (v : Value) : Own k e B base (w.setCell p v) ao n cap l := by
 rcases h.own with h0 | ⟨g, cur, h1, h2, h3⟩
 ·have hl : l = [] := List.length_eq_zero_iff.1 (by rw [h.row.len, h0])
  exact ⟨⟨h.row.len, h.row.fits, h.row.most, h.row.nil_, h.row.dg, .inl hl⟩, .inl h0⟩
 ·have hw : Win k e (w.setCell p v) g 0 n cur l := ⟨(Below.heap_setCell w p v g (by omega)).trans h3.blk, h3.fits, h3.len, h3.at_⟩
  subst h1
  exact ⟨⟨h.row.len, h.row.fits, h.row.most, h.row.nil_, h.row.dg, hw.rd⟩, .inr ⟨g, cur, rfl, h2, hw⟩⟩
theorem owns_win {w : World} {base : Nat} {e : TypeId} {v : Value} {n : Nat} {k : IntKind} {l : List Nat} (h : w.ownsRow base e 1 v n (cs k l)) (hn : 0 < n) :
  ∃ g cap cur, v = .slice (some ⟨g, 0, none⟩) n cap /\ base <= g /\ n <= cap /\ cap <= maxLen /\ cur.size = cap /\ Win k e w g 0 n cur l := by
 have hl : l.length = n := by have := h.1; rw [cs_length] at this; omega
 rcases h.2 with ⟨_, h0⟩ | ⟨g, cap, cur, rfl, hb, hg, hle, hm, hsz, htk⟩
 ·omega
 ·refine ⟨g, cap, cur, rfl, hb, hle, hm, by omega, hg, by omega, hl, fun i hi => ?_⟩
  have h1 : (cs k l)[i]? = some (.int k (l.getD i 0 : Nat)) := cs_get_of (by omega)
  rw [<- htk, List.getElem?_take, if_pos (by omega)] at h1
  rw [Nat.zero_add, <- Array.getElem?_toList]; exact h1
theorem owns_of_win {w : World} {base : Nat} {e : TypeId} {n g cap : Nat} {k : IntKind} {l : List Nat} {cur : Array Value} (hb : base <= g) (h1 : n <= cap) (h2 : cap <= maxLen) (h3 : cur.size = cap) (hw : Win k e w g 0 n cur l) :
  w.ownsRow base e 1 (.slice (some ⟨g, 0, none⟩) n cap) n (cs k l) := by
 refine ⟨by rw [cs_length, hw.len]; omega, .inr ⟨g, cap, cur, rfl, hb, hw.blk, h1, h2, by omega, ?_⟩⟩
 apply List.ext_getElem?
 intro i
 rw [List.getElem?_take]
 by_cases hi : i < n
 ·rw [if_pos (by omega), Array.getElem?_toList, cs_get_of (by rw [hw.len]; exact hi)]
  have := hw.at_ i hi
  rwa [Nat.zero_add] at this
 ·rw [if_neg (by omega), List.getElem?_eq_none (by rw [cs_length, hw.len]; omega)]
theorem owns_onto {w w' : World} {base : Nat} {e : TypeId} {n g cap : Nat} {k : IntKind} {l : List Nat} {cur : Array Value} (hb : base <= g) (h1 : n <= cap) (h2 : cap <= maxLen) (h3 : cur.size = cap) (hO : Onto k e g 0 n w w' cur l) :
  w'.ownsRow base e 1 (.slice (some ⟨g, 0, none⟩) n cap) n (cs k l) := by
 obtain ⟨c, hw, hc, _⟩ := hO.row
 exact owns_of_win hb h1 h2 (by omega) hw
theorem owns_far {w w' : World} {base : Nat} {e e' : TypeId} {v : Value} {n m g o : Nat} {k : IntKind} {xs : List Value} {l : List Nat} {cur : Array Value} (h : w.ownsRow base e 1 v n xs) (hg : g < base) (hO : Onto k e' g o m w w' cur l) : w'.ownsRow base e 1 v n xs := by
 refine ⟨h.1, ?_⟩
 rcases h.2 with h0 | ⟨g', cap, cur', h1, h2, h3, h4⟩
 ·exact .inl h0
 ·exact .inr ⟨g', cap, cur', h1, h2, (hO.block g' (by omega)).trans h3, h4⟩
theorem own0 (w : World) (k : IntKind) (e : TypeId) : (w.alloc (.cells #[] e)).ownsRow w.heap.size e 1 (.slice (some ⟨w.heap.size, 0, none⟩) 0 0) 0 (cs k []) :=
 World.ownsRow_made (base := w.heap.size) (e := e) (size := 1) w #[] 0 (Nat.le_refl _) (Nat.zero_le _) rfl
theorem bel_of {w w' : World} {base : Nat} {e : TypeId} {v : Value} {n : Nat} {xs : List Value} (hown : w.ownsRow base e 1 v n xs) (hbase : base <= w.heap.size) (hg : w.grownBy w' v.ownBlock) : Below base w w' :=
 (Below.refl base w).grown hg hbase (fun k hk => (hown.lt k hk).1)
theorem Bb {w w1 w2 : World} {B : Nat} (hb : Below w.heap.size w w1) (h2 : Below B w1 w2) (hB : w.heap.size <= B) : Below w.heap.size w w2 := hb.trans (h2.mono hB)
theorem own_step {w : World} {base : Nat} {e : TypeId} {v : Value} {n n' j : Nat} {k : IntKind} {l r : List Nat} (h : w.ownsRow base e 1 v n (cs k (l ++ r.take j ++ [r.getD j 0]))) (hn : n = n') (hj : j < r.length) : w.ownsRow base e 1 v n' (cs k (l ++ r.take (j + 1))) := by
 rw [take_snoc r j hj, <- List.append_assoc, <- hn]; exact h
theorem cell_new (w : World) (v : Value) (e : TypeId) : (w.alloc (.cells #[v] e)).cell? ⟨w.heap.size, 0, none⟩ = some v := by simp
variable {P : Program} {w : World} {ops : Array Oper} {rest : List Oper} {o : Oper} {a : Act} {Q : Exit -> Act -> World -> Prop}
theorem app1 (hgd : o.guard = none) (s x : Operand) (t : TypeId) (ho : o.op = .call { callee := .builtin .append, args := #[s, x], argTypes := #[t, t] })
  (base : Nat) (e : TypeId) (k : IntKind) (bytes : Nat) (hby : bytes <= 8) (ht : P.underlying t = some (.slice e)) (hi : (P.info? e).map (fun i => (i.zero, i.size, i.bytes)) = some (some (.int k 0), 1, bytes))
  (v : Value) (n : Nat) (l : List Nat) (hs : a.eval s = v) (hown : w.ownsRow base e 1 v n (cs k l))
  (ad : Addr) (c : Nat) (d : Nat) (hx : a.eval x = .slice (some ad) 1 c) (hd : w.cell? ad = some (.int k d)) (hsm : n <= 1000000) (hbase : base <= w.heap.size)
  (h : ∀ g cap w', w'.ownsRow base e 1 (.slice (some ⟨g, 0, none⟩) (n + 1) cap) (n + 1) (cs k (l ++ [d])) -> Below base w w' -> wpList P ops Q rest (a.put o.dst (.slice (some ⟨g, 0, none⟩) (n + 1) cap)) w') :
  wpList P ops Q (o :: rest) a w := by
 obtain ⟨i0, hi0, hz0, hz1, hz2⟩ := info_parts hi
 refine wpList_append_lies w hgd s x t ho base e i0 (.int k 0) 1 bytes ht hi0 hz0 hz1 hz2 rfl (by decide) v n (cs k l) hs hown ad 1 c [.int k d] hx rfl ?_ ?_ (by decide) (by unfold maxLen; omega) ?_ hbase w.heap.size rfl ?_
 ·intro j u hj
  match j, hj with
  | 0, hj => simp at hj; subst hj; simpa [Addr.add] using hd
 ·intro u hu; simp at hu; subst hu; rfl
 ·have : (n + 1) * bytes <= 1000001 * 8 := Nat.mul_le_mul (by omega) hby
  omega
 ·intro g cap w' h1 h2 h3 h4
  refine h g cap w' ?_ (bel_of hown hbase h2)
  rw [cs_append]; exact h1
theorem appRow (hgd : o.guard = none) (s x : Operand) (t : TypeId) (ho : o.op = .call { callee := .builtin .append, args := #[s, x], argTypes := #[t, t] })
  (base : Nat) (e : TypeId) (k : IntKind) (bytes : Nat) (hby : bytes <= 8) (ht : P.underlying t = some (.slice e)) (hi : (P.info? e).map (fun i => (i.zero, i.size, i.bytes)) = some (some (.int k 0), 1, bytes))
  (v : Value) (n : Nat) (l : List Nat) (hs : a.eval s = v) (hown : w.ownsRow base e 1 v n (cs k l))
  (B : Nat) (ao : Option Addr) (m c : Nat) (r : List Nat) (hx : a.eval x = .slice ao m c) (hr : Row k B w ao m c r) (hsm : n + m <= 1000000) (hbase : base <= w.heap.size)
  (h : ∀ v' w', w'.ownsRow base e 1 v' (n + m) (cs k (l ++ r)) -> Below base w w' -> wpList P ops Q rest (a.put o.dst v') w') :
  wpList P ops Q (o :: rest) a w := by
 obtain ⟨i0, hi0, hz0, hz1, hz2⟩ := info_parts hi
 cases ao with
 | none =>
  have hc := hr.nil_ rfl
  subst hc
  have hm : m = 0 := by have := hr.fits; omega
  subst hm
  have hl : r = [] := List.length_eq_zero_iff.1 hr.len
  subst hl
  refine wpList_append_own_none hgd s x t ho base e i0 1 ht hi0 v n (cs k l) hs hown hx ?_
  refine h v w (by simpa using hown) (Below.refl _ _)
 | some ad =>
  refine wpList_append_own w hgd s x t ho base e i0 (.int k 0) 1 bytes ht hi0 hz0 hz1 hz2 rfl (by decide) v n (cs k l) hs hown ad m c (cs k r) hx (by rw [cs_length, hr.len]; omega) ?_ (cs_one k r) (by unfold maxLen; omega) ?_ hbase ?_
  ·intro j u hj
   obtain ⟨h1, rfl⟩ := cs_get hj
   obtain ⟨b, o', hao, _, hc⟩ := hr.rd.some (by omega)
   cases hao
   have := hc j h1
   unfold Addr.add
   by_cases hj0 : j = 0
   ·subst hj0; simpa using this
   ·rw [if_neg hj0]; exact this
  ·have : (n + m) * bytes <= 1000000 * 8 := Nat.mul_le_mul hsm hby
   omega
  ·intro v' w' h1 h2 _
   refine h v' w' ?_ (bel_of hown hbase h2)
   rw [cs_append]; exact h1
theorem info_u32 : (Tryz.prog.info? 97).map (fun i => (i.zero, i.size, i.bytes)) = some (some (.int .u32 0), 1, 4) := by kernel_rfl
theorem info_u8 : (Tryz.prog.info? 5).map (fun i => (i.zero, i.size, i.bytes)) = some (some (.int .u8 0), 1, 1) := by kernel_rfl
set_option maxHeartbeats 400000 in
theorem clone_any (ao : Option Addr) (n cap : Nat) (l : List Nat) (w : World) (R : Row .u32 B32 w ao n cap l) (hs : n <= 1000) :
  Calls Tryz.prog 109 #[.slice ao n cap] w fun e w' => ∃ ao' cap', e = .returned (.slice ao' n cap') /\ Own .u32 97 B32 w.heap.size w' ao' n cap' l /\ Below w.heap.size w w' := by
 have heq := fun wx => Lib.run_eql_slice_nil (P := Tryz.prog) wx 53 97 ao n cap 0 0 Tryz.underlying53
 have HD : Hid (Dg B32 l) := R.dg
 cases ao with
 | none =>
  have hc := R.nil_ rfl
  subst hc
  have hm : n = 0 := by have := R.fits; omega
  subst hm
  have hl : l = [] := List.length_eq_zero_iff.1 R.len
  subst hl
  simp only [Option.isNone_none] at heq
  clear R HD
  go_enter Tryz.func109, Tryz.ntmps109
  go_wp2
  go_ret
  exact ⟨none, 0, rfl, Own.nil _ _ _ _ _ _, Below.refl _ _⟩
 | some a =>
  simp only [Option.isNone_some] at heq
  have HR : Hid (Row .u32 B32 w (some a) n cap l) := R
  clear R
  go_enter Tryz.func109, Tryz.ntmps109
  go_wp2_with (at_builtin; refine appRow rfl _ _ 53 rfl w.heap.size 97 .u32 4 (by decide) Tryz.underlying53 info_u32 _ 0 [] rfl (own0 w .u32 97) B32 (some a) n cap l rfl (HR.out.below (Ba _ _)) (by omega) (by simp) ?_; intro v' w1 hown hbel)
  simp only [Nat.zero_add, List.nil_append] at hown
  have hb := Bb (Ba w (.cells #[] 97)) hbel (Nat.le_refl _)
  have HO := hid hown
  have HB := hid hb
  clear hown hbel hb
  go_wp2
  go_ret
  obtain ⟨ao', cap', rfl, hO⟩ := own_of HO.out HD.out
  exact ⟨ao', cap', rfl, hO, HB.out⟩
set_option maxHeartbeats 400000 in
theorem rtrim_any (ao : Option Addr) (n cap : Nat) (l : List Nat) (w : World) (R : Row .u8 256 w ao n cap l) (hs : n <= 1000) :
  Calls Tryz.prog 55 #[.slice ao n cap] w fun e w' => ∃ m ao' cap', m <= n /\ e = .returned (.slice ao' m cap') /\ Own .u8 5 256 w.heap.size w' ao' m cap' (l.take m) /\ Tr (l.take m) /\ val 256 (l.take m) = val 256 l /\ Below w.heap.size w w' := by
 have HR : Hid (Row .u8 256 w ao n cap l) := R
 obtain ⟨hn, hcap, hmax, _, hdg, hrd⟩ := R
 unfold maxLen at hmax
 have HN : Hid (l.length = n) := hn
 have HD : Hid (Dg 256 l) := hdg
 clear hn hdg
 go_enter Tryz.func55, Tryz.ntmps55
 go_wp2
 go_loop [3] (fun t => ∃ m : Nat, m <= n /\ t = .int .i64 m /\ Hid (val 256 (l.take m) = val 256 l)) (fun t => (intOf t).toNat)
 case atStart => exact ⟨n, Nat.le_refl _, rfl, by unfold Hid; rw [List.take_of_length_le (by rw [HN.out]; exact Nat.le_refl _)]⟩
 case round =>
  obtain ⟨m, hm, rfl, hv⟩ := hrel
  have HR2 : Hid (Row .u8 256 (w.alloc (.cells #[] 5)) ao m cap (l.take m)) := (HR.out.take hm cap (by omega) (Nat.le_refl _)).below (Ba _ _)
  by_cases hz : m = 0
  ·subst hz
   go_wp2_with (at_builtin; refine appRow rfl _ _ 22 rfl w.heap.size 5 .u8 1 (by decide) Tryz.underlying22 info_u8 _ 0 [] rfl (own0 w .u8 5) 256 ao 0 cap (l.take 0) rfl HR2.out (by omega) (by simp) ?_; intro v' w1 hown hbel)
   simp only [Nat.zero_add, List.nil_append] at hown
   have hb := Bb (Ba w (.cells #[] 5)) hbel (Nat.le_refl _)
   have HO := hid hown
   have HB := hid hb
   clear hown hbel hb
   go_wp2
   go_ret
   obtain ⟨ao', cap', rfl, hO⟩ := own_of HO.out (HD.out.take 0)
   exact ⟨0, Nat.zero_le _, ao', cap', rfl, hO, .inl (by simp), hv.out, HB.out⟩
  ·obtain ⟨b, o, rfl, hl, hc⟩ := hrd.some (by rw [HN.out]; omega)
   have hc1 := hc (m - 1) (by rw [HN.out]; omega)
   obtain ⟨d, hd⟩ : ∃ d, d = l.getD (m - 1) 0 := ⟨_, rfl⟩
   rw [<- hd] at hc1
   have H1 : Hid (d = l.getD (m - 1) 0) := hd
   clear hd hc hrd
   have hpos : (0 : Int) < m := by omega
   by_cases hd0 : d = 0
   ·subst hd0
    go_wp2
    go_round
    case rel => exact ⟨m - 1, by omega, by go_num, by
     unfold Hid
     rw [<- hv.out]
     have := val_take_zero 256 l (m - 1) (by rw [HN.out]; omega) H1.out.symm
     rw [show m - 1 + 1 = m by omega] at this
     exact this.symm⟩
    case measure => simp [intOf]; omega
   ·have hne : ((d : Int) == 0) = false := by simp; omega
    go_wp2_with (at_builtin; refine appRow rfl _ _ 22 rfl w.heap.size 5 .u8 1 (by decide) Tryz.underlying22 info_u8 _ 0 [] rfl (own0 w .u8 5) 256 _ m cap (l.take m) rfl HR2.out (by omega) (by simp) ?_; intro v' w1 hown hbel)
    simp only [Nat.zero_add, List.nil_append] at hown
    have hb := Bb (Ba w (.cells #[] 5)) hbel (Nat.le_refl _)
    have HO := hid hown
    have HB := hid hb
    clear hown hbel hb
    go_wp2
    go_ret
    obtain ⟨ao', cap', rfl, hO⟩ := own_of HO.out (HD.out.take m)
    exact ⟨m, hm, ao', cap', rfl, hO, Tr.take_of (by rw [HN.out]; exact hm) (.inr (by rw [<- H1.out]; exact hd0)), hv.out, HB.out⟩
def b4 (d : Nat) : List Nat := [d % 256, d / 256 % 256, d / 65536 % 256, d / 16777216 % 256]
def bytesOf (l : List Nat) : List Nat := l.flatMap b4
theorem b4_val (d : Nat) (h : d < B32) : val 256 (b4 d) = d := by
 unfold B32 at h
 simp only [b4, val]; omega
theorem b4_dg (d : Nat) : Dg 256 (b4 d) := by
 intro x hx
 simp only [b4, List.mem_cons, List.not_mem_nil, or_false] at hx
 omega
theorem bytesOf_dg (l : List Nat) : Dg 256 (bytesOf l) := by
 intro x hx
 obtain ⟨d, _, hd⟩ := List.mem_flatMap.1 hx
 exact b4_dg d x hd
theorem bytesOf_val (l : List Nat) (h : Dg B32 l) : val 256 (bytesOf l) = val B32 l := by
 induction l with
 | nil => rfl
 | cons d l ih =>
  have h1 := ih (fun x hx => h x (by simp [hx]))
  have h2 : d < B32 := h d (by simp)
  show val 256 (b4 d ++ bytesOf l) = _
  have e : 256 ^ (b4 d).length = B32 := by simp [b4, B32]
  rw [val_append, h1, b4_val d h2, val_cons, e]
theorem bytesOf_snoc (l : List Nat) (k : Nat) (h : k < l.length) : bytesOf (l.take (k + 1)) = bytesOf (l.take k) ++ b4 (l.getD k 0) := by
 rw [take_snoc l k h]; simp [bytesOf]
set_option maxHeartbeats 1000000 in
theorem bytes_any (neg : Bool) (ao : Option Addr) (n cap : Nat) (l : List Nat) (w : World) (R : Row .u32 B32 w ao n cap l) (hs : n <= 100) :
  Calls Tryz.prog 54 #[.agg #[.bool neg, .slice ao n cap]] w fun e w' => ∃ m ao' cap' l', e = .returned (.slice ao' m cap') /\ m <= 4 * n /\ Own .u8 5 256 w.heap.size w' ao' m cap' l' /\ Tr l' /\ val 256 l' = val B32 l /\ Below w.heap.size w w' := by
 have HR := hid R
 obtain ⟨hn, hcap, hmax, _, hdg, hrd⟩ := R
 unfold maxLen at hmax
 have HN := hid hn
 have HD := hid hdg
 have HRd := hid hrd
 clear hn hdg hrd
 go_enter Tryz.func54, Tryz.ntmps54
 go_wp2
 go_loopw [3, 4, 5] (fun v i _j wr => ∃ m : Nat, m <= n /\ i = .int .i64 m /\ Hid (wr.ownsRow (w.heap.size + 1) 5 1 v (4 * m) (cs .u8 (bytesOf (l.take m))) /\ Below (w.heap.size + 1) (w.alloc (.cells #[.bool neg, .slice ao n cap] 55)) wr)) (fun _ i _ _ => n - (intOf i).toNat)
 case atStart => exact ⟨0, Nat.zero_le _, rfl, by simpa [bytesOf, cs] using World.ownsRow_nil _ _ _ _, Below.refl _ _⟩
 case round =>
  obtain ⟨m, hm, rfl, hH⟩ := hrel
  have hbox : wr.cell? ⟨w.heap.size, 1, none⟩ = some (.slice ao n cap) := (hH.out.2.cell (p := ⟨w.heap.size, 1, none⟩) (by simp)).trans (by simp)
  by_cases hlt : m < n
  ·obtain ⟨wo, rfl⟩ : ∃ wo : World, wo = wr := ⟨_, rfl⟩
   obtain ⟨b, o, rfl, hl, hc⟩ := HRd.out.some (by rw [HN.out]; omega)
   obtain ⟨d, hd⟩ : ∃ d, d = l.getD m 0 := ⟨_, rfl⟩
   have hdb : d < 4294967296 := by rw [hd]; exact HD.out.getD _ (by rw [HN.out]; omega)
   have HC : Hid (w.cell? ⟨b, o + m, none⟩ = some (.int .u32 d)) := by rw [hd]; exact hc m (by rw [HN.out]; omega)
   have HDm := hid hd
   clear hc hd
   go_wp2
   go_loopw [3, 5] (fun v j wr => ∃ k : Nat, k <= 4 /\ j = .int .i64 k /\ Hid (wr.ownsRow (w.heap.size + 1) 5 1 v (4 * m + k) (cs .u8 (bytesOf (l.take m) ++ (b4 d).take k)) /\ Below (w.heap.size + 1) (w.alloc (.cells #[.bool neg, .slice (some ⟨b, o, none⟩) n cap] 55)) wr)) (fun _ j _ => 4 - (intOf j).toNat)
   case atStart => exact ⟨0, by omega, rfl, by simpa using hH.out.1, hH.out.2⟩
   case round =>
    obtain ⟨k, hk, rfl, hI⟩ := hrel
    have hbox' : wr.cell? ⟨w.heap.size, 1, none⟩ = some (.slice (some ⟨b, o, none⟩) n cap) := (hI.out.2.cell (p := ⟨w.heap.size, 1, none⟩) (by simp)).trans (by simp)
    have hcell' : wr.cell? ⟨b, o + m, none⟩ = some (.int .u32 d) := (hI.out.2.cell (p := ⟨b, o + m, none⟩) (by simp; omega)).trans (by rw [World.cell?_alloc_past _ _ _ hl]; exact HC.out)
    have hsz : Hid (w.heap.size + 1 <= wr.heap.size) := by have := hI.out.2.size; unfold Hid; simpa using this
    clear hbox
    by_cases hk4 : k < 4
    ·obtain ⟨hI1, hI2⟩ := hI.out
     have HI1 := hid hI1
     have HI2 := hid hI2
     clear hI hI1 hI2
     have : k = 0 \/ k = 1 \/ k = 2 \/ k = 3 := by omega
     rcases this with rfl | rfl | rfl | rfl
     ·go_wp2_with (at_builtin; refine app1 rfl _ _ 22 rfl (w.heap.size + 1) 5 .u8 1 (by decide) Tryz.underlying22 info_u8 _ _ _ rfl (HI1.out.alloc _) ⟨wr.heap.size, 0, none⟩ 1 ((b4 d).getD 0 0) rfl ?c0 (by omega) (by have := hsz.out; simp; omega) ?_; rotate_right; intro g cap' w1 hown hbel)
      case c0 => rw [cell_new]; simp [b4]
      case roundEnd => exact ⟨⟨1, by omega, rfl, own_step hown (by omega) (by simp [b4]), (HI2.out.alloc hsz.out _).trans hbel⟩, by simp [intOf]⟩
     ·go_wp2_with (at_builtin; refine app1 rfl _ _ 22 rfl (w.heap.size + 1) 5 .u8 1 (by decide) Tryz.underlying22 info_u8 _ _ _ rfl (HI1.out.alloc _) ⟨wr.heap.size, 0, none⟩ 1 ((b4 d).getD 1 0) rfl ?c1 (by omega) (by have := hsz.out; simp; omega) ?_; rotate_right; intro g cap' w1 hown hbel)
      case c1 => rw [cell_new]; simp [b4]
      case roundEnd => exact ⟨⟨2, by omega, rfl, own_step hown (by omega) (by simp [b4]), (HI2.out.alloc hsz.out _).trans hbel⟩, by simp [intOf]⟩
     ·go_wp2_with (at_builtin; refine app1 rfl _ _ 22 rfl (w.heap.size + 1) 5 .u8 1 (by decide) Tryz.underlying22 info_u8 _ _ _ rfl (HI1.out.alloc _) ⟨wr.heap.size, 0, none⟩ 1 ((b4 d).getD 2 0) rfl ?c2 (by omega) (by have := hsz.out; simp; omega) ?_; rotate_right; intro g cap' w1 hown hbel)
      case c2 => rw [cell_new]; simp [b4]
      case roundEnd => exact ⟨⟨3, by omega, rfl, own_step hown (by omega) (by simp [b4]), (HI2.out.alloc hsz.out _).trans hbel⟩, by simp [intOf]⟩
     ·go_wp2_with (at_builtin; refine app1 rfl _ _ 22 rfl (w.heap.size + 1) 5 .u8 1 (by decide) Tryz.underlying22 info_u8 _ _ _ rfl (HI1.out.alloc _) ⟨wr.heap.size, 0, none⟩ 1 ((b4 d).getD 3 0) rfl ?c3 (by omega) (by have := hsz.out; simp; omega) ?_; rotate_right; intro g cap' w1 hown hbel)
      case c3 => rw [cell_new]; simp [b4]; omega
      case roundEnd => exact ⟨⟨4, by omega, rfl, own_step hown (by omega) (by simp [b4]), (HI2.out.alloc hsz.out _).trans hbel⟩, by simp [intOf]⟩
    ·obtain rfl : k = 4 := by omega
     go_wp2
     case roundEnd =>
      refine ⟨⟨m + 1, by omega, by go_num, ?_, hI.out.2⟩, by simp [intOf]; omega⟩
      have := hI.out.1
      rw [bytesOf_snoc l m (by rw [HN.out]; omega), <- HDm.out]
      exact this
  ·obtain rfl : m = n := by omega
   obtain ⟨ao', cap', hu, hO⟩ := own_of hH.out.1 (bytesOf_dg _)
   subst hu
   have HO := hid hO
   clear hO
   have hb0 : Hid (Below w.heap.size w wr) := (Ba w _).trans (hH.out.2.mono (Nat.le_succ _))
   go_wp2_with fail
   refine (rtrim_any ao' (4 * m) cap' _ wr HO.out.row (by omega)).mono ?_
   rintro e w1 ⟨m', ao2, cap2, hm', rfl, hO2, ht, hv, hb⟩
   have H2 := hid hO2
   have H3 := hid ht
   have H4 := hid hv
   have H5 := hid hb
   clear hO2 ht hv hb
   go_wp2
   go_ret
   refine ⟨m', ao2, cap2, _, rfl, hm', H2.out.base hb0.out.size, H3.out, ?_, Bt hb0.out H5.out⟩
   rw [H4.out, bytesOf_val _ (HD.out.take m), List.take_of_length_le (by rw [HN.out]; omega)]
end Go.Proofs.YtbkfinjajkjhaaaGreatDoor
