import Derived.Shelf.LaysM
import Derived.Shelf.Strconv.Itoa4
import Derived.Shelf.Strconv.Clone
import Derived.Test.YticimejfjjmikaaGreatDoorProg
import Derived.Test.YticimejfjjmikaaGreatDoorSG8
import Derived.Test.YticimejfjjmikaaGreatDoorE2
import Derived.Maps.OwnSet
import Derived.WalkSpells
import Derived.Test.YticimejfjjmikaaGreatDoorW20
import Derived.Test.YticimejfjjmikaaGreatDoorST4
import Derived.Deep.LoopGhost
import Derived.Deep.RegionWith
import Derived.Lib.SmallJoins
namespace Go.Proofs
open Go.Shelf
def Tryz.laysM173_ren : Go.Shelf.Ren := ⟨fun | 173 => 129 | 246 => 161 | 283 => 188 | 284 => 189 | 285 => 190 | 286 => 191 | 129 => 204 | 317 => 203 | 318 => 205 | 319 => 206 | 320 => 207 | 337 => 213 | 338 => 214 | n => n, fun | 2 => 2 | 3 => 3 | 9 => 9 | 4 => 4 | 171 => 233 | 0 => 0 | 53 => 43 | 37 => 123 | 5 => 5 | 173 => 236 | 212 => 250 | 51 => 163 | 20 => 20 | 213 => 251 | 46 => 197 | 232 => 264 | 233 => 265 | n => n, fun | 17 => 2 | 18 => 4 | 19 => 5 | n => n⟩
theorem Tryz.laysM173 : Go.Proofs.LaysM.n173 Tryz.prog Tryz.laysM173_ren := {
 mixed := by kernel_rfl
 f129 := Tryz.func204.trans (congrArg some (by kernel_rfl))
 f173 := Tryz.func129.trans (congrArg some (by kernel_rfl))
 f246 := Tryz.func161.trans (congrArg some (by kernel_rfl))
 f283 := Tryz.func188.trans (congrArg some (by kernel_rfl))
 f284 := Tryz.func189.trans (congrArg some (by kernel_rfl))
 f285 := Tryz.func190.trans (congrArg some (by kernel_rfl))
 f286 := Tryz.func191.trans (congrArg some (by kernel_rfl))
 f317 := Tryz.func203.trans (congrArg some (by kernel_rfl))
 f318 := Tryz.func205.trans (congrArg some (by kernel_rfl))
 f319 := Tryz.func206.trans (congrArg some (by kernel_rfl))
 f320 := Tryz.func207.trans (congrArg some (by kernel_rfl))
 f337 := Tryz.func213.trans (congrArg some (by kernel_rfl))
 f338 := Tryz.func214.trans (congrArg some (by kernel_rfl))
 t0 := Tryz.underlying0
 a0 := Tryz.isAgg0
 z0 := Tryz.sizeOf0
 v0 := Tryz.zeroValue0
 t2 := Tryz.underlying2
 a2 := Tryz.isAgg2
 z2 := Tryz.sizeOf2
 v2 := Tryz.zeroValue2
 t3 := Tryz.underlying3
 a3 := Tryz.isAgg3
 z3 := Tryz.sizeOf3
 v3 := Tryz.zeroValue3
 t4 := Tryz.underlying4
 a4 := Tryz.isAgg4
 z4 := Tryz.sizeOf4
 v4 := Tryz.zeroValue4
 t5 := Tryz.underlying5
 a5 := Tryz.isAgg5
 z5 := Tryz.sizeOf5
 v5 := Tryz.zeroValue5
 t9 := Tryz.underlying9
 a9 := Tryz.isAgg9
 z9 := Tryz.sizeOf9
 v9 := Tryz.zeroValue9
 t20 := Tryz.underlying20
 a20 := Tryz.isAgg20
 z20 := Tryz.sizeOf20
 v20 := Tryz.zeroValue20
 t37 := Tryz.underlying123
 a37 := Tryz.isAgg123
 z37 := Tryz.sizeOf123
 v37 := Tryz.zeroValue123
 t46 := Tryz.underlying197
 a46 := Tryz.isAgg197
 z46 := Tryz.sizeOf197
 v46 := Tryz.zeroValue197
 t51 := Tryz.underlying163
 a51 := Tryz.isAgg163
 z51 := Tryz.sizeOf163
 v51 := Tryz.zeroValue163
 t53 := Tryz.underlying43
 a53 := Tryz.isAgg43
 z53 := Tryz.sizeOf43
 v53 := Tryz.zeroValue43
 t171 := Tryz.underlying233
 a171 := Tryz.isAgg233
 z171 := Tryz.sizeOf233
 v171 := Tryz.zeroValue233
 t173 := Tryz.underlying236
 a173 := Tryz.isAgg236
 z173 := Tryz.sizeOf236
 v173 := Tryz.zeroValue236
 t212 := Tryz.underlying250
 a212 := Tryz.isAgg250
 z212 := Tryz.sizeOf250
 v212 := Tryz.zeroValue250
 t213 := Tryz.underlying251
 a213 := Tryz.isAgg251
 z213 := Tryz.sizeOf251
 t232 := Tryz.underlying264
 a232 := Tryz.isAgg264
 z232 := Tryz.sizeOf264
 v232 := Tryz.zeroValue264
 t233 := Tryz.underlying265
 a233 := Tryz.isAgg265
 z233 := Tryz.sizeOf265
 v233 := Tryz.zeroValue265
 g17 := by kernel_rfl
 g18 := by kernel_rfl
 g19 := by kernel_rfl
 i0 := by kernel_rfl
 i2 := by kernel_rfl
 i3 := by kernel_rfl
 i4 := by kernel_rfl
 i5 := by kernel_rfl
 i9 := by kernel_rfl
 i20 := by kernel_rfl
 i37 := by kernel_rfl
 i46 := by kernel_rfl
 i51 := by kernel_rfl
 i53 := by kernel_rfl
 i171 := by kernel_rfl
 i173 := by kernel_rfl
 i212 := by kernel_rfl
 i232 := by kernel_rfl
 i233 := by kernel_rfl
 m17 := by kernel_rfl
 m18 := by kernel_rfl
 m19 := by kernel_rfl }
def Tryz.laysM316_ren : Go.Shelf.Ren := ⟨fun | 316 => 114 | n => n, fun | 9 => 9 | 3 => 3 | 4 => 4 | 37 => 123 | 0 => 0 | 127 => 212 | 5 => 5 | n => n, fun | n => n⟩
theorem Tryz.laysM316 : Go.Proofs.LaysM.n316 Tryz.prog Tryz.laysM316_ren := {
 mixed := by kernel_rfl
 f316 := Tryz.func114.trans (congrArg some (by kernel_rfl))
 t0 := Tryz.underlying0
 a0 := Tryz.isAgg0
 z0 := Tryz.sizeOf0
 v0 := Tryz.zeroValue0
 t3 := Tryz.underlying3
 a3 := Tryz.isAgg3
 z3 := Tryz.sizeOf3
 v3 := Tryz.zeroValue3
 t4 := Tryz.underlying4
 a4 := Tryz.isAgg4
 z4 := Tryz.sizeOf4
 v4 := Tryz.zeroValue4
 t9 := Tryz.underlying9
 a9 := Tryz.isAgg9
 z9 := Tryz.sizeOf9
 v9 := Tryz.zeroValue9
 t37 := Tryz.underlying123
 a37 := Tryz.isAgg123
 z37 := Tryz.sizeOf123
 v37 := Tryz.zeroValue123
 t127 := Tryz.underlying212
 a127 := Tryz.isAgg212
 z127 := Tryz.sizeOf212
 v127 := Tryz.zeroValue212
 t5 := Tryz.underlying5
 a5 := Tryz.isAgg5
 z5 := Tryz.sizeOf5
 v5 := Tryz.zeroValue5
 i0 := by kernel_rfl
 i3 := by kernel_rfl
 i4 := by kernel_rfl
 i5 := by kernel_rfl
 i9 := by kernel_rfl
 i37 := by kernel_rfl
 i127 := by kernel_rfl }
end Go.Proofs
set_option linter.unusedVariables false
set_option linter.unusedSimpArgs false
set_option maxRecDepth 100000
namespace Go.Proofs.YticimejfjjmikaaGreatDoor
open Go.RowKit
theorem slaw : Maps.Keyed Tryz.prog 9 := Maps.string_keyed Tryz.underlying9
theorem skey {s : ByteArray} (hs : s.size <= 9223372036854775807) : keyOf Tryz.prog 9 (.string s) = some (.string s.data.toList) := WideMaps.keyOf_string_mk Tryz.underlying9 hs
theorem zint' (w : World) : (zeroValue 3).run Tryz.prog w = .ok (.int .i64 0) w := by kernel_rfl
theorem idM_app : ∀ (nm : List ByteArray) (s y : ByteArray), idM (nm ++ [s]) y = if idM nm y < nm.length then idM nm y else if s = y then nm.length else nm.length + 1
 | [], s, y => by simp [idM]
 | x :: l, s, y => by
  have ih := idM_app l s y
  rw [List.cons_append]
  unfold idM
  by_cases e : x = y
  ·rw [if_pos e, if_pos e, if_pos (by simp)]
  ·rw [if_neg e, if_neg e, ih]
   have hl : (x :: l).length = l.length + 1 := rfl
   rw [hl]
   by_cases h : idM l y < l.length
   ·rw [if_pos h, if_pos (show idM l y + 1 < l.length + 1 by omega)]
   ·rw [if_neg h, if_neg (show ¬ idM l y + 1 < l.length + 1 by omega)]
    by_cases h2 : s = y
    ·rw [if_pos h2, if_pos h2]
    ·rw [if_neg h2, if_neg h2]
def MapS (w : World) (Bm : Nat) (nm : List ByteArray) : Prop :=
 ∃ D, w.ownsMap (H := Unit) Tryz.prog 9 (plainElem Tryz.prog 3) Bm nm.length D /\ ∀ s : ByteArray, s.size <= 9223372036854775807 -> Maps.has D (.string s.data.toList) = decide (idM nm s < nm.length) /\ (idM nm s < nm.length -> D.atKey (.string s.data.toList) (.lit (.int .i64 0)) = .lit (.int .i64 ((idM nm s : Nat) : Int)))
section
variable {w w' : World} {Bm : Nat} {nm : List ByteArray} {s : ByteArray}
theorem MapS.lt (h : MapS w Bm nm) : Bm < w.heap.size := by obtain ⟨D, h1, _⟩ := h; exact h1.lt
theorem MapS.frame (h : MapS w Bm nm) (hb : w'.heap[Bm]? = w.heap[Bm]?) : MapS w' Bm nm := by
 obtain ⟨D, ⟨es, clock, h1, h2, h3, h4⟩, h5⟩ := h
 exact ⟨D, ⟨es, clock, hb.trans h1, h2, h3, h4⟩, h5⟩
theorem MapS.made (w : World) : MapS (w.alloc (.map #[] 0)) w.heap.size [] :=
 ⟨.map [], World.ownsMap_made w _ _ _, fun s hs => ⟨by simp [Maps.has], fun h => by simp at h⟩⟩
theorem MapS.look_ok (h : MapS w Bm nm) (hs : s.size <= 9223372036854775807) : ∃ c : Int, (Instr.lookup 126 (.map (some Bm)) (.string s) true).run Tryz.prog w = .ok (.tuple #[.int .i64 c, .bool (decide (idM nm s < nm.length))]) w /\ (idM nm s < nm.length -> c = (idM nm s : Nat)) := by
 obtain ⟨D, h1, h3⟩ := h
 obtain ⟨v, ps, hrun, hv⟩ := h1.look_ok slaw Tryz.underlying126 (zint' w) (plainElem_int Tryz.underlying3 (a := 0) (by decide)) (skey hs)
 obtain ⟨c, rfl, hc, _⟩ := plainElem_int_inv Tryz.underlying3 hv
 refine ⟨c, by rw [hrun, (h3 s hs).1], fun hl => ?_⟩
 have := (h3 s hs).2 hl
 have hc1 := congrArg Prod.fst hc
 simp only at hc1
 rw [this] at hc1
 injection hc1 with hc1
 injection hc1 with _ hc1
 exact hc1.symm
theorem MapS.store (h : MapS w Bm nm) (hs : s.size <= 9223372036854775807) (hm : ¬ idM nm s < nm.length) (hl : nm.length <= 1000000000) : ∃ w', (Instr.mapUpdate 126 (.map (some Bm)) (.string s) (.int .i64 (nm.length : Nat))).run Tryz.prog w = .ok () w' /\ MapS w' Bm (nm ++ [s]) /\ w.grownBy w' (some Bm) := by
 obtain ⟨D, h1, h3⟩ := h
 obtain ⟨w', hrun, ho, ht⟩ := h1.store slaw Tryz.underlying126 (by unfold maxLen; omega) (skey hs) (plainElem_int Tryz.underlying3 (a := (nm.length : Nat)) (WalkArith.wf_i64 (by omega)))
 refine ⟨w', hrun, ⟨_, by rw [List.length_append]; exact ho, fun y hy => ?_⟩, ht.grown⟩
 rw [idM_app, List.length_append, List.length_singleton]
 by_cases e : s = y
 ·subst e
  rw [if_neg hm, if_pos rfl]
  refine ⟨?_, fun _ => ?_⟩
  ·rw [Maps.has_put_same h1.isMap (slaw.key (skey hs))]; simp
  ·rw [Maps.atKey_put_same h1.isMap (slaw.key (skey hs))]
 ·have hne : (Lit.string y.data.toList) ≠ .string s.data.toList := fun e' => e (by
   injection e' with e'
   have : y.data = s.data := by rw [<- Array.toList_inj]; exact e'
   exact (ByteArray.ext this).symm)
  obtain ⟨g1, g2⟩ := h3 y hy
  rw [if_neg e]
  refine ⟨?_, fun hmem => ?_⟩
  ·rw [Maps.has_put_other hne, g1]
   by_cases h : idM nm y < nm.length
   ·rw [if_pos h, decide_eq_true h, decide_eq_true (by omega)]
   ·rw [if_neg h, decide_eq_false h, decide_eq_false (by omega)]
  ·by_cases h : idM nm y < nm.length
   ·rw [if_pos h, Maps.atKey_put_other hne, g2 h]
   ·rw [if_neg h] at hmem; omega
end
structure NPo (B gp gm : Nat) (vT : Value) (nm mq : List ByteArray) (w : World) : Prop where
 box : w.heap[gp]? = some (.cells #[.map (some gm), vT] 128 (0, 0))
 map : MapS w gm mq
 own : w.ownsRow B 9 1 vT nm.length (sz nm)
 ne : gp ≠ gm
 np : vT.ownBlock ≠ some gp
 nq : vT.ownBlock ≠ some gm
 bp : B <= gp
 bm : B <= gm
def NPf (gp gm : Nat) (vT : Value) : Nat -> Prop := fun b => b = gp \/ b = gm \/ vT.ownBlock = some b
def NP (B : Nat) (vn : Value) (nm : List ByteArray) (F : Nat -> Prop) (w : World) : Prop := ∃ gp gm vT, vn = .pointer (some ⟨gp, 0, none⟩) /\ NPo B gp gm vT nm nm w /\ ∀ b, F b ↔ NPf gp gm vT b
theorem NPo.ge {B gp gm : Nat} {vT : Value} {nm mq : List ByteArray} {w : World} (h : NPo B gp gm vT nm mq w) : ∀ b, NPf gp gm vT b -> B <= b /\ b < w.heap.size := by
 rintro b (rfl | rfl | e)
 ·exact ⟨h.bp, (Array.getElem?_eq_some_iff.1 h.box).1⟩
 ·exact ⟨h.bm, h.map.lt⟩
 ·exact h.own.lt b e
theorem NPo.keep {B gp gm : Nat} {vT : Value} {nm mq : List ByteArray} {w w' : World} (h : NPo B gp gm vT nm mq w) (hb : ∀ b, NPf gp gm vT b -> w'.heap[b]? = w.heap[b]?) : NPo B gp gm vT nm mq w' :=
 ⟨(hb gp (.inl rfl)).trans h.box, h.map.frame (hb gm (.inr (.inl rfl))), own_at h.own (fun b e => hb b (.inr (.inr e))), h.ne, h.np, h.nq, h.bp, h.bm⟩
theorem NPo.on {B gp gm : Nat} {vT : Value} {nm mq : List ByteArray} {w w' : World} (h : NPo B gp gm vT nm mq w) (hb : Below w.heap.size w w') : NPo B gp gm vT nm mq w' := h.keep (fun b e => hb.block b (h.ge b e).2)
theorem NPo.turn {B gp gm : Nat} {vT : Value} {nm mq mq' : List ByteArray} {w w' : World} (h : NPo B gp gm vT nm mq w) (hg : w.grownBy w' (some gm)) (hm : MapS w' gm mq') : NPo B gp gm vT nm mq' w' := by
 have hk : ∀ b, b < w.heap.size -> b ≠ gm -> w'.heap[b]? = w.heap[b]? := fun b hb hne => hg.block b hb (fun e => hne (Option.some.inj e))
 exact ⟨(hk gp (h.ge gp (.inl rfl)).2 h.ne).trans h.box, hm, own_at h.own (fun b e => hk b (h.ge b (.inr (.inr e))).2 (fun e' => h.nq (by rw [e, e']))), h.ne, h.np, h.nq, h.bp, h.bm⟩
theorem NPo.push {B gp gm : Nat} {vT : Value} {nm nm' mq : List ByteArray} {w w' : World} {g cap n : Nat} (h : NPo B gp gm vT nm mq w) (hn : nm'.length = n) (ho : w'.ownsRow B 9 1 (.slice (some ⟨g, 0, none⟩) n cap) n (sz nm')) (hg : w.grownBy w' vT.ownBlock) (hl : vT.ownBlock = some g \/ g = w.heap.size) :
  NPo B gp gm (.slice (some ⟨g, 0, none⟩) n cap) nm' mq (w'.setCell ⟨gp, 1, none⟩ (.slice (some ⟨g, 0, none⟩) n cap)) /\ w'.cell? ⟨gp, 1, none⟩ = some vT /\ w'.frozen? ⟨gp, 1, none⟩ = false := by
 subst hn
 have hk : ∀ b, b < w.heap.size -> vT.ownBlock ≠ some b -> w'.heap[b]? = w.heap[b]? := fun b hb hne => hg.block b hb (fun e => hne e.symm)
 have hp := h.ge gp (.inl rfl)
 have hm := h.ge gm (.inr (.inl rfl))
 have hbx := (hk gp hp.2 h.np).trans h.box
 have hgp : g ≠ gp := by
  rcases hl with e | e
  ·exact fun e' => h.np (by rw [e, e'])
  ·omega
 have hgm : g ≠ gm := by
  rcases hl with e | e
  ·exact fun e' => h.nq (by rw [e, e'])
  ·omega
 have hset : ∀ b, b ≠ gp -> (w'.setCell ⟨gp, 1, none⟩ (.slice (some ⟨g, 0, none⟩) nm'.length cap)).heap[b]? = w'.heap[b]? := fun b hne => Below.heap_setCell _ _ _ _ hne
 refine ⟨⟨?_, h.map.frame ((hset gm (fun e => h.ne e.symm)).trans (hk gm hm.2 h.nq)), own_at ho (fun b e => hset b (fun e' => hgp ((Option.some.inj e).trans e'))), h.ne, fun e => hgp (Option.some.inj e), fun e => hgm (Option.some.inj e), h.bp, h.bm⟩, blk_cell hbx 1, blk_free hbx 1⟩
 rw [blk_set (i := 1) hbx]; rfl
theorem NP.ge {B : Nat} {vn : Value} {nm : List ByteArray} {F : Nat -> Prop} {w : World} (h : NP B vn nm F w) : ∀ b, F b -> B <= b /\ b < w.heap.size := by
 obtain ⟨gp, gm, vT, _, h1, h2⟩ := h
 exact fun b e => h1.ge b ((h2 b).1 e)
theorem NP.keep {B : Nat} {vn : Value} {nm : List ByteArray} {F : Nat -> Prop} {w w' : World} (h : NP B vn nm F w) (hb : ∀ b, F b -> w'.heap[b]? = w.heap[b]?) : NP B vn nm F w' := by
 obtain ⟨gp, gm, vT, h0, h1, h2⟩ := h
 exact ⟨gp, gm, vT, h0, h1.keep (fun b e => hb b ((h2 b).2 e)), h2⟩
theorem NP.ptr {B : Nat} {vn : Value} {nm : List ByteArray} {F : Nat -> Prop} {w : World} (h : NP B vn nm F w) : ∃ gn, vn = .pointer (some ⟨gn, 0, none⟩) := by
 obtain ⟨gp, gm, vT, h0, _⟩ := h
 exact ⟨gp, h0⟩
theorem NP.weak {B B' : Nat} {vn : Value} {nm : List ByteArray} {F : Nat -> Prop} {w : World} (h : NP B vn nm F w) (hb : B' <= B) : NP B' vn nm F w := by
 obtain ⟨gp, gm, vT, h0, h1, h2⟩ := h
 refine ⟨gp, gm, vT, h0, ⟨h1.box, h1.map, ⟨h1.own.1, ?_⟩, h1.ne, h1.np, h1.nq, Nat.le_trans hb h1.bp, Nat.le_trans hb h1.bm⟩, h2⟩
 rcases h1.own.2 with e | ⟨g, cap, cur, e1, e2, e3⟩
 ·exact .inl e
 ·exact .inr ⟨g, cap, cur, e1, Nat.le_trans hb e2, e3⟩
def NPPost (B : Nat) (vn : Value) (F : Nat -> Prop) (w : World) (nm' : List ByteArray) (w' : World) : Prop := ∃ F', NP B vn nm' F' w' /\ (∀ b, F' b -> F b \/ w.heap.size <= b) /\ Mod F w w'
theorem pnames_any (w : World) : Calls Tryz.prog 31 #[] w fun e w' => ∃ vn F, e = .returned vn /\ NP w.heap.size vn [] F w' /\ Below w.heap.size w w' := by
 have hm := MapS.made w
 have b1 := Ba w (.map #[] 0)
 have b2 := Ba (w.alloc (.map #[] 0)) (.cells #[.map (some w.heap.size), .slice none 0 0] 128)
 have hx := blk_new (w.alloc (.map #[] 0)) #[.map (some w.heap.size), .slice none 0 0] 128
 rw [size_alloc] at hx
 have HM := hid (hm.frame (b2.block w.heap.size (by rw [size_alloc]; omega)))
 have HB := hid (Bt b1 b2)
 have HX := hid hx
 clear hm b1 b2 hx
 have hmm := @run_makeMap Tryz.prog
 go_enter Tryz.func31, Tryz.ntmps31
 go_wp2
 go_ret
 refine ⟨_, NPf (w.heap.size + 1) w.heap.size (.slice none 0 0), rfl, ⟨w.heap.size + 1, w.heap.size, .slice none 0 0, rfl, ⟨HX.out, HM.out, World.ownsRow_nil _ _ _ _, by omega, by simp [Value.ownBlock], by simp [Value.ownBlock], by omega, by omega⟩, fun b => Iff.rfl⟩, HB.out⟩
theorem clone_str (s : ByteArray) (w : World) (hs : s.size <= 1000000000) : Calls Tryz.prog 64 #[.string s] w fun e w' => e = .returned (.string s) /\ Below w.heap.size w w' := by
 have C := hid (Any.stringslite_Clone (P := Tryz.prog) Tryz.laysM316 s w (by omega))
 go_enter Tryz.func64, Tryz.ntmps64
 go_wp2_with (go_at_call 114; (refine C.out.mono ?_); rintro e W1 ⟨rfl, b1⟩)
 go_ret
 exact ⟨rfl, b1⟩
section
variable {B : Nat} {vn : Value} {nm : List ByteArray} {F : Nat -> Prop}
set_option maxHeartbeats 4000000 in
theorem pid_any (s : ByteArray) (w : World) (h : NP B vn nm F w) (hB : B <= w.heap.size) (hl : nm.length <= 1000000) (hs : s.size <= 1000000) : Calls Tryz.prog 32 #[vn, .string s] w fun e w' => e = .returned (.int .i64 (idM nm s : Nat)) /\ NPPost B vn F w (idL nm s) w' := by
 obtain ⟨gp, gm, vT, rfl, hp, hF⟩ := h
 have HP := hid hp
 have HFF := hid hF
 have c0 : w.cell? ⟨gp, 0, none⟩ = some (.map (some gm)) := blk_cell hp.box 0
 obtain ⟨c, hrun, hc⟩ := hp.map.look_ok (s := s) (by omega)
 by_cases hm : idM nm s < nm.length
 ·obtain rfl := hc hm
  rw [decide_eq_true hm] at hrun
  have HI : Hid (idL nm s = nm) := by unfold Hid idL; rw [if_pos hm]
  have fin : Hid (NPPost B (.pointer (some ⟨gp, 0, none⟩)) F w (idL nm s) w) := by
   unfold Hid
   rw [HI.out]
   exact ⟨F, ⟨gp, gm, vT, rfl, HP.out, HFF.out⟩, fun b e => .inl e, Mod.refl _ _⟩
  obtain ⟨k, hk⟩ : ∃ k, k = idM nm s := ⟨_, rfl⟩
  rw [<- hk] at hrun ⊢
  clear hp hF hc hm HI hk hB hl
  have hqm : ∀ (wx : World) (r : Option Nat), (binOp .eql 126 (.map r) (.map none)).run Tryz.prog wx = .ok (.bool r.isNone) wx := fun wx r => run_eql_map_nil wx _ _ _ r Tryz.underlying126
  go_enter Tryz.func32, Tryz.ntmps32
  go_wp2
  go_ret
  exact ⟨rfl, fin.out⟩
 ·rw [decide_eq_false hm] at hrun
  have HI : Hid (idL nm s = nm ++ [s] /\ idM nm s = nm.length) := by
   refine ⟨by unfold idL; rw [if_neg hm], ?_⟩
   have := idM_le nm s
   omega
  obtain ⟨aT, cT, hvT, hTf, hTm⟩ := slice_form hp.own
  subst hvT
  have c1 : w.cell? ⟨gp, 1, none⟩ = some (.slice aT nm.length cT) := blk_cell hp.box 1
  have HM := hid hm
  have HC : Hid (∀ W, Below w.heap.size w W -> Calls Tryz.prog 64 #[.string s] W fun e w' => e = .returned (.string s) /\ Below W.heap.size W w') := fun W _ => clone_str s W (by omega)
  have HS := hid hs
  have HBB := hid hB
  rw [HI.out.1, HI.out.2]
  obtain ⟨n, hn⟩ : ∃ n, n = nm.length := ⟨_, rfl⟩
  have HN := hid hn
  rw [<- hn] at c1 hTf hl HP HFF ⊢
  clear hp hF hc hm hs hB hn HI
  have hqm : ∀ (wx : World) (r : Option Nat), (binOp .eql 126 (.map r) (.map none)).run Tryz.prog wx = .ok (.bool r.isNone) wx := fun wx r => run_eql_map_nil wx _ _ _ r Tryz.underlying126
  go_enter Tryz.func32, Tryz.ntmps32
  go_wp2_with (first
   | (go_at_call 64; (refine (HC.out w (Below.refl _ _)).mono ?_); rintro e W1 ⟨rfl, b1⟩; have HB1 := hid b1; have HP1 := hid (HP.out.on b1); have d0 : W1.cell? ⟨gp, 0, none⟩ = some (.map (some gm)) := blk_cell HP1.out.box 0; obtain ⟨W2, hst, hm2, hg2⟩ := HP1.out.map.store (s := s) (by have := HS.out; omega) HM.out (by rw [<- HN.out]; omega); rw [<- HN.out] at hst; have HP2 := hid (HP1.out.turn hg2 hm2); have HG2 := hid hg2; have d1 : W2.cell? ⟨gp, 1, none⟩ = some (.slice aT n cT) := blk_cell HP2.out.box 1; have HP3 := hid (HP2.out.on (Ba W2 (.cells #[.string s] 9))); have ho3 := HP3.out.own; rw [<- HN.out] at ho3; have HO3 := hid ho3; have HC3 : Hid ((W2.alloc (.cells #[.string s] 9)).cell? ⟨W2.heap.size, 0, none⟩ = some (.string s)) := blk_cell (blk_new W2 #[.string s] 9) 0; have HZ3 : Hid (B <= (W2.alloc (.cells #[.string s] 9)).heap.size) := Nat.le_trans HBB.out (Nat.le_trans b1.size (Nat.le_trans hg2.size (Ba W2 _).size)); clear b1 hm2 hg2 ho3)
   | (at_builtin; refine appS rfl _ _ 71 rfl B 9 Tryz.underlying71 info_str _ n nm rfl HO3.out W2.heap.size 1 s rfl HC3.out (by omega) HZ3.out ?_; intro g1 cap1 w4 ho4 hg4 hl4 hlt4; obtain ⟨h5, e1, f1⟩ := HP3.out.push (n := n + 1) (nm' := nm ++ [s]) (by rw [List.length_append, <- HN.out]; rfl) ho4 hg4 hl4; have HP5 := hid h5; have HG4 := hid hg4; have HL4 := hid hl4; clear ho4 hg4 hl4 h5))
  go_ret
  have k1 := HB1.out.size
  have k2 := HG2.out.size
  have hfin : NPPost B (.pointer (some ⟨gp, 0, none⟩)) F w (nm ++ [s]) (w4.setCell ⟨gp, 1, none⟩ (.slice (some ⟨g1, 0, none⟩) (n + 1) cap1)) := by
   refine ⟨NPf gp gm (.slice (some ⟨g1, 0, none⟩) (n + 1) cap1), ⟨gp, gm, _, rfl, HP5.out, fun b => Iff.rfl⟩, fun b hb => ?_, ?_⟩
   ·rcases hb with e | e | e
    ·exact .inl ((HFF.out b).2 (.inl e))
    ·exact .inl ((HFF.out b).2 (.inr (.inl e)))
    ·have e' : g1 = b := Option.some.inj e
     rcases HL4.out with e2 | e2
     ·exact .inl ((HFF.out b).2 (.inr (.inr (by rw [<- e']; exact e2))))
     ·rw [size_alloc] at e2; exact .inr (by omega)
   ·have m1 := Mod.of_below F HB1.out
    have m2 := m1.grown HG2.out (fun k e => .inl ((HFF.out k).2 (by have e' : gm = k := Option.some.inj e; rw [<- e']; exact .inr (.inl rfl))))
    have m3 : Mod F w (W2.alloc (.cells #[.string s] 9)) := m2.trans (Mod.of_below F (Ba W2 (.cells #[.string s] 9))) (fun _ _ e => e)
    have m4 := m3.grown HG4.out (fun k e => .inl ((HFF.out k).2 (.inr (.inr e))))
    exact m4.setCell (p := ⟨gp, 1, none⟩) (.inl ((HFF.out gp).2 (.inl rfl))) _
  exact ⟨rfl, hfin⟩
theorem NPo.get {gp gm : Nat} {vT : Value} {nm mq : List ByteArray} {w : World} (h : NPo B gp gm vT nm mq w) {i : Nat} (hi : i < nm.length) : ∃ gl cap, vT = .slice (some ⟨gl, 0, none⟩) nm.length cap /\ nm.length <= cap /\ cap <= 9223372036854775807 /\ w.cell? ⟨gl, i, none⟩ = some (.string (nm.getD i ByteArray.empty)) := by
 rcases h.own.2 with ⟨_, h1⟩ | ⟨gl, cap, cur, h1, h2, h3, h4, h5, h6, h7⟩
 ·omega
 ·unfold maxLen at h5
  refine ⟨gl, cap, h1, h4, h5, ?_⟩
  have e : (sz nm)[i]? = some (.string (nm.getD i ByteArray.empty)) := by
   unfold sz
   rw [List.getElem?_map, List.getD_eq_getElem?_getD, List.getElem?_eq_getElem hi]; rfl
  rw [blk_cell h3, <- e, <- h7, List.getElem?_take, if_pos (by omega)]
  simp
theorem ptext_any (n : Int) (hn : Z64 n) (w : World) (h : NP B vn nm F w) (hl : nm.length <= 1000000) : Calls Tryz.prog 165 #[vn, .int .i64 n] w fun e w' => e = .returned (.tuple #[.string (if 0 <= n /\ n < nm.length then nm.getD n.toNat ByteArray.empty else ByteArray.empty), .bool (decide (0 <= n) && decide (n < nm.length))]) /\ Below w.heap.size w w' := by
 obtain ⟨gp, gm, vT, rfl, hp, hF⟩ := h
 by_cases h0 : n < 0
 ·rw [if_neg (by omega), decide_eq_false (by omega : ¬ 0 <= n)]
  have d0 : decide (n < 0) = true := decide_eq_true h0
  clear hp hF hl hn
  go_enter Tryz.func165, Tryz.ntmps165
  go_wp2
  go_ret2
  exact ⟨rfl, Below.refl _ _⟩
 have d0 : decide (n < 0) = false := decide_eq_false h0
 obtain ⟨k, rfl⟩ : ∃ k : Nat, n = (k : Int) := ⟨n.toNat, by omega⟩
 by_cases h1 : k < nm.length
 ·obtain ⟨gl, cap, rfl, hf, hm, hc⟩ := hp.get h1
  have c1 : w.cell? ⟨gp, 1, none⟩ = some (.slice (some ⟨gl, 0, none⟩) nm.length cap) := blk_cell hp.box 1
  rw [if_pos (by omega), decide_eq_true (by omega : (0 : Int) <= (k : Int)), decide_eq_true (by omega : (k : Int) < nm.length), Int.toNat_natCast]
  obtain ⟨m, hmm⟩ : ∃ m, m = nm.length := ⟨_, rfl⟩
  rw [<- hmm] at c1 h1 hf hl
  obtain ⟨t, ht⟩ : ∃ t, t = nm.getD k ByteArray.empty := ⟨_, rfl⟩
  rw [<- ht] at hc ⊢
  clear hp hF hmm ht h0 hn
  go_enter Tryz.func165, Tryz.ntmps165
  go_wp2
  go_ret2
  exact ⟨rfl, Below.refl _ _⟩
 ·obtain ⟨aT, cT, hvT, hTf, hTm⟩ := slice_form hp.own
  subst hvT
  have c1 : w.cell? ⟨gp, 1, none⟩ = some (.slice aT nm.length cT) := blk_cell hp.box 1
  rw [if_neg (by omega), decide_eq_true (by omega : (0 : Int) <= (k : Int)), decide_eq_false (by omega : ¬ (k : Int) < nm.length)]
  obtain ⟨m, hmm⟩ : ∃ m, m = nm.length := ⟨_, rfl⟩
  rw [<- hmm] at c1 h1 hTf hl
  have h2 : m <= k := by omega
  clear hp hF hmm h0 hn
  go_enter Tryz.func165, Tryz.ntmps165
  go_wp2
  go_ret2
  exact ⟨rfl, Below.refl _ _⟩
end
section
variable {B : Nat} {v : Value} {N : Int} {F : Nat -> Prop} {os : List Ob}
theorem ph_used {w : World} (h : PH B v N (wordsL os) F w) : usedL os <= 4194304 := by
 have hbd := h.bd
 rw [wordsL_length] at hbd
 omega
end
theorem below_drew (w : World) : Below w.heap.size w w.drew := ⟨rfl, rfl, rfl, Nat.le_refl _, fun _ _ => rfl⟩
def TabsS (w : World) : Prop := Tabs w /\ Lib.TabIs Tryz.prog w "internal/strconv.uint64pow10" .u64 Lib.pow10Tab
theorem TabsS.below {w w' : World} (h : TabsS w) (hb : Below w.heap.size w w') : TabsS w' := by
 refine ⟨Tabs.below h.1 hb, ?_⟩
 cases hg : Tryz.prog.globalNamed "internal/strconv.uint64pow10" with
 | none =>
  have := h.2
  unfold Lib.TabIs World.var? at this
  rw [hg] at this
  cases this
 | some g => exact Joins.tab_stays hg h.2 hb (Nat.le_refl _)
structure PN (B : Nat) (v vn : Value) (N : Int) (os : List Ob) (nm : List ByteArray) (F : Nat -> Prop) (w : World) : Prop where
 ok : ∃ F1 F2, PH B v N (wordsL os) F1 w /\ NP B vn nm F2 w /\ (∀ b, F1 b -> ¬ F2 b) /\ (∀ b, F b ↔ F1 b \/ F2 b)
 fine : OsOk os
def PNPost (B : Nat) (v vn : Value) (N : Int) (F : Nat -> Prop) (w : World) (os' : List Ob) (nm' : List ByteArray) (w' : World) : Prop := ∃ F', PN B v vn N os' nm' F' w' /\ (∀ b, F' b -> F b \/ w.heap.size <= b) /\ Mod F w w'
section
variable {B : Nat} {v vn : Value} {N : Int} {os : List Ob} {nm : List ByteArray} {F : Nat -> Prop} {w w' : World}
theorem PN.ge (h : PN B v vn N os nm F w) : ∀ b, F b -> B <= b /\ b < w.heap.size := by
 obtain ⟨F1, F2, h1, h2, h3, h4⟩ := h.ok
 exact fun b hb => ((h4 b).1 hb).elim (h1.ge b) (h2.ge b)
theorem PN.keep (h : PN B v vn N os nm F w) (hb : ∀ b, F b -> w'.heap[b]? = w.heap[b]?) : PN B v vn N os nm F w' := by
 obtain ⟨F1, F2, h1, h2, h3, h4⟩ := h.ok
 exact ⟨⟨F1, F2, h1.keep (fun b e => hb b ((h4 b).2 (.inl e))), h2.keep (fun b e => hb b ((h4 b).2 (.inr e))), h3, h4⟩, h.fine⟩
theorem PN.on (h : PN B v vn N os nm F w) (hb : Below w.heap.size w w') : PN B v vn N os nm F w' := h.keep (fun b e => hb.block b (h.ge b e).2)
theorem PN.ptrs (h : PN B v vn N os nm F w) : ∃ gh gp, v = .pointer (some ⟨gh, 0, none⟩) /\ vn = .pointer (some ⟨gp, 0, none⟩) := by
 obtain ⟨F1, F2, h1, h2, h3, h4⟩ := h.ok
 obtain ⟨gh, e1⟩ := h1.ptr
 obtain ⟨gp, e2⟩ := h2.ptr
 exact ⟨gh, gp, e1, e2⟩
theorem PN.used (h : PN B v vn N os nm F w) : Calls Tryz.prog 48 #[v] w fun e w' => e = .returned (.int .i64 (usedL os : Nat)) /\ Below w.heap.size w w' := by
 obtain ⟨F1, F2, h1, h2, h3, h4⟩ := h.ok
 have := pused_any w h1
 rw [wordsL_length] at this
 exact this
theorem PN.bd (h : PN B v vn N os nm F w) : usedL os <= 4194304 /\ N <= 4194304 := by
 obtain ⟨F1, F2, h1, h2, h3, h4⟩ := h.ok
 have hb := h1.bd
 exact ⟨ph_used h1, hb.2⟩
theorem PNPost.same (h : PN B v vn N os nm F w) (hb : Below w.heap.size w w') : PNPost B v vn N F w os nm w' := ⟨F, h.on hb, fun b e => .inl e, Mod.of_below _ hb⟩
theorem pn_new {W0 W1 W2 : World} {F1 F2 : Nat -> Prop} (h1 : PH W0.heap.size v N [] F1 W1) (b1 : Below W0.heap.size W0 W1) (h2 : NP W1.heap.size vn [] F2 W2) (b2 : Below W1.heap.size W1 W2) : PN W0.heap.size v vn N [] [] (fun b => F1 b \/ F2 b) W2 := by
 refine ⟨⟨F1, F2, h1.keep (fun b e => b2.block b (h1.ge b e).2), h2.weak b1.size, fun b e1 e2 => ?_, fun b => Iff.rfl⟩, ⟨fun x hx => (by cases hx), fun x hx => (by cases hx), fun x hx => (by cases hx)⟩⟩
 have := (h1.ge b e1).2
 have := (h2.ge b e2).1
 omega
theorem pn_id (h : PN B v vn N os nm F w) (s : ByteArray) (hB : B <= w.heap.size) (hl : nm.length <= 1000000) (hs : s.size <= 1000000) :
  Calls Tryz.prog 32 #[vn, .string s] w fun e w' => e = .returned (.int .i64 (idM nm s : Nat)) /\ PNPost B v vn N F w os (idL nm s) w' := by
 obtain ⟨F1, F2, h1, h2, h3, h4⟩ := h.ok
 refine (pid_any s w h2 hB hl hs).mono ?_
 rintro e w' ⟨rfl, F', p1, p2, p4⟩
 refine ⟨rfl, fun b => F1 b \/ F' b, ⟨⟨F1, F', h1.keep (fun b e => p4.block b (h1.ge b e).2 (h3 b e)), p1, fun b e1 e2 => ?_, fun b => Iff.rfl⟩, h.fine⟩, fun b e => ?_, p4.mono (fun b _ e => (h4 b).2 (.inr e))⟩
 ·rcases p2 b e2 with e | e
  ·exact h3 b e1 e
  ·have := (h1.ge b e1).2; omega
 ·rcases e with e | e
  ·exact .inl ((h4 b).2 (.inl e))
  ·rcases p2 b e with e | e
   ·exact .inl ((h4 b).2 (.inr e))
   ·exact .inr e
theorem PN.heap {os' : List Ob} {F1 F2 : Nat -> Prop} (h1 : PH B v N (wordsL os) F1 w) (h2 : NP B vn nm F2 w) (h3 : ∀ b, F1 b -> ¬ F2 b) (h4 : ∀ b, F b ↔ F1 b \/ F2 b) (hp : PPost B v N F1 w (wordsL os') w') (ho : OsOk os') : PNPost B v vn N F w os' nm w' := by
 obtain ⟨F', p1, p2, p4⟩ := hp
 refine ⟨fun b => F' b \/ F2 b, ⟨⟨F', F2, p1, h2.keep (fun b e => p4.block b (h2.ge b e).2 (fun e1 => h3 b e1 e)), fun b e1 e2 => ?_, fun b => Iff.rfl⟩, ho⟩, fun b e => ?_, p4.mono (fun b _ e => (h4 b).2 (.inl e))⟩
 ·rcases p2 b e1 with e | e
  ·exact h3 b e e2
  ·have := (h2.ge b e2).2; omega
 ·rcases e with e | e
  ·rcases p2 b e with e | e
   ·exact .inl ((h4 b).2 (.inl e))
   ·exact .inr e
  ·exact .inl ((h4 b).2 (.inr e))
theorem pn_alloc (h : PN B v vn N os nm F w) (kind : Int) (hk : Z64 kind) (ao : Option Addr) (n cap : Nat) (fl : List Int) (R : URow w ao n cap fl) (hB : B <= w.heap.size) (ha : ∀ a, ao = some a -> ¬ F a.block) (hsm : n <= 1000000) (ho : OsOk (allocO os N kind fl)) :
  Calls Tryz.prog 47 #[v, .int .i64 kind, .slice ao n cap] w fun e w' => e = .returned (.tuple #[.int .u64 (allocM os N kind fl).1, .int .i64 (allocM os N kind fl).2]) /\ PNPost B v vn N F w (allocO os N kind fl) nm w' := by
 obtain ⟨F1, F2, h1, h2, h3, h4⟩ := h.ok
 refine (palloc_any h.fine kind hk ao n cap fl w h1 R hB (fun a e hf => ha a e ((h4 _).2 (.inl hf))) hsm).mono ?_
 rintro e w' ⟨rfl, hp⟩
 exact ⟨rfl, PN.heap h1 h2 h3 h4 hp ho⟩
end
def ShowPost (os : List Ob) (nm : List ByteArray) (rts : List Int) (w : World) (e : Ending) (w' : World) : Prop :=
 ∃ a1 n1 c1 a2 n2 c2 W ns rs, e = .returned (GVal a1 n1 c1 a2 n2 c2) /\ Told (wordD os nm) rts W ns rs /\ Fine ns rs 300001 /\ GIs w' a1 n1 c1 a2 n2 c2 (canonN ns rs).1 (canonN ns rs).2 /\ GKeep w.heap.size w' a1 n1 c1 a2 n2 c2 (canonN ns rs).1 (canonN ns rs).2 /\ Below w.heap.size w w'
theorem layB_need (ns : List Nd) (rs : List Int) : needM ns rs = if layB ns rs = true then sumN (canonN ns rs).1 else -1 := by
 unfold needM layB
 by_cases h : goodG ns rs = true /\ (canonN ns rs).1.all (fun d => decide (0 <= sizeN d)) = true
 ·rw [if_pos h, if_pos (by rw [h.1, h.2]; rfl)]
 ·rw [if_neg h, if_neg (fun e => h (by rw [Bool.and_eq_true] at e; exact e))]
theorem layB_nodes {ns : List Nd} {rs : List Int} (h : layB ns rs = true) (hs : smallG ns) (hk : ∀ d ∈ ns, d.kids.length <= 100) (hn : ns.length <= 100) :
  (∀ d ∈ (canonN ns rs).1, LNd d /\ nodeB (canonN ns rs).1.length d = true) /\ (canonN ns rs).1.length <= 100 /\ (canonN ns rs).2.length = rs.length /\ goodG (canonN ns rs).1 (canonN ns rs).2 = true /\ (canonN ns rs).1.all (fun d => decide (0 <= sizeN d)) = true := by
 unfold layB at h
 rw [Bool.and_eq_true] at h
 obtain ⟨c1, c2, c3, c4⟩ := canon_nodes h.1 hs hk hn
 have hnd := goodG_nodes c4
 refine ⟨fun d hd => ⟨LNd.of (hnd d hd) (c1 d hd) (of_decide_eq_true (List.all_eq_true.1 h.2 d hd)), hnd d hd⟩, c2, c3, c4, h.2⟩
end Go.Proofs.YticimejfjjmikaaGreatDoor
