import Derived.Test.YticimejfjjmikaaGreatDoorSL2
import Derived.Lib.SmallJoins
import Derived.Test.YticimejfjjmikaaGreatDoorU29
import Derived.Test.YticimejfjjmikaaGreatDoorSL3
import Derived.Test.YticimejfjjmikaaGreatDoorSL24
set_option linter.unusedVariables false
set_option linter.unusedSimpArgs false
set_option maxRecDepth 100000
namespace Go.Proofs.YticimejfjjmikaaGreatDoor
open Go.RowKit
theorem PH.weak {B B' : Nat} {v : Value} {N : Int} {ws : List Int} {F : Nat -> Prop} {w : World} (h : PH B v N ws F w) (hb : B' <= B) : PH B' v N ws F w := by
 obtain ⟨gh, gw, n, rest, e, h1, h2, h3, h4, h5, h6, h7, h8⟩ := h.ok
 exact ⟨⟨gh, gw, n, rest, e, h1, h2, h3, h4, h5, Nat.le_trans hb h6, Nat.le_trans hb h7, h8⟩, h.bd, h.u⟩
def xi (w : World) : Prop := Tabs w /\ Lib.TabIs Tryz.prog w "internal/strconv.uint64pow10" .u64 Lib.pow10Tab
theorem xi.below {w w' : World} (h : xi w) (hb : Below w.heap.size w w') : xi w' := by
 refine ⟨Tabs.below h.1 hb, ?_⟩
 cases hg : Tryz.prog.globalNamed "internal/strconv.uint64pow10" with
 | none =>
  have := h.2
  unfold Lib.TabIs World.var? at this
  rw [hg] at this
  cases this
 | some g => exact Joins.tab_stays hg h.2 hb (Nat.le_refl _)
structure PN (B : Nat) (v vn : Value) (N : Int) (os : List Ob) (nm : List ByteArray) (F : Nat -> Prop) (w : World) : Prop where
 ok : ∃ F1 F2, PH B v N (zr os) F1 w /\ NP B vn nm F2 w /\ (∀ b, F1 b -> ¬ F2 b) /\ (∀ b, F b ↔ F1 b \/ F2 b)
 fine : OsOk os
def j6 (B : Nat) (v vn : Value) (N : Int) (F : Nat -> Prop) (w : World) (os' : List Ob) (nm' : List ByteArray) (w' : World) : Prop := ∃ F', PN B v vn N os' nm' F' w' /\ (∀ b, F' b -> F b \/ w.heap.size <= b) /\ Mod F w w'
section
variable {B : Nat} {v vn : Value} {N : Int} {os : List Ob} {nm : List ByteArray} {F : Nat -> Prop} {w w' : World}
theorem PN.ge (h : PN B v vn N os nm F w) : ∀ b, F b -> B <= b /\ b < w.heap.size := by
 obtain ⟨F1, F2, h1, h2, h3, h4⟩ := h.ok
 exact fun b hb => ((h4 b).1 hb).elim (h1.ge b) (h2.ge b)
theorem PN.keep (h : PN B v vn N os nm F w) (hb : ∀ b, F b -> w'.heap[b]? = w.heap[b]?) : PN B v vn N os nm F w' := by
 obtain ⟨F1, F2, h1, h2, h3, h4⟩ := h.ok
 exact ⟨⟨F1, F2, h1.keep (fun b e => hb b ((h4 b).2 (.inl e))), h2.keep (fun b e => hb b ((h4 b).2 (.inr e))), h3, h4⟩, h.fine⟩
theorem PN.on (h : PN B v vn N os nm F w) (hb : Below w.heap.size w w') : PN B v vn N os nm F w' := h.keep (fun b e => hb.block b (h.ge b e).2)
theorem PN.ptrs (h : PN B v vn N os nm F w) : ∃ gh gp, v = .pointer (some ⟨gh, 0, none⟩) /\ vn = .pointer (some ⟨gp, 0, none⟩) := by
 obtain ⟨F1, F2, h1, h2, h3, h4⟩ := h.ok
 obtain ⟨gh, e1⟩ := h1.ptr
 obtain ⟨gp, e2⟩ := h2.ptr
 exact ⟨gh, gp, e1, e2⟩
theorem PN.bd (h : PN B v vn N os nm F w) : zg os <= 4194304 /\ N <= 4194304 := by
 obtain ⟨F1, F2, h1, h2, h3, h4⟩ := h.ok
 have hb := h1.bd
 exact ⟨zte h1, hb.2⟩
theorem j6.same (h : PN B v vn N os nm F w) (hb : Below w.heap.size w w') : j6 B v vn N F w os nm w' := ⟨F, h.on hb, fun b e => .inl e, Mod.of_below _ hb⟩
theorem zdx1 {W0 W1 W2 : World} {F1 F2 : Nat -> Prop} (h1 : PH W0.heap.size v N [] F1 W1) (b1 : Below W0.heap.size W0 W1) (h2 : NP W1.heap.size vn [] F2 W2) (b2 : Below W1.heap.size W1 W2) : PN W0.heap.size v vn N [] [] (fun b => F1 b \/ F2 b) W2 := by
 refine ⟨⟨F1, F2, h1.keep (fun b e => b2.block b (h1.ge b e).2), h2.weak b1.size, fun b e1 e2 => ?_, fun b => Iff.rfl⟩, ⟨fun x hx => (by cases hx), fun x hx => (by cases hx), fun x hx => (by cases hx)⟩⟩
 have := (h1.ge b e1).2
 have := (h2.ge b e2).1
 omega
theorem zfb1 (h : PN B v vn N os nm F w) (s : ByteArray) (hB : B <= w.heap.size) (hl : nm.length <= 1000000) (hs : s.size <= 1000000) :
  Calls Tryz.prog 32 #[vn, .string s] w fun e w' => e = .returned (.int .i64 (idM nm s : Nat)) /\ j6 B v vn N F w os (idL nm s) w' := by
 obtain ⟨F1, F2, h1, h2, h3, h4⟩ := h.ok
 refine (zbr1 s w h2 hB hl hs).mono ?_
 rintro e w' ⟨rfl, F', p1, p2, p4⟩
 refine ⟨rfl, fun b => F1 b \/ F' b, ⟨⟨F1, F', h1.keep (fun b e => p4.block b (h1.ge b e).2 (h3 b e)), p1, fun b e1 e2 => ?_, fun b => Iff.rfl⟩, h.fine⟩, fun b e => ?_, p4.mono (fun b _ e => (h4 b).2 (.inr e))⟩
 ·rcases p2 b e2 with e | e
  ·exact h3 b e1 e
  ·have := (h1.ge b e1).2; omega
 ·rcases e with e | e
  ·exact .inl ((h4 b).2 (.inl e))
  ·rcases p2 b e with e | e
   ·exact .inl ((h4 b).2 (.inr e))
   ·exact .inr e
theorem PN.heap {os' : List Ob} {F1 F2 : Nat -> Prop} (h1 : PH B v N (zr os) F1 w) (h2 : NP B vn nm F2 w) (h3 : ∀ b, F1 b -> ¬ F2 b) (h4 : ∀ b, F b ↔ F1 b \/ F2 b) (hp : zhf B v N F1 w (zr os') w') (ho : OsOk os') : j6 B v vn N F w os' nm w' := by
 obtain ⟨F', p1, p2, p4⟩ := hp
 refine ⟨fun b => F' b \/ F2 b, ⟨⟨F', F2, p1, h2.keep (fun b e => p4.block b (h2.ge b e).2 (fun e1 => h3 b e1 e)), fun b e1 e2 => ?_, fun b => Iff.rfl⟩, ho⟩, fun b e => ?_, p4.mono (fun b _ e => (h4 b).2 (.inl e))⟩
 ·rcases p2 b e1 with e | e
  ·exact h3 b e e2
  ·have := (h2.ge b e2).2; omega
 ·rcases e with e | e
  ·rcases p2 b e with e | e
   ·exact .inl ((h4 b).2 (.inl e))
   ·exact .inr e
  ·exact .inl ((h4 b).2 (.inr e))
theorem znt (h : PN B v vn N os nm F w) (kind : Int) (hk : Z64 kind) (ao : Option Addr) (n cap : Nat) (fl : List Int) (R : URow w ao n cap fl) (hB : B <= w.heap.size) (ha : ∀ a, ao = some a -> ¬ F a.block) (hsm : n <= 1000000) (ho : OsOk (ym os N kind fl)) :
  Calls Tryz.prog 47 #[v, .int .i64 kind, .slice ao n cap] w fun e w' => e = .returned (.tuple #[.int .u64 (ye os N kind fl).1, .int .i64 (ye os N kind fl).2]) /\ j6 B v vn N F w (ym os N kind fl) nm w' := by
 obtain ⟨F1, F2, h1, h2, h3, h4⟩ := h.ok
 refine (zpe h.fine kind hk ao n cap fl w h1 R hB (fun a e hf => ha a e ((h4 _).2 (.inl hf))) hsm).mono ?_
 rintro e w' ⟨rfl, hp⟩
 exact ⟨rfl, PN.heap h1 h2 h3 h4 hp ho⟩
end
theorem zuo (ns : List Nd) (rs : List Int) : kw ns rs = if layB ns rs = true then sumN (zf ns rs).1 else -1 := by
 unfold kw layB
 by_cases h : yv ns rs = true /\ (zf ns rs).1.all (fun d => decide (0 <= zm d)) = true
 ·rw [if_pos h, if_pos (by rw [h.1, h.2]; rfl)]
 ·rw [if_neg h, if_neg (fun e => h (by rw [Bool.and_eq_true] at e; exact e))]
theorem zpx {ns : List Nd} {rs : List Int} (h : layB ns rs = true) (hs : qq ns) (hk : ∀ d ∈ ns, d.kids.length <= 100) (hn : ns.length <= 100) :
  (∀ d ∈ (zf ns rs).1, LNd d /\ qg (zf ns rs).1.length d = true) /\ (zf ns rs).1.length <= 100 /\ (zf ns rs).2.length = rs.length /\ yv (zf ns rs).1 (zf ns rs).2 = true /\ (zf ns rs).1.all (fun d => decide (0 <= zm d)) = true := by
 unfold layB at h
 rw [Bool.and_eq_true] at h
 obtain ⟨c1, c2, c3, c4⟩ := vs h.1 hs hk hn
 have hnd := zaw c4
 refine ⟨fun d hd => ⟨LNd.of (hnd d hd) (c1 d hd) (of_decide_eq_true (List.all_eq_true.1 h.2 d hd)), hnd d hd⟩, c2, c3, c4, h.2⟩
def vf (d : Nd) : List Int := if d.kind = 7 \/ d.kind = 8 then List.replicate d.kids.length 2 else ya d []
def yh (cs : List Nd) : List Ob := (cs.filter (fun d => decide (0 < zm d))).map (fun d => ⟨zp d, vf d⟩)
theorem zce {d : Nd} (hk : ¬ (d.kind = 7 \/ d.kind = 8)) (hz : 0 < zm d) (ws ws' : List Int) : ya d ws = ya d ws' := by
 unfold zm at hz
 unfold ya
 by_cases h1 : d.kind = 1 \/ d.kind = 2 \/ d.kind = 4 \/ d.kind = 6 \/ d.kind = 10 \/ d.kind = 11
 ·rw [if_pos h1] at hz; omega
 rw [if_neg h1] at hz
 by_cases h3 : d.kind = 3
 ·rw [if_pos h3, if_pos h3]
 rw [if_neg h3] at hz ⊢
 rw [if_neg h3]
 by_cases h5 : d.kind = 5
 ·rw [if_pos h5, if_pos h5]
 rw [if_neg h5] at hz ⊢
 rw [if_neg h5]
 rw [if_neg hk] at hz
 by_cases h9 : d.kind = 9
 ·rw [if_pos h9, if_pos h9]
 rw [if_neg h9] at hz
 omega
theorem fq {d : Nd} (hk : d.kind = 7 \/ d.kind = 8) (ws : List Int) : ya d ws = d.kids.map (fun k => ws.getD k.toNat 0) := by
 unfold ya
 rw [if_neg (by omega), if_neg (by omega), if_neg (by omega)]
theorem zkj {d : Nd} (hz : 0 < zm d) (ws : List Int) : (vf d).length = (ya d ws).length := by
 unfold vf
 by_cases hk : d.kind = 7 \/ d.kind = 8
 ·rw [if_pos hk, List.length_replicate, fq hk, List.length_map]
 ·rw [if_neg hk, zce hk hz]
theorem zup : isHd 2 = false := by decide
theorem zgk (d : Nd) : ∀ z ∈ vf d, isHd z = false := by
 intro z hz
 unfold vf at hz
 split at hz
 ·obtain ⟨_, rfl⟩ := List.mem_replicate.1 hz; exact zup
 ·exact zfe d (fun z h => by cases h) z hz
theorem vw (a b : List Nd) : yh (a ++ b) = yh a ++ yh b := by unfold yh; rw [List.filter_append, List.map_append]
theorem zah (ws : List Int) (a b : List Nd) : zu ws (a ++ b) = zu ws a ++ zu ws b := by unfold zu; rw [List.filter_append, List.map_append]
theorem vx (d : Nd) : yh [d] = if 0 < zm d then [⟨zp d, vf d⟩] else [] := by
 unfold yh
 by_cases hz : 0 < zm d
 ·rw [if_pos hz, List.filter_cons_of_pos (by exact decide_eq_true hz)]; rfl
 ·rw [if_neg hz, List.filter_cons_of_neg (by rw [decide_eq_false hz]; decide)]; rfl
theorem zcu (ws : List Int) (d : Nd) : zu ws [d] = if 0 < zm d then [⟨zp d, ya d ws⟩] else [] := by
 unfold zu
 by_cases hz : 0 < zm d
 ·rw [if_pos hz, List.filter_cons_of_pos (by exact decide_eq_true hz)]; rfl
 ·rw [if_neg hz, List.filter_cons_of_neg (by rw [decide_eq_false hz]; decide)]; rfl
theorem zdk {cs : List Nd} {q : Nat} (h : q < cs.length) : cs.take (q + 1) = cs.take q ++ [cs.getD q default] := by
 rw [List.take_succ_eq_append_getElem h, List.getD_eq_getElem?_getD, List.getElem?_eq_getElem h]; rfl
theorem znu {cs : List Nd} {q : Nat} (h : q < cs.length) : cs.drop q = [cs.getD q default] ++ cs.drop (q + 1) := by
 rw [List.drop_eq_getElem_cons h, List.getD_eq_getElem?_getD, List.getElem?_eq_getElem h]; rfl
theorem zhu (ws : List Int) : ∀ cs : List Nd, (yh cs).map sh = (zu ws cs).map sh
 | [] => rfl
 | d :: cs => by
  have h1 := vw [d] cs
  have h2 := zah ws [d] cs
  rw [List.singleton_append] at h1 h2
  rw [h1, h2, List.map_append, List.map_append, zhu ws cs, vx, zcu]
  by_cases hz : 0 < zm d
  ·rw [if_pos hz, if_pos hz]
   show [(zp d, (vf d).length)] ++ _ = [(zp d, (ya d ws).length)] ++ _
   rw [zkj hz ws]
  ·rw [if_neg hz, if_neg hz]
def mixO (ws : List Int) (os : List Ob) (cs : List Nd) (q : Nat) : List Ob := (os ++ zu ws (cs.take q)) ++ yh (cs.drop q)
theorem zxz (ws : List Int) (os : List Ob) (cs : List Nd) : mixO ws os cs 0 = os ++ yh cs := by
 unfold mixO; simp [zu]
theorem zbs1 (ws : List Int) (os : List Ob) (cs : List Nd) : mixO ws os cs cs.length = os ++ zu ws cs := by
 unfold mixO; simp [yh]
theorem zdy1 (ws : List Int) (os : List Ob) (cs : List Nd) (q : Nat) : (mixO ws os cs q).map sh = (os ++ zu ws cs).map sh := by
 unfold mixO
 conv => rhs; rw [<- List.take_append_drop q cs, zah, <- List.append_assoc]
 rw [List.map_append, List.map_append (l₂ := zu ws (cs.drop q)), zhu ws]
theorem zya {ws : List Int} {os : List Ob} {cs : List Nd} {q : Nat} (h : q < cs.length) (hk : (cs.getD q default).kids = []) : mixO ws os cs (q + 1) = mixO ws os cs q := by
 unfold mixO
 rw [zdk h, znu h, zah, vw, <- List.append_assoc, <- List.append_assoc]
 congr 2
 rw [zcu, vx]
 by_cases hz : 0 < zm (cs.getD q default)
 ·rw [if_pos hz, if_pos hz]
  congr 2
  unfold vf
  by_cases h7 : (cs.getD q default).kind = 7 \/ (cs.getD q default).kind = 8
  ·rw [if_pos h7, fq h7, hk]; rfl
  ·rw [if_neg h7]; exact zce h7 hz _ _
 ·rw [if_neg hz, if_neg hz]
def rowJ (d : Nd) (ws : List Int) (j : Nat) : List Int := (d.kids.take j).map (fun k => ws.getD k.toNat 0) ++ List.replicate (d.kids.length - j) 2
theorem zhv {d : Nd} {ws : List Int} {j : Nat} (h : j <= d.kids.length) : (rowJ d ws j).length = d.kids.length := by
 unfold rowJ; rw [List.length_append, List.length_map, List.length_take, List.length_replicate]; omega
theorem zyb {d : Nd} {ws : List Int} {j : Nat} (h : j < d.kids.length) : (rowJ d ws j).set j (ws.getD (d.kids.getD j 0).toNat 0) = rowJ d ws (j + 1) := by
 have hl : ((d.kids.take j).map (fun k => ws.getD k.toNat 0)).length = j := by rw [List.length_map, List.length_take]; omega
 unfold rowJ
 rw [List.set_append_right _ _ (by omega), hl, Nat.sub_self]
 have e1 : d.kids.length - j = (d.kids.length - (j + 1)) + 1 := by omega
 rw [e1, List.replicate_succ, List.set_cons_zero, List.take_succ_eq_append_getElem h, List.map_append, List.append_assoc]
 have e2 : d.kids.getD j 0 = d.kids[j] := by rw [List.getD_eq_getElem?_getD, List.getElem?_eq_getElem h]; rfl
 rw [e2]
 rfl
def midO (ws : List Int) (os : List Ob) (cs : List Nd) (q j : Nat) : List Ob := (os ++ zu ws (cs.take q)) ++ (⟨zp (cs.getD q default), rowJ (cs.getD q default) ws j⟩ :: yh (cs.drop (q + 1)))
theorem fs {d : Nd} (hk : d.kind = 7 \/ d.kind = 8) : 0 < zm d := by
 unfold zm
 rw [if_neg (by omega), if_neg (by omega), if_neg (by omega), if_pos hk]
 omega
theorem znv {ws : List Int} {os : List Ob} {cs : List Nd} {q : Nat} (h : q < cs.length) (hk : (cs.getD q default).kind = 7 \/ (cs.getD q default).kind = 8) : midO ws os cs q 0 = mixO ws os cs q := by
 unfold midO mixO
 rw [znu h, vw, vx, if_pos (fs hk)]
 congr 2
 unfold vf
 rw [if_pos hk]; rfl
theorem zbt1 {ws : List Int} {os : List Ob} {cs : List Nd} {q : Nat} (h : q < cs.length) (hk : (cs.getD q default).kind = 7 \/ (cs.getD q default).kind = 8) : midO ws os cs q (cs.getD q default).kids.length = mixO ws os cs (q + 1) := by
 unfold midO mixO
 rw [zdk h, zah, zcu, if_pos (fs hk), <- List.append_assoc, List.append_assoc (os ++ zu ws (cs.take q))]
 congr 2
 unfold rowJ
 rw [List.take_length, Nat.sub_self, fq hk]; simp
section
variable {N : Int} {os : List Ob} {nm : List ByteArray} {cs : List Nd}
theorem zdz1 {ws : List Int} {q j : Nat} (h : q < cs.length) (hk : (cs.getD q default).kind = 7 \/ (cs.getD q default).kind = 8) (hj : j <= (cs.getD q default).kids.length) : (midO ws os cs q j).map sh = (os ++ zu ws cs).map sh := by
 rw [<- zdy1 ws os cs q, <- znv h hk]
 unfold midO
 rw [List.map_append (l₁ := os ++ zu ws (cs.take q)), List.map_append (l₁ := os ++ zu ws (cs.take q)), List.map_cons, List.map_cons]
 have e : sh ⟨zp (cs.getD q default), rowJ (cs.getD q default) ws j⟩ = sh ⟨zp (cs.getD q default), rowJ (cs.getD q default) ws 0⟩ := by
  show (zp (cs.getD q default), (rowJ (cs.getD q default) ws j).length) = (zp (cs.getD q default), (rowJ (cs.getD q default) ws 0).length)
  rw [zhv hj, zhv (Nat.zero_le _)]
 rw [e]
theorem zbu1 (h : zcd N os nm cs) {q j : Nat} (hq : q < cs.length) (hk : (cs.getD q default).kind = 7 \/ (cs.getD q default).kind = 8) (hj : j < (cs.getD q default).kids.length) :
  setM (midO (putS nm (zg os) cs).ws os cs q j) ((putS nm (zg os) cs).ws.getD q 0) 0 (j : Nat) ((putS nm (zg os) cs).ws.getD ((cs.getD q default).kids.getD j 0).toNat 0) = (midO (putS nm (zg os) cs).ws os cs q (j + 1), 0) := by
 obtain ⟨k, hf, _, _, _, hkk⟩ := h.place hq (fs hk)
 have hnh := zke (zfd (nm := nm) (a := zg os) (cs := cs) cs.length (Nat.le_refl _)) ((cs.getD q default).kids.getD j 0).toNat
 rw [List.take_length] at hnh
 generalize hws : (putS nm (zg os) cs).ws = ws at *
 have hf2 : yf (midO ws os cs q j) (ws.getD q 0) = some k := by rw [zai1 (zdz1 hq hk (by omega))]; exact hf
 have hg : (midO ws os cs q j).getD k default = ⟨zp (cs.getD q default), rowJ (cs.getD q default) ws j⟩ := by
  unfold midO
  rw [hkk, List.getD_eq_getElem?_getD, List.getElem?_append_right (Nat.le_refl _), Nat.sub_self]; rfl
 have hfm : ja (midO ws os cs q j) (ws.getD q 0) 0 (j : Nat) = ((k : Int), 0) := by
  unfold ja
  rw [hf2]
  simp only [hg]
  rw [if_neg (by simp), if_neg (by rw [zhv (by omega)]; omega)]
 unfold setM
 rw [hfm, if_neg (by simp), if_neg (by unfold isHd at hnh; exact of_decide_eq_false hnh)]
 simp only [Int.toNat_natCast, hg]
 refine congrArg (fun l => (l, (0 : Int))) ?_
 unfold midO setF
 simp only
 rw [hkk, List.set_append_right _ _ (Nat.le_refl _), Nat.sub_self, List.set_cons_zero, zyb hj]
theorem zpy {ws : List Int} (cs : List Nd) : zg (yh cs) = zg (zu ws cs) := zln (zhu ws cs)
theorem zpz (h : zcd N os nm cs) {q : Nat} (hq : q < cs.length) (hz : 0 < zm (cs.getD q default)) :
  ye (os ++ yh (cs.take q)) N (zp (cs.getD q default)) (vf (cs.getD q default)) = (zj 2 ((putS nm (zg os) (cs.take q)).at_ : Nat) 0, 0) /\ ym (os ++ yh (cs.take q)) N (zp (cs.getD q default)) (vf (cs.getD q default)) = os ++ yh (cs.take (q + 1)) := by
 have hu := vu (ws := []) h.sz q (by omega)
 have hsum := zhs h.sz (q + 1)
 rw [vp hq] at hsum
 have hk := zbc (cs.getD q default)
 have hl := x7 (ws := []) hz
 have hat := zhr (nm := nm) (a := zg os) h.sz q (by omega)
 have hr := h.room
 have hn := zkj hz []
 have huu : zg (os ++ yh (cs.take q)) = (putS nm (zg os) (cs.take q)).at_ := by
  rw [jn, zpy (ws := [])]; omega
 have hany : (vf (cs.getD q default)).any isHd = false := by
  rw [List.any_eq_false]
  intro z hz'
  rw [zgk _ z hz']; decide
 have hal : ye (os ++ yh (cs.take q)) N (zp (cs.getD q default)) (vf (cs.getD q default)) = (zj 2 ((putS nm (zg os) (cs.take q)).at_ : Nat) 0, 0) := by
  unfold ye
  rw [if_neg (by omega), hany, if_neg (by decide), if_neg (by rw [huu]; omega), huu]
 refine ⟨hal, ?_⟩
 unfold ym
 rw [hal, if_pos rfl, zdk hq, vw, vx, if_pos hz, List.append_assoc]
theorem zuq {q : Nat} (hq : q < cs.length) (hz : ¬ 0 < zm (cs.getD q default)) : yh (cs.take (q + 1)) = yh (cs.take q) := by
 rw [zdk hq, vw, vx, if_neg hz, List.append_nil]
end
theorem zea1 {os : List Ob} {p kind i z : Int} (h : OsOk os) (hz : U64 z) : OsOk (setM os p kind i z).1 := by
 unfold setM
 split
 ·exact h
 ·split
  ·exact h
  ·rename_i h0 h8
   obtain ⟨n, e1, e2, _⟩ := xo (by simpa using h0)
   rw [e1]
   simp only [Int.toNat_natCast]
   have hm : os.getD n default ∈ os := by rw [List.getD_eq_getElem?_getD, List.getElem?_eq_getElem e2]; exact List.getElem_mem e2
   refine ⟨fun x hx => ?_, fun x hx => ?_, fun x hx => ?_⟩ <;> rcases List.mem_or_eq_of_mem_set hx with hx | rfl
   ·exact h.kd x hx
   ·have := h.kd _ hm; exact this
   ·exact h.uf x hx
   ·intro y hy
    simp only [setF] at hy
    rcases List.mem_or_eq_of_mem_set hy with hy | rfl
    ·exact h.uf _ hm y hy
    ·exact hz
   ·exact h.nh x hx
   ·intro y hy
    simp only [setF] at hy
    rcases List.mem_or_eq_of_mem_set hy with hy | rfl
    ·exact h.nh _ hm y hy
    ·exact decide_eq_false h8
section
variable {B : Nat} {v vn : Value} {N : Int} {os : List Ob} {nm : List ByteArray} {F : Nat -> Prop} {w w1 w' : World}
theorem j6.front {os' : List Ob} {nm' : List ByteArray} (hb : Below w.heap.size w w1) (h : j6 B v vn N F w1 os' nm' w') : j6 B v vn N F w os' nm' w' := by
 obtain ⟨F', h1, h2, h3⟩ := h
 have hs := hb.size
 exact ⟨F', h1, fun b e => (h2 b e).imp id (fun e => by omega), (Mod.of_below F hb).trans h3 (fun _ _ e => e)⟩
theorem zbv1 (h : PN B v vn N os nm F w) (kind n z : Int) (hk : Z64 kind) (hn : Z64 n) (hz : U64 z) (hB : B <= w.heap.size) (ho : OsOk (zen os N kind n z)) :
  Calls Tryz.prog 34 #[v, .int .i64 kind, .int .i64 n, .int .u64 z] w fun e w' => e = .returned (.tuple #[.int .u64 (zcm os N kind n z).1, .int .i64 (zcm os N kind n z).2]) /\ j6 B v vn N F w (zen os N kind n z) nm w' := by
 obtain ⟨F1, F2, h1, h2, h3, h4⟩ := h.ok
 refine (ztd h.fine kind n z hk hn hz w h1 hB).mono ?_
 rintro e w' ⟨rfl, hp⟩
 exact ⟨rfl, PN.heap h1 h2 h3 h4 hp ho⟩
theorem zeb1 (h : PN B v vn N os nm F w) (p kind i z : Int) (hp : U64 p) (hk : Z64 kind) (hi : Z64 i) (hz : U64 z) (hB : B <= w.heap.size) :
  Calls Tryz.prog 36 #[v, .int .u64 p, .int .i64 kind, .int .i64 i, .int .u64 z] w fun e w' => e = .returned (.int .i64 (setM os p kind i z).2) /\ j6 B v vn N F w (setM os p kind i z).1 nm w' := by
 obtain ⟨F1, F2, h1, h2, h3, h4⟩ := h.ok
 refine (zwt h.fine p kind i z hp hk hi hz w h1 hB).mono ?_
 rintro e w' ⟨rfl, hp'⟩
 exact ⟨rfl, PN.heap h1 h2 h3 h4 hp' (zea1 h.fine hz)⟩
theorem PN.room (h : PN B v vn N os nm F w) : Calls Tryz.prog 86 #[v] w fun e w' => e = .returned (.int .i64 (N - (zg os : Nat))) /\ Below w.heap.size w w' := by
 obtain ⟨F1, F2, h1, h2, h3, h4⟩ := h.ok
 have := zej w h1
 rw [zi] at this
 exact this
theorem zec1 {n : Nat} (h : n <= 1073741824) : zl 5 (n : Int) 0 = true := by unfold zl; simp; omega
theorem zqa (h : PN B v vn N os nm F w) (t : ByteArray) (hB : B <= w.heap.size) (hl : nm.length <= 1000000) (ht : t.size <= 1000000) :
  Calls Tryz.prog 177 #[vn, .string t] w fun e w' => e = .returned (.int .u64 (zj 5 ((idM nm t : Nat) : Int) 0)) /\ j6 B v vn N F w os (idL nm t) w' := by
 have C := hid (zfb1 h t hB hl ht)
 obtain ⟨gh, gp, _, rfl⟩ := h.ptrs
 have hle := znp nm t
 have CN : Hid (∀ W, Calls Tryz.prog 200 #[.int .i64 (idM nm t : Nat)] W fun e w' => e = .returned (.tuple #[.int .u64 (zj 5 ((idM nm t : Nat) : Int) 0), .bool true]) /\ w' = W) := fun W => by
  have := zwm ((idM nm t : Nat) : Int) (by unfold Z64; omega) W
  rw [zec1 (by omega)] at this
  exact this
 obtain ⟨x, hx⟩ : ∃ x, x = zj 5 ((idM nm t : Nat) : Int) 0 := ⟨_, rfl⟩
 rw [<- hx] at CN ⊢
 obtain ⟨k, hk⟩ : ∃ k, k = idM nm t := ⟨_, rfl⟩
 rw [<- hk] at CN C
 clear hx hk h hle
 go_enter Tryz.func177, Tryz.ntmps177
 go_wp2_with (first
  | (go_at_call 32; (with_reducible refine C.out.mono ?_); rintro e W1 ⟨rfl, p1⟩; have HP := hid p1; have C2 := hid (CN.out W1); clear p1)
  | (go_at_call 200; (with_reducible refine C2.out.mono ?_); rintro e W2 ⟨rfl, hw2⟩; rw [hw2]; clear hw2))
 go_ret
 exact ⟨rfl, HP.out⟩
def intW (os : List Ob) (N : Int) (t : ByteArray) : Int := if fixB (txZ t) = true then zj 1 (txZ t) 0 else (ye os N 5 (bigL (decide (txZ t < 0)) (mg (txZ t).natAbs))).1
def intO (os : List Ob) (N : Int) (t : ByteArray) : List Ob := if fixB (txZ t) = true then os else ym os N 5 (bigL (decide (txZ t < 0)) (mg (txZ t).natAbs))
set_option maxHeartbeats 4000000 in
theorem zyc (h : PN B v vn N os nm F w) (t : ByteArray) (ht : t.size <= 5000) (hp : zy t = true) (hB : B <= w.heap.size) (ho : OsOk (intO os N t)) :
  Calls Tryz.prog 175 #[v, .string t] w fun e w' => e = .returned (.int .u64 (intW os N t)) /\ j6 B v vn N F w (intO os N t) nm w' := by
 have C := hid (zgj t ht hp w)
 have HH := hid h
 have CF : Hid (∀ (neg : Bool) (ao : Option Addr) (n cap : Nat) (l : List Nat) (W : World), Row .u32 B32 W ao n cap l -> jw neg l = true -> Calls Tryz.prog 159 #[.agg #[.bool neg, .slice ao n cap]] W (kg (sgn neg (val B32 l)) W)) := fun neg ao n cap l W R g => zct neg ao n cap l W R g
 obtain ⟨gh, gp, hv, _⟩ := h.ptrs
 have HBB := hid hB
 unfold intW
 unfold intO at ho ⊢
 clear h ht hp hB
 cases hf : fixB (txZ t)
 ·rw [if_neg (by decide), if_neg (by decide)]
  rw [hf, if_neg (by decide)] at ho
  have HO := hid ho
  have HF := hid hf
  have CA : Hid (∀ (ao : Option Addr) (n cap : Nat) (W : World), Below w.heap.size w W -> n <= 1000000 -> URow W ao n cap (bigL (decide (txZ t < 0)) (mg (txZ t).natAbs)) -> (∀ a, ao = some a -> w.heap.size <= a.block) -> Calls Tryz.prog 47 #[v, .int .i64 5, .slice ao n cap] W fun e w' => e = .returned (.tuple #[.int .u64 (ye os N 5 (bigL (decide (txZ t < 0)) (mg (txZ t).natAbs))).1, .int .i64 (ye os N 5 (bigL (decide (txZ t < 0)) (mg (txZ t).natAbs))).2]) /\ j6 B v vn N F w (ym os N 5 (bigL (decide (txZ t < 0)) (mg (txZ t).natAbs))) nm w') := fun ao n cap W hb hn hu ha => by
   refine (znt (HH.out.on hb) 5 (by unfold Z64; omega) ao n cap _ hu (Nat.le_trans HBB.out hb.size) (fun a e hf => ?_) hn HO.out).mono ?_
   ·have := ha a e; have := (HH.out.ge _ hf).2; omega
   ·rintro e w' ⟨rfl, p⟩
    exact ⟨rfl, p.front hb⟩
  have CB : Hid (∀ (neg : Bool) (ao : Option Addr) (n cap : Nat) (l : List Nat) (W : World), Row .u32 B32 W ao n cap l -> n <= 40 -> Calls Tryz.prog 198 #[.agg #[.bool neg, .slice ao n cap]] W fun e w' => ∃ v, e = .returned v /\ w'.ownsRow W.heap.size 44 1 v (n + 1) (uz (bigL neg l)) /\ Below W.heap.size W w') := fun neg ao n cap l W R hn => zxw neg ao n cap l W R (by omega)
  have HBU : Hid (∀ z ∈ bigL (decide (txZ t < 0)) (mg (txZ t).natAbs), U64 z) := zzk _ _
  have HBL : Hid ((bigL (decide (txZ t < 0)) (mg (txZ t).natAbs)).length = (mg (txZ t).natAbs).length + 1) := zhm _ _
  obtain ⟨A, hA⟩ : ∃ A, A = ye os N 5 (bigL (decide (txZ t < 0)) (mg (txZ t).natAbs)) := ⟨_, rfl⟩
  rw [<- hA] at CA ⊢
  obtain ⟨A1, A2⟩ := A
  simp only at CA ⊢
  clear hf hA ho
  subst hv
  go_enter Tryz.func175, Tryz.ntmps175
  go_wp2_with (first
   | (go_at_call 197; (with_reducible refine C.out.mono ?_); rintro e W1 ⟨neg, ao, n, cap, l, rfl, R, g, hz, hng, hl, hn40, b1⟩; have HBX := hid (Ba W1 (.cells #[.bool neg, .slice ao n cap] 104)); have hx := ze W1 #[.bool neg, .slice ao n cap] 104; have HX := hid hx; have c0 : (W1.alloc (.cells #[.bool neg, .slice ao n cap] 104)).cell? ⟨W1.heap.size, 0, none⟩ = some (.bool neg) := za hx 0; have c1 : (W1.alloc (.cells #[.bool neg, .slice ao n cap] 104)).cell? ⟨W1.heap.size, 1, none⟩ = some (.slice ao n cap) := za hx 1; have HR1 := hid (R.below HBX.out); have C2 := hid (CF.out neg ao n cap l _ HR1.out g); rw [hz] at C2; unfold kg at C2; rw [HF.out] at C2; have HB1 := hid (Bt b1 HBX.out); have HLL := hid hl; have HNG := hid hng; have HLN := hid R.len; clear b1 R g hz hng hl hx)
   | (go_at_call 159; (with_reducible refine C2.out.mono ?_); rintro e W2 ⟨x, rfl, _, b2⟩; have HB2 := hid (Bt HB1.out b2); have hx2 := (b2.block W1.heap.size (by rw [zb]; omega)).trans HX.out; have d0 : W2.cell? ⟨W1.heap.size, 0, none⟩ = some (.bool neg) := za hx2 0; have d1 : W2.cell? ⟨W1.heap.size, 1, none⟩ = some (.slice ao n cap) := za hx2 1; have C3 := hid (CB.out neg ao n cap l W2 (HR1.out.below b2) hn40); clear b2 hx2)
   | (go_at_call 198; (with_reducible refine C3.out.mono ?_); rintro e W3 ⟨vb, rfl, ho3, b3⟩; have HB3 := hid (Bt HB2.out b3); rw [HNG.out, HLL.out] at ho3; have e3 : n + 1 = (bigL (decide (txZ t < 0)) (mg (txZ t).natAbs)).length := (by rw [HBL.out, <- HLL.out, HLN.out]); rw [e3] at ho3; obtain ⟨a3, cap3, hv3, hu3⟩ := xe ho3 HBU.out; have hlt3 := fun b e => (ho3.lt b e).1; rw [hv3] at hlt3 ⊢; rw [<- e3] at hu3 hlt3 ⊢; have C4 := hid (CA.out a3 (n + 1) cap3 W3 HB3.out (by omega) hu3 (fun a e => Nat.le_trans HB2.out.size (hlt3 a.block (by rw [e]; rfl)))); clear b3 hu3 hlt3 hv3 ho3 e3)
   | (go_at_call 47; (with_reducible refine C4.out.mono ?_); rintro e W4 ⟨rfl, p4⟩; have HP4 := hid p4; clear p4))
  go_ret
  exact ⟨rfl, HP4.out⟩
 ·rw [if_pos rfl, if_pos rfl]
  have HF := hid hf
  have same : Hid (∀ W, Below w.heap.size w W -> j6 B v vn N F w os nm W) := fun W hb => j6.same HH.out hb
  obtain ⟨x, hx⟩ : ∃ x, x = zj 1 (txZ t) 0 := ⟨_, rfl⟩
  rw [<- hx]
  have HX := hid hx
  clear hf hx ho
  subst hv
  go_enter Tryz.func175, Tryz.ntmps175
  go_wp2_with (first
   | (go_at_call 197; (with_reducible refine C.out.mono ?_); rintro e W1 ⟨neg, ao, n, cap, l, rfl, R, g, hz, hng, hl, hn40, b1⟩; have HBX := hid (Ba W1 (.cells #[.bool neg, .slice ao n cap] 104)); have hx := ze W1 #[.bool neg, .slice ao n cap] 104; have c0 : (W1.alloc (.cells #[.bool neg, .slice ao n cap] 104)).cell? ⟨W1.heap.size, 0, none⟩ = some (.bool neg) := za hx 0; have c1 : (W1.alloc (.cells #[.bool neg, .slice ao n cap] 104)).cell? ⟨W1.heap.size, 1, none⟩ = some (.slice ao n cap) := za hx 1; have C2 := hid (CF.out neg ao n cap l _ (R.below HBX.out) g); rw [hz] at C2; unfold kg at C2; rw [HF.out, <- HX.out] at C2; have HB1 := hid (Bt b1 HBX.out); clear b1 R g hz hng hl hx)
   | (go_at_call 159; (with_reducible refine C2.out.mono ?_); rintro e W2 ⟨x2, rfl, hx2, b2⟩; rw [hx2 (by trivial)]; have HB2 := hid (Bt HB1.out b2); clear b2 hx2))
  go_ret
  exact ⟨rfl, same.out _ HB2.out⟩
end
def SB (gs : Nat) (v vn : Value) (w : World) : Prop := w.cell? ⟨gs, 0, none⟩ = some v /\ w.cell? ⟨gs, 1, none⟩ = some vn /\ gs < w.heap.size
theorem SB.on {gs : Nat} {v vn : Value} {w w' : World} (h : SB gs v vn w) (hb : Below w.heap.size w w') : SB gs v vn w' :=
 ⟨(hb.cell (p := ⟨gs, 0, none⟩) h.2.2).trans h.1, (hb.cell (p := ⟨gs, 1, none⟩) h.2.2).trans h.2.1, Nat.lt_of_lt_of_le h.2.2 hb.size⟩
def zfl (d : Nd) (w : World) (e : Ending) (w' : World) : Prop := ∃ ak nk ck, e = .returned (.tuple #[zmd d, .slice ak nk ck]) /\ URow w' ak nk ck d.kids /\ (∀ a, ak = some a -> w.heap.size <= a.block) /\ Below w.heap.size w w'
theorem zfl.bare {k m : Int} {t : ByteArray} {w w' : World} (hb : Below w.heap.size w w') : zfl ⟨k, m, t, []⟩ w (.returned (.tuple #[.agg #[.int .i64 k, .int .i64 m, .string t, .slice none 0 0], .slice none 0 0])) w' := ⟨none, 0, 0, rfl, unil _, fun a e => (by cases e), hb⟩
end Go.Proofs.YticimejfjjmikaaGreatDoor
