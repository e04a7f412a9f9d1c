import Derived.Test.YtadfihnffboelaaGreatDoorU27
import Derived.Lib.SmallJoins
import Derived.Test.YtadfihnffboelaaGreatDoorU34
import Derived.Test.YtadfihnffboelaaGreatDoorSL7
import Derived.Test.YtadfihnffboelaaGreatDoorSG9
import Derived.Test.YtadfihnffboelaaGreatDoorE2
set_option linter.unusedVariables false
set_option linter.unusedSimpArgs false
set_option maxRecDepth 100000
namespace Go.Proofs.YtadfihnffboelaaGreatDoor
open Go.RowKit
def TabsS (w : World) : Prop := Tabs w /\ Lib.TabIs Tryz.prog w "internal/strconv.uint64pow10" .u64 Lib.pow10Tab
theorem TabsS.below {w w' : World} (h : TabsS w) (hb : Below w.heap.size w w') : TabsS w' := by
 refine ⟨Tabs.below h.1 hb, ?_⟩
 cases hg : Tryz.prog.globalNamed "internal/strconv.uint64pow10" with
 | none =>
  have := h.2
  unfold Lib.TabIs World.var? at this
  rw [hg] at this
  cases this
 | some g => exact Joins.tab_stays hg h.2 hb (Nat.le_refl _)
structure PN (B : Nat) (v vn : Value) (N : Int) (os : List Ob) (nm : List ByteArray) (F : Nat -> Prop) (w : World) : Prop where
 ok : ∃ F1 F2, PH B v N (wordsL os) F1 w /\ NP B vn nm F2 w /\ (∀ b, F1 b -> ¬ F2 b) /\ (∀ b, F b ↔ F1 b \/ F2 b)
 fine : OsOk os
def PNPost (B : Nat) (v vn : Value) (N : Int) (F : Nat -> Prop) (w : World) (os' : List Ob) (nm' : List ByteArray) (w' : World) : Prop := ∃ F', PN B v vn N os' nm' F' w' /\ (∀ b, F' b -> F b \/ w.heap.size <= b) /\ Mod F w w'
section
variable {B : Nat} {v vn : Value} {N : Int} {os : List Ob} {nm : List ByteArray} {F : Nat -> Prop} {w w' : World}
theorem PN.ge (h : PN B v vn N os nm F w) : ∀ b, F b -> B <= b /\ b < w.heap.size := by
 obtain ⟨F1, F2, h1, h2, h3, h4⟩ := h.ok
 exact fun b hb => ((h4 b).1 hb).elim (h1.ge b) (h2.ge b)
theorem PN.keep (h : PN B v vn N os nm F w) (hb : ∀ b, F b -> w'.heap[b]? = w.heap[b]?) : PN B v vn N os nm F w' := by
 obtain ⟨F1, F2, h1, h2, h3, h4⟩ := h.ok
 exact ⟨⟨F1, F2, h1.keep (fun b e => hb b ((h4 b).2 (.inl e))), h2.keep (fun b e => hb b ((h4 b).2 (.inr e))), h3, h4⟩, h.fine⟩
theorem PN.on (h : PN B v vn N os nm F w) (hb : Below w.heap.size w w') : PN B v vn N os nm F w' := h.keep (fun b e => hb.block b (h.ge b e).2)
theorem PN.ptrs (h : PN B v vn N os nm F w) : ∃ gh gp, v = .pointer (some ⟨gh, 0, none⟩) /\ vn = .pointer (some ⟨gp, 0, none⟩) := by
 obtain ⟨F1, F2, h1, h2, h3, h4⟩ := h.ok
 obtain ⟨gh, e1⟩ := h1.ptr
 obtain ⟨gp, e2⟩ := h2.ptr
 exact ⟨gh, gp, e1, e2⟩
theorem PN.used (h : PN B v vn N os nm F w) : Calls Tryz.prog 21 #[v] w fun e w' => e = .returned (.int .i64 (usedL os : Nat)) /\ Below w.heap.size w w' := by
 obtain ⟨F1, F2, h1, h2, h3, h4⟩ := h.ok
 have := pused_any w h1
 rw [wordsL_length] at this
 exact this
theorem PN.bd (h : PN B v vn N os nm F w) : usedL os <= 4194304 /\ N <= 4194304 := by
 obtain ⟨F1, F2, h1, h2, h3, h4⟩ := h.ok
 have hb := h1.bd
 exact ⟨ph_used h1, hb.2⟩
theorem PNPost.same (h : PN B v vn N os nm F w) (hb : Below w.heap.size w w') : PNPost B v vn N F w os nm w' := ⟨F, h.on hb, fun b e => .inl e, Mod.of_below _ hb⟩
theorem pn_new {W0 W1 W2 : World} {F1 F2 : Nat -> Prop} (h1 : PH W0.heap.size v N [] F1 W1) (b1 : Below W0.heap.size W0 W1) (h2 : NP W1.heap.size vn [] F2 W2) (b2 : Below W1.heap.size W1 W2) : PN W0.heap.size v vn N [] [] (fun b => F1 b \/ F2 b) W2 := by
 refine ⟨⟨F1, F2, h1.keep (fun b e => b2.block b (h1.ge b e).2), h2.weak b1.size, fun b e1 e2 => ?_, fun b => Iff.rfl⟩, ⟨fun x hx => (by cases hx), fun x hx => (by cases hx), fun x hx => (by cases hx)⟩⟩
 have := (h1.ge b e1).2
 have := (h2.ge b e2).1
 omega
theorem pn_id (h : PN B v vn N os nm F w) (s : ByteArray) (hB : B <= w.heap.size) (hl : nm.length <= 1000000) (hs : s.size <= 1000000) :
  Calls Tryz.prog 24 #[vn, .string s] w fun e w' => e = .returned (.int .i64 (idM nm s : Nat)) /\ PNPost B v vn N F w os (idL nm s) w' := by
 obtain ⟨F1, F2, h1, h2, h3, h4⟩ := h.ok
 refine (pid_any s w h2 hB hl hs).mono ?_
 rintro e w' ⟨rfl, F', p1, p2, p4⟩
 refine ⟨rfl, fun b => F1 b \/ F' b, ⟨⟨F1, F', h1.keep (fun b e => p4.block b (h1.ge b e).2 (h3 b e)), p1, fun b e1 e2 => ?_, fun b => Iff.rfl⟩, h.fine⟩, fun b e => ?_, p4.mono (fun b _ e => (h4 b).2 (.inr e))⟩
 ·rcases p2 b e2 with e | e
  ·exact h3 b e1 e
  ·have := (h1.ge b e1).2; omega
 ·rcases e with e | e
  ·exact .inl ((h4 b).2 (.inl e))
  ·rcases p2 b e with e | e
   ·exact .inl ((h4 b).2 (.inr e))
   ·exact .inr e
theorem PN.heap {os' : List Ob} {F1 F2 : Nat -> Prop} (h1 : PH B v N (wordsL os) F1 w) (h2 : NP B vn nm F2 w) (h3 : ∀ b, F1 b -> ¬ F2 b) (h4 : ∀ b, F b ↔ F1 b \/ F2 b) (hp : PPost B v N F1 w (wordsL os') w') (ho : OsOk os') : PNPost B v vn N F w os' nm w' := by
 obtain ⟨F', p1, p2, p4⟩ := hp
 refine ⟨fun b => F' b \/ F2 b, ⟨⟨F', F2, p1, h2.keep (fun b e => p4.block b (h2.ge b e).2 (fun e1 => h3 b e1 e)), fun b e1 e2 => ?_, fun b => Iff.rfl⟩, ho⟩, fun b e => ?_, p4.mono (fun b _ e => (h4 b).2 (.inl e))⟩
 ·rcases p2 b e1 with e | e
  ·exact h3 b e e2
  ·have := (h2.ge b e2).2; omega
 ·rcases e with e | e
  ·rcases p2 b e with e | e
   ·exact .inl ((h4 b).2 (.inl e))
   ·exact .inr e
  ·exact .inl ((h4 b).2 (.inr e))
theorem pn_alloc (h : PN B v vn N os nm F w) (kind : Int) (hk : Z64 kind) (ao : Option Addr) (n cap : Nat) (fl : List Int) (R : URow w ao n cap fl) (hB : B <= w.heap.size) (ha : ∀ a, ao = some a -> ¬ F a.block) (hsm : n <= 1000000) (ho : OsOk (allocO os N kind fl)) :
  Calls Tryz.prog 34 #[v, .int .i64 kind, .slice ao n cap] w fun e w' => e = .returned (.tuple #[.int .u64 (allocM os N kind fl).1, .int .i64 (allocM os N kind fl).2]) /\ PNPost B v vn N F w (allocO os N kind fl) nm w' := by
 obtain ⟨F1, F2, h1, h2, h3, h4⟩ := h.ok
 refine (palloc_any h.fine kind hk ao n cap fl w h1 R hB (fun a e hf => ha a e ((h4 _).2 (.inl hf))) hsm).mono ?_
 rintro e w' ⟨rfl, hp⟩
 exact ⟨rfl, PN.heap h1 h2 h3 h4 hp ho⟩
theorem pn_collect (h : PN B v vn N os nm F w) (ro : Option Addr) (nr cr : Nat) (rs : List Int) (R : URow w ro nr cr rs) (hB : B <= w.heap.size) (ha : ∀ a, ro = some a -> ¬ F a.block) (hsm : nr <= 1000000) :
  Calls Tryz.prog 33 #[v, .slice ro nr cr] w fun e w' => ∃ ao cap, e = .returned (.slice ao nr cap) /\ URow w' ao nr cap (collR os (lvL os rs) rs) /\ PNPost B v vn N F w (collO os (lvL os rs)) nm w' := by
 obtain ⟨F1, F2, h1, h2, h3, h4⟩ := h.ok
 refine (pcollect_any h.fine ro nr cr rs w h1 R hB (fun a e hf => ha a e ((h4 _).2 (.inl hf))) hsm).mono ?_
 rintro e w' ⟨ao, cap, rfl, hu, _, F', p1, p2, p3, p4⟩
 refine ⟨ao, cap, rfl, hu, fun b => F' b \/ F2 b, ⟨⟨F', F2, p1, h2.keep (fun b e => p4.block b (h2.ge b e).2 (fun e1 => h3 b e1 e)), fun b e1 e2 => ?_, fun b => Iff.rfl⟩, coll_ok h.fine (Nat.le_trans (ph_used h1) (by decide)) (lvL_length _ _)⟩, fun b e => ?_, p4.mono (fun b _ e => (h4 b).2 (.inl e))⟩
 ·rcases p2 b e1 with e | e
  ·exact h3 b e e2
  ·have := (h2.ge b e2).2; omega
 ·rcases e with e | e
  ·rcases p2 b e with e | e
   ·exact .inl ((h4 b).2 (.inl e))
   ·exact .inr e
  ·exact .inl ((h4 b).2 (.inr e))
end
def ShowPost (os : List Ob) (nm : List ByteArray) (rts : List Int) (w : World) (e : Ending) (w' : World) : Prop :=
 ∃ a1 n1 c1 a2 n2 c2 W ns rs, e = .returned (GVal a1 n1 c1 a2 n2 c2) /\ Told (wordD os nm) rts W ns rs /\ Fine ns rs 300001 /\ GIs w' a1 n1 c1 a2 n2 c2 (canonN ns rs).1 (canonN ns rs).2 /\ GKeep w.heap.size w' a1 n1 c1 a2 n2 c2 (canonN ns rs).1 (canonN ns rs).2 /\ Below w.heap.size w w'
theorem layB_need (ns : List Nd) (rs : List Int) : needM ns rs = if layB ns rs = true then sumN (canonN ns rs).1 else -1 := by
 unfold needM layB
 by_cases h : goodG ns rs = true /\ (canonN ns rs).1.all (fun d => decide (0 <= sizeN d)) = true
 ·rw [if_pos h, if_pos (by rw [h.1, h.2]; rfl)]
 ·rw [if_neg h, if_neg (fun e => h (by rw [Bool.and_eq_true] at e; exact e))]
theorem layB_nodes {ns : List Nd} {rs : List Int} (h : layB ns rs = true) (hs : smallG ns) (hk : ∀ d ∈ ns, d.kids.length <= 100) (hn : ns.length <= 100) :
  (∀ d ∈ (canonN ns rs).1, LNd d /\ nodeB (canonN ns rs).1.length d = true) /\ (canonN ns rs).1.length <= 100 /\ (canonN ns rs).2.length = rs.length /\ goodG (canonN ns rs).1 (canonN ns rs).2 = true /\ (canonN ns rs).1.all (fun d => decide (0 <= sizeN d)) = true := by
 unfold layB at h
 rw [Bool.and_eq_true] at h
 obtain ⟨c1, c2, c3, c4⟩ := canon_nodes h.1 hs hk hn
 have hnd := goodG_nodes c4
 refine ⟨fun d hd => ⟨LNd.of (hnd d hd) (c1 d hd) (of_decide_eq_true (List.all_eq_true.1 h.2 d hd)), hnd d hd⟩, c2, c3, c4, h.2⟩
set_option maxHeartbeats 4000000 in
theorem sneed_any (an ar : Option Addr) (nn cn nr cr : Nat) (ns : List Nd) (rs : List Int) (w : World) (G : GOk w an nn cn ar nr cr ns rs) (hn : nn <= 100) (hnr : nr <= 100) (hT : TabsS w) :
  Calls Tryz.prog 19 #[GVal an nn cn ar nr cr] w fun e w' => e = .returned (.int .i64 (needM ns rs)) /\ Below w.heap.size w w' := by
 have b0 := Ba w (.cells #[.slice an nn cn, .slice ar nr cr] 41)
 have hx := GBox.new 41 w an ar nn cn nr cr
 obtain ⟨c0, c1⟩ := hx.c
 have C := hid (playable_any an ar nn cn nr cr ns rs (w.alloc (.cells #[.slice an nn cn, .slice ar nr cr] 41)) (G.below b0) hn (hT.1.below b0))
 have HB := hid b0
 have hlen : ns.length = nn := G.is.nodes.len
 have f1 := G.is.nodes.fits
 have f2 := G.is.nodes.most
 have f3 := G.is.roots.fits
 have f4 := G.is.roots.most
 unfold maxLen at f2 f4
 have HL := hid (layB_need ns rs)
 have HN : Hid (layB ns rs = true -> _) := fun h => layB_nodes h G.small G.kids (by omega)
 unfold LayableP at C
 unfold GVal at C ⊢
 rw [HL.out]
 clear G hT hx b0
 cases hb : layB ns rs
 ·simp only [hb, Bool.false_eq_true, ↓reduceIte] at C
  rw [if_neg (by decide)]
  clear HN HL hb
  go_enter Tryz.func19, Tryz.ntmps19
  go_wp2_with (go_at_call 35; (with_reducible refine C.out.mono ?_); rintro e W1 ⟨rfl, b1⟩; have HB1 := hid (Bt (Bt HB.out b1) (Ba W1 (.cells #[.slice none 0 0, .slice none 0 0] 41))); clear b1)
  go_ret
  exact ⟨rfl, HB1.out⟩
 ·simp only [hb, ↓reduceIte] at C
  rw [if_pos rfl]
  obtain ⟨n1, n2, n3, n4, n5⟩ := HN.out hb
  have CW : Hid (∀ (a1 : Option Addr) (m1 c1 : Nat) (W : World), NRow W a1 m1 c1 (canonN ns rs).1 -> m1 <= 2500 -> Calls Tryz.prog 36 #[.slice a1 m1 c1] W fun e w' => e = .returned (.int .i64 (sumN (canonN ns rs).1)) /\ Below W.heap.size W w') := fun a1 m1 c1 W R hm => pwords_any a1 m1 c1 _ W R (fun d hd => (n1 d hd).1) hm
  obtain ⟨cs, hcs⟩ : ∃ c, c = (canonN ns rs).1 := ⟨_, rfl⟩
  rw [<- hcs] at C CW n2 ⊢
  clear HN HL hb n1 n3 n4 n5 hcs
  go_enter Tryz.func19, Tryz.ntmps19
  go_wp2_with (first
   | (go_at_call 35; (with_reducible refine C.out.mono ?_); rintro e W1 ⟨a1, m1, k1, a2, m2, k2, rfl, g1, _, b1⟩; have HB1 := hid (Bt (Bt HB.out b1) (Ba W1 (.cells #[.slice a1 m1 k1, .slice a2 m2 k2] 41))); have hx1 := GBox.new 41 W1 a1 a2 m1 k1 m2 k2; obtain ⟨d0, d1⟩ := hx1.c; have h5 := g1.nodes.len; have C2 := hid (CW.out a1 m1 k1 _ (g1.nodes.below (Ba W1 (.cells #[.slice a1 m1 k1, .slice a2 m2 k2] 41))) (by omega)); clear b1 g1 hx1 h5)
   | (go_at_call 36; (with_reducible refine C2.out.mono ?_); rintro e W2 ⟨rfl, b2⟩; have HB2 := hid (Bt HB1.out b2); clear b2))
  go_ret
  exact ⟨rfl, HB2.out⟩
def nullF (d : Nd) : List Int := if d.kind = 7 \/ d.kind = 8 then List.replicate d.kids.length 2 else fieldsL d []
def nullsOf (cs : List Nd) : List Ob := (cs.filter (fun d => decide (0 < sizeN d))).map (fun d => ⟨fieldsK d, nullF d⟩)
theorem fieldsL_other {d : Nd} (hk : ¬ (d.kind = 7 \/ d.kind = 8)) (hz : 0 < sizeN d) (ws ws' : List Int) : fieldsL d ws = fieldsL d ws' := by
 unfold sizeN at hz
 unfold fieldsL
 by_cases h1 : d.kind = 1 \/ d.kind = 2 \/ d.kind = 4 \/ d.kind = 6 \/ d.kind = 10 \/ d.kind = 11
 ·rw [if_pos h1] at hz; omega
 rw [if_neg h1] at hz
 by_cases h3 : d.kind = 3
 ·rw [if_pos h3, if_pos h3]
 rw [if_neg h3] at hz ⊢
 rw [if_neg h3]
 by_cases h5 : d.kind = 5
 ·rw [if_pos h5, if_pos h5]
 rw [if_neg h5] at hz ⊢
 rw [if_neg h5]
 rw [if_neg hk] at hz
 by_cases h9 : d.kind = 9
 ·rw [if_pos h9, if_pos h9]
 rw [if_neg h9] at hz
 omega
theorem fieldsL_kids {d : Nd} (hk : d.kind = 7 \/ d.kind = 8) (ws : List Int) : fieldsL d ws = d.kids.map (fun k => ws.getD k.toNat 0) := by
 unfold fieldsL
 rw [if_neg (by omega), if_neg (by omega), if_neg (by omega)]
theorem nullF_len {d : Nd} (hz : 0 < sizeN d) (ws : List Int) : (nullF d).length = (fieldsL d ws).length := by
 unfold nullF
 by_cases hk : d.kind = 7 \/ d.kind = 8
 ·rw [if_pos hk, List.length_replicate, fieldsL_kids hk, List.length_map]
 ·rw [if_neg hk, fieldsL_other hk hz]
theorem null_nohd : isHd 2 = false := by decide
theorem nullF_nohd (d : Nd) : ∀ z ∈ nullF d, isHd z = false := by
 intro z hz
 unfold nullF at hz
 split at hz
 ·obtain ⟨_, rfl⟩ := List.mem_replicate.1 hz; exact null_nohd
 ·exact fields_nohd d (fun z h => by cases h) z hz
theorem nullsOf_app (a b : List Nd) : nullsOf (a ++ b) = nullsOf a ++ nullsOf b := by unfold nullsOf; rw [List.filter_append, List.map_append]
theorem objsOf_app (ws : List Int) (a b : List Nd) : objsOf ws (a ++ b) = objsOf ws a ++ objsOf ws b := by unfold objsOf; rw [List.filter_append, List.map_append]
theorem nullsOf_one (d : Nd) : nullsOf [d] = if 0 < sizeN d then [⟨fieldsK d, nullF d⟩] else [] := by
 unfold nullsOf
 by_cases hz : 0 < sizeN d
 ·rw [if_pos hz, List.filter_cons_of_pos (by exact decide_eq_true hz)]; rfl
 ·rw [if_neg hz, List.filter_cons_of_neg (by rw [decide_eq_false hz]; decide)]; rfl
theorem objsOf_one (ws : List Int) (d : Nd) : objsOf ws [d] = if 0 < sizeN d then [⟨fieldsK d, fieldsL d ws⟩] else [] := by
 unfold objsOf
 by_cases hz : 0 < sizeN d
 ·rw [if_pos hz, List.filter_cons_of_pos (by exact decide_eq_true hz)]; rfl
 ·rw [if_neg hz, List.filter_cons_of_neg (by rw [decide_eq_false hz]; decide)]; rfl
theorem take_one {cs : List Nd} {q : Nat} (h : q < cs.length) : cs.take (q + 1) = cs.take q ++ [cs.getD q default] := by
 rw [List.take_succ_eq_append_getElem h, List.getD_eq_getElem?_getD, List.getElem?_eq_getElem h]; rfl
theorem drop_one {cs : List Nd} {q : Nat} (h : q < cs.length) : cs.drop q = [cs.getD q default] ++ cs.drop (q + 1) := by
 rw [List.drop_eq_getElem_cons h, List.getD_eq_getElem?_getD, List.getElem?_eq_getElem h]; rfl
theorem sh_nulls (ws : List Int) : ∀ cs : List Nd, (nullsOf cs).map sh = (objsOf ws cs).map sh
 | [] => rfl
 | d :: cs => by
  have h1 := nullsOf_app [d] cs
  have h2 := objsOf_app ws [d] cs
  rw [List.singleton_append] at h1 h2
  rw [h1, h2, List.map_append, List.map_append, sh_nulls ws cs, nullsOf_one, objsOf_one]
  by_cases hz : 0 < sizeN d
  ·rw [if_pos hz, if_pos hz]
   show [(fieldsK d, (nullF d).length)] ++ _ = [(fieldsK d, (fieldsL d ws).length)] ++ _
   rw [nullF_len hz ws]
  ·rw [if_neg hz, if_neg hz]
def mixO (ws : List Int) (os : List Ob) (cs : List Nd) (q : Nat) : List Ob := (os ++ objsOf ws (cs.take q)) ++ nullsOf (cs.drop q)
theorem mix_zero (ws : List Int) (os : List Ob) (cs : List Nd) : mixO ws os cs 0 = os ++ nullsOf cs := by
 unfold mixO; simp [objsOf]
theorem mix_all (ws : List Int) (os : List Ob) (cs : List Nd) : mixO ws os cs cs.length = os ++ objsOf ws cs := by
 unfold mixO; simp [nullsOf]
theorem mix_sh (ws : List Int) (os : List Ob) (cs : List Nd) (q : Nat) : (mixO ws os cs q).map sh = (os ++ objsOf ws cs).map sh := by
 unfold mixO
 conv => rhs; rw [<- List.take_append_drop q cs, objsOf_app, <- List.append_assoc]
 rw [List.map_append, List.map_append (l₂ := objsOf ws (cs.drop q)), sh_nulls ws]
theorem mix_bare {ws : List Int} {os : List Ob} {cs : List Nd} {q : Nat} (h : q < cs.length) (hk : (cs.getD q default).kids = []) : mixO ws os cs (q + 1) = mixO ws os cs q := by
 unfold mixO
 rw [take_one h, drop_one h, objsOf_app, nullsOf_app, <- List.append_assoc, <- List.append_assoc]
 congr 2
 rw [objsOf_one, nullsOf_one]
 by_cases hz : 0 < sizeN (cs.getD q default)
 ·rw [if_pos hz, if_pos hz]
  congr 2
  unfold nullF
  by_cases h7 : (cs.getD q default).kind = 7 \/ (cs.getD q default).kind = 8
  ·rw [if_pos h7, fieldsL_kids h7, hk]; rfl
  ·rw [if_neg h7]; exact fieldsL_other h7 hz _ _
 ·rw [if_neg hz, if_neg hz]
def rowJ (d : Nd) (ws : List Int) (j : Nat) : List Int := (d.kids.take j).map (fun k => ws.getD k.toNat 0) ++ List.replicate (d.kids.length - j) 2
theorem rowJ_len {d : Nd} {ws : List Int} {j : Nat} (h : j <= d.kids.length) : (rowJ d ws j).length = d.kids.length := by
 unfold rowJ; rw [List.length_append, List.length_map, List.length_take, List.length_replicate]; omega
theorem rowJ_set {d : Nd} {ws : List Int} {j : Nat} (h : j < d.kids.length) : (rowJ d ws j).set j (ws.getD (d.kids.getD j 0).toNat 0) = rowJ d ws (j + 1) := by
 have hl : ((d.kids.take j).map (fun k => ws.getD k.toNat 0)).length = j := by rw [List.length_map, List.length_take]; omega
 unfold rowJ
 rw [List.set_append_right _ _ (by omega), hl, Nat.sub_self]
 have e1 : d.kids.length - j = (d.kids.length - (j + 1)) + 1 := by omega
 rw [e1, List.replicate_succ, List.set_cons_zero, List.take_succ_eq_append_getElem h, List.map_append, List.append_assoc]
 have e2 : d.kids.getD j 0 = d.kids[j] := by rw [List.getD_eq_getElem?_getD, List.getElem?_eq_getElem h]; rfl
 rw [e2]
 rfl
def midO (ws : List Int) (os : List Ob) (cs : List Nd) (q j : Nat) : List Ob := (os ++ objsOf ws (cs.take q)) ++ (⟨fieldsK (cs.getD q default), rowJ (cs.getD q default) ws j⟩ :: nullsOf (cs.drop (q + 1)))
theorem size_kids {d : Nd} (hk : d.kind = 7 \/ d.kind = 8) : 0 < sizeN d := by
 unfold sizeN
 rw [if_neg (by omega), if_neg (by omega), if_neg (by omega), if_pos hk]
 omega
theorem mid_zero {ws : List Int} {os : List Ob} {cs : List Nd} {q : Nat} (h : q < cs.length) (hk : (cs.getD q default).kind = 7 \/ (cs.getD q default).kind = 8) : midO ws os cs q 0 = mixO ws os cs q := by
 unfold midO mixO
 rw [drop_one h, nullsOf_app, nullsOf_one, if_pos (size_kids hk)]
 congr 2
 unfold nullF
 rw [if_pos hk]; rfl
theorem mid_all {ws : List Int} {os : List Ob} {cs : List Nd} {q : Nat} (h : q < cs.length) (hk : (cs.getD q default).kind = 7 \/ (cs.getD q default).kind = 8) : midO ws os cs q (cs.getD q default).kids.length = mixO ws os cs (q + 1) := by
 unfold midO mixO
 rw [take_one h, objsOf_app, objsOf_one, if_pos (size_kids hk), <- List.append_assoc, List.append_assoc (os ++ objsOf ws (cs.take q))]
 congr 2
 unfold rowJ
 rw [List.take_length, Nat.sub_self, fieldsL_kids hk]; simp
section
variable {N : Int} {os : List Ob} {nm : List ByteArray} {cs : List Nd}
theorem mid_sh {ws : List Int} {q j : Nat} (h : q < cs.length) (hk : (cs.getD q default).kind = 7 \/ (cs.getD q default).kind = 8) (hj : j <= (cs.getD q default).kids.length) : (midO ws os cs q j).map sh = (os ++ objsOf ws cs).map sh := by
 rw [<- mix_sh ws os cs q, <- mid_zero h hk]
 unfold midO
 rw [List.map_append (l₁ := os ++ objsOf ws (cs.take q)), List.map_append (l₁ := os ++ objsOf ws (cs.take q)), List.map_cons, List.map_cons]
 have e : sh ⟨fieldsK (cs.getD q default), rowJ (cs.getD q default) ws j⟩ = sh ⟨fieldsK (cs.getD q default), rowJ (cs.getD q default) ws 0⟩ := by
  show (fieldsK (cs.getD q default), (rowJ (cs.getD q default) ws j).length) = (fieldsK (cs.getD q default), (rowJ (cs.getD q default) ws 0).length)
  rw [rowJ_len hj, rowJ_len (Nat.zero_le _)]
 rw [e]
theorem mid_set (h : PutOk N os nm cs) {q j : Nat} (hq : q < cs.length) (hk : (cs.getD q default).kind = 7 \/ (cs.getD q default).kind = 8) (hj : j < (cs.getD q default).kids.length) :
  setM (midO (putS nm (usedL os) cs).ws os cs q j) ((putS nm (usedL os) cs).ws.getD q 0) 0 (j : Nat) ((putS nm (usedL os) cs).ws.getD ((cs.getD q default).kids.getD j 0).toNat 0) = (midO (putS nm (usedL os) cs).ws os cs q (j + 1), 0) := by
 obtain ⟨k, hf, _, _, _, hkk⟩ := h.place hq (size_kids hk)
 have hnh := getD_nohd (putS_nohd (nm := nm) (a := usedL os) (cs := cs) cs.length (Nat.le_refl _)) ((cs.getD q default).kids.getD j 0).toNat
 rw [List.take_length] at hnh
 generalize hws : (putS nm (usedL os) cs).ws = ws at *
 have hf2 : findM (midO ws os cs q j) (ws.getD q 0) = some k := by rw [sh_find (mid_sh hq hk (by omega))]; exact hf
 have hg : (midO ws os cs q j).getD k default = ⟨fieldsK (cs.getD q default), rowJ (cs.getD q default) ws j⟩ := by
  unfold midO
  rw [hkk, List.getD_eq_getElem?_getD, List.getElem?_append_right (Nat.le_refl _), Nat.sub_self]; rfl
 have hfm : fieldM (midO ws os cs q j) (ws.getD q 0) 0 (j : Nat) = ((k : Int), 0) := by
  unfold fieldM
  rw [hf2]
  simp only [hg]
  rw [if_neg (by simp), if_neg (by rw [rowJ_len (by omega)]; omega)]
 unfold setM
 rw [hfm, if_neg (by simp), if_neg (by unfold isHd at hnh; exact of_decide_eq_false hnh)]
 simp only [Int.toNat_natCast, hg]
 refine congrArg (fun l => (l, (0 : Int))) ?_
 unfold midO setF
 simp only
 rw [hkk, List.set_append_right _ _ (Nat.le_refl _), Nat.sub_self, List.set_cons_zero, rowJ_set hj]
theorem nulls_used {ws : List Int} (cs : List Nd) : usedL (nullsOf cs) = usedL (objsOf ws cs) := sh_used (sh_nulls ws cs)
theorem null_alloc (h : PutOk N os nm cs) {q : Nat} (hq : q < cs.length) (hz : 0 < sizeN (cs.getD q default)) :
  allocM (os ++ nullsOf (cs.take q)) N (fieldsK (cs.getD q default)) (nullF (cs.getD q default)) = (wordR 2 ((putS nm (usedL os) (cs.take q)).at_ : Nat) 0, 0) /\ allocO (os ++ nullsOf (cs.take q)) N (fieldsK (cs.getD q default)) (nullF (cs.getD q default)) = os ++ nullsOf (cs.take (q + 1)) := by
 have hu := objsOf_used (ws := []) h.sz q (by omega)
 have hsum := sumN_le h.sz (q + 1)
 rw [sumN_take hq] at hsum
 have hk := fieldsK_rng (cs.getD q default)
 have hl := fieldsL_len (ws := []) hz
 have hat := putS_at (nm := nm) (a := usedL os) h.sz q (by omega)
 have hr := h.room
 have hn := nullF_len hz []
 have huu : usedL (os ++ nullsOf (cs.take q)) = (putS nm (usedL os) (cs.take q)).at_ := by
  rw [usedL_append, nulls_used (ws := [])]; omega
 have hany : (nullF (cs.getD q default)).any isHd = false := by
  rw [List.any_eq_false]
  intro z hz'
  rw [nullF_nohd _ z hz']; decide
 have hal : allocM (os ++ nullsOf (cs.take q)) N (fieldsK (cs.getD q default)) (nullF (cs.getD q default)) = (wordR 2 ((putS nm (usedL os) (cs.take q)).at_ : Nat) 0, 0) := by
  unfold allocM
  rw [if_neg (by omega), hany, if_neg (by decide), if_neg (by rw [huu]; omega), huu]
 refine ⟨hal, ?_⟩
 unfold allocO
 rw [hal, if_pos rfl, take_one hq, nullsOf_app, nullsOf_one, if_pos hz, List.append_assoc]
theorem null_skip {q : Nat} (hq : q < cs.length) (hz : ¬ 0 < sizeN (cs.getD q default)) : nullsOf (cs.take (q + 1)) = nullsOf (cs.take q) := by
 rw [take_one hq, nullsOf_app, nullsOf_one, if_neg hz, List.append_nil]
end
theorem set_ok {os : List Ob} {p kind i z : Int} (h : OsOk os) (hz : U64 z) : OsOk (setM os p kind i z).1 := by
 unfold setM
 split
 ·exact h
 ·split
  ·exact h
  ·rename_i h0 h8
   obtain ⟨n, e1, e2, _⟩ := fieldM_ok (by simpa using h0)
   rw [e1]
   simp only [Int.toNat_natCast]
   have hm : os.getD n default ∈ os := by rw [List.getD_eq_getElem?_getD, List.getElem?_eq_getElem e2]; exact List.getElem_mem e2
   refine ⟨fun x hx => ?_, fun x hx => ?_, fun x hx => ?_⟩ <;> rcases List.mem_or_eq_of_mem_set hx with hx | rfl
   ·exact h.kd x hx
   ·have := h.kd _ hm; exact this
   ·exact h.uf x hx
   ·intro y hy
    simp only [setF] at hy
    rcases List.mem_or_eq_of_mem_set hy with hy | rfl
    ·exact h.uf _ hm y hy
    ·exact hz
   ·exact h.nh x hx
   ·intro y hy
    simp only [setF] at hy
    rcases List.mem_or_eq_of_mem_set hy with hy | rfl
    ·exact h.nh _ hm y hy
    ·exact decide_eq_false h8
section
variable {B : Nat} {v vn : Value} {N : Int} {os : List Ob} {nm : List ByteArray} {F : Nat -> Prop} {w w1 w' : World}
theorem PNPost.front {os' : List Ob} {nm' : List ByteArray} (hb : Below w.heap.size w w1) (h : PNPost B v vn N F w1 os' nm' w') : PNPost B v vn N F w os' nm' w' := by
 obtain ⟨F', h1, h2, h3⟩ := h
 have hs := hb.size
 exact ⟨F', h1, fun b e => (h2 b e).imp id (fun e => by omega), (Mod.of_below F hb).trans h3 (fun _ _ e => e)⟩
theorem pn_fill (h : PN B v vn N os nm F w) (kind n z : Int) (hk : Z64 kind) (hn : Z64 n) (hz : U64 z) (hB : B <= w.heap.size) (ho : OsOk (fillQ os N kind n z)) :
  Calls Tryz.prog 52 #[v, .int .i64 kind, .int .i64 n, .int .u64 z] w fun e w' => e = .returned (.tuple #[.int .u64 (fillP os N kind n z).1, .int .i64 (fillP os N kind n z).2]) /\ PNPost B v vn N F w (fillQ os N kind n z) nm w' := by
 obtain ⟨F1, F2, h1, h2, h3, h4⟩ := h.ok
 refine (pfill_any h.fine kind n z hk hn hz w h1 hB).mono ?_
 rintro e w' ⟨rfl, hp⟩
 exact ⟨rfl, PN.heap h1 h2 h3 h4 hp ho⟩
theorem pn_set (h : PN B v vn N os nm F w) (p kind i z : Int) (hp : U64 p) (hk : Z64 kind) (hi : Z64 i) (hz : U64 z) (hB : B <= w.heap.size) :
  Calls Tryz.prog 54 #[v, .int .u64 p, .int .i64 kind, .int .i64 i, .int .u64 z] w fun e w' => e = .returned (.int .i64 (setM os p kind i z).2) /\ PNPost B v vn N F w (setM os p kind i z).1 nm w' := by
 obtain ⟨F1, F2, h1, h2, h3, h4⟩ := h.ok
 refine (pset_any h.fine p kind i z hp hk hi hz w h1 hB).mono ?_
 rintro e w' ⟨rfl, hp'⟩
 exact ⟨rfl, PN.heap h1 h2 h3 h4 hp' (set_ok h.fine hz)⟩
theorem PN.room (h : PN B v vn N os nm F w) : Calls Tryz.prog 37 #[v] w fun e w' => e = .returned (.int .i64 (N - (usedL os : Nat))) /\ Below w.heap.size w w' := by
 obtain ⟨F1, F2, h1, h2, h3, h4⟩ := h.ok
 have := proom_any w h1
 rw [wordsL_length] at this
 exact this
theorem right5 {n : Nat} (h : n <= 1073741824) : rightB 5 (n : Int) 0 = true := by unfold rightB; simp; omega
theorem pname_word (h : PN B v vn N os nm F w) (t : ByteArray) (hB : B <= w.heap.size) (hl : nm.length <= 1000000) (ht : t.size <= 1000000) :
  Calls Tryz.prog 121 #[vn, .string t] w fun e w' => e = .returned (.int .u64 (wordR 5 ((idM nm t : Nat) : Int) 0)) /\ PNPost B v vn N F w os (idL nm t) w' := by
 have C := hid (pn_id h t hB hl ht)
 obtain ⟨gh, gp, _, rfl⟩ := h.ptrs
 have hle := idM_le nm t
 have CN : Hid (∀ W, Calls Tryz.prog 156 #[.int .i64 (idM nm t : Nat)] W fun e w' => e = .returned (.tuple #[.int .u64 (wordR 5 ((idM nm t : Nat) : Int) 0), .bool true]) /\ w' = W) := fun W => by
  have := name_any ((idM nm t : Nat) : Int) (by unfold Z64; omega) W
  rw [right5 (by omega)] at this
  exact this
 obtain ⟨x, hx⟩ : ∃ x, x = wordR 5 ((idM nm t : Nat) : Int) 0 := ⟨_, rfl⟩
 rw [<- hx] at CN ⊢
 obtain ⟨k, hk⟩ : ∃ k, k = idM nm t := ⟨_, rfl⟩
 rw [<- hk] at CN C
 clear hx hk h hle
 go_enter Tryz.func121, Tryz.ntmps121
 go_wp2_with (first
  | (go_at_call 24; (with_reducible refine C.out.mono ?_); rintro e W1 ⟨rfl, p1⟩; have HP := hid p1; have C2 := hid (CN.out W1); clear p1)
  | (go_at_call 156; (with_reducible refine C2.out.mono ?_); rintro e W2 ⟨rfl, hw2⟩; rw [hw2]; clear hw2))
 go_ret
 exact ⟨rfl, HP.out⟩
def intW (os : List Ob) (N : Int) (t : ByteArray) : Int := if fixB (txZ t) = true then wordR 1 (txZ t) 0 else (allocM os N 5 (bigL (decide (txZ t < 0)) (mg (txZ t).natAbs))).1
def intO (os : List Ob) (N : Int) (t : ByteArray) : List Ob := if fixB (txZ t) = true then os else allocO os N 5 (bigL (decide (txZ t < 0)) (mg (txZ t).natAbs))
set_option maxHeartbeats 4000000 in
theorem play_int (h : PN B v vn N os nm F w) (t : ByteArray) (ht : t.size <= 5000) (hp : printedB t = true) (hB : B <= w.heap.size) (ho : OsOk (intO os N t)) :
  Calls Tryz.prog 119 #[v, .string t] w fun e w' => e = .returned (.int .u64 (intW os N t)) /\ PNPost B v vn N F w (intO os N t) nm w' := by
 have C := hid (ptxt_parse t ht hp w)
 have HH := hid h
 have CF : Hid (∀ (neg : Bool) (ao : Option Addr) (n cap : Nat) (l : List Nat) (W : World), Row .u32 B32 W ao n cap l -> goodB neg l = true -> Calls Tryz.prog 152 #[.agg #[.bool neg, .slice ao n cap]] W (PFixPost (sgn neg (val B32 l)) W)) := fun neg ao n cap l W R g => pfixed_any neg ao n cap l W R g
 obtain ⟨gh, gp, hv, _⟩ := h.ptrs
 have HBB := hid hB
 unfold intW
 unfold intO at ho ⊢
 clear h ht hp hB
 cases hf : fixB (txZ t)
 ·rw [if_neg (by decide), if_neg (by decide)]
  rw [hf, if_neg (by decide)] at ho
  have HO := hid ho
  have HF := hid hf
  have CA : Hid (∀ (ao : Option Addr) (n cap : Nat) (W : World), Below w.heap.size w W -> n <= 1000000 -> URow W ao n cap (bigL (decide (txZ t < 0)) (mg (txZ t).natAbs)) -> (∀ a, ao = some a -> w.heap.size <= a.block) -> Calls Tryz.prog 34 #[v, .int .i64 5, .slice ao n cap] W fun e w' => e = .returned (.tuple #[.int .u64 (allocM os N 5 (bigL (decide (txZ t < 0)) (mg (txZ t).natAbs))).1, .int .i64 (allocM os N 5 (bigL (decide (txZ t < 0)) (mg (txZ t).natAbs))).2]) /\ PNPost B v vn N F w (allocO os N 5 (bigL (decide (txZ t < 0)) (mg (txZ t).natAbs))) nm w') := fun ao n cap W hb hn hu ha => by
   refine (pn_alloc (HH.out.on hb) 5 (by unfold Z64; omega) ao n cap _ hu (Nat.le_trans HBB.out hb.size) (fun a e hf => ?_) hn HO.out).mono ?_
   ·have := ha a e; have := (HH.out.ge _ hf).2; omega
   ·rintro e w' ⟨rfl, p⟩
    exact ⟨rfl, p.front hb⟩
  have CB : Hid (∀ (neg : Bool) (ao : Option Addr) (n cap : Nat) (l : List Nat) (W : World), Row .u32 B32 W ao n cap l -> n <= 40 -> Calls Tryz.prog 153 #[.agg #[.bool neg, .slice ao n cap]] W fun e w' => ∃ v, e = .returned v /\ w'.ownsRow W.heap.size 70 1 v (n + 1) (uz (bigL neg l)) /\ Below W.heap.size W w') := fun neg ao n cap l W R hn => pbig_any neg ao n cap l W R (by omega)
  have HBU : Hid (∀ z ∈ bigL (decide (txZ t < 0)) (mg (txZ t).natAbs), U64 z) := bigL_u _ _
  have HBL : Hid ((bigL (decide (txZ t < 0)) (mg (txZ t).natAbs)).length = (mg (txZ t).natAbs).length + 1) := bigL_len _ _
  obtain ⟨A, hA⟩ : ∃ A, A = allocM os N 5 (bigL (decide (txZ t < 0)) (mg (txZ t).natAbs)) := ⟨_, rfl⟩
  rw [<- hA] at CA ⊢
  obtain ⟨A1, A2⟩ := A
  simp only at CA ⊢
  clear hf hA ho
  subst hv
  go_enter Tryz.func119, Tryz.ntmps119
  go_wp2_with (first
   | (go_at_call 151; (with_reducible refine C.out.mono ?_); rintro e W1 ⟨neg, ao, n, cap, l, rfl, R, g, hz, hng, hl, hn40, b1⟩; have HBX := hid (Ba W1 (.cells #[.bool neg, .slice ao n cap] 134)); have hx := blk_new W1 #[.bool neg, .slice ao n cap] 134; have HX := hid hx; have c0 : (W1.alloc (.cells #[.bool neg, .slice ao n cap] 134)).cell? ⟨W1.heap.size, 0, none⟩ = some (.bool neg) := blk_cell hx 0; have c1 : (W1.alloc (.cells #[.bool neg, .slice ao n cap] 134)).cell? ⟨W1.heap.size, 1, none⟩ = some (.slice ao n cap) := blk_cell hx 1; have HR1 := hid (R.below HBX.out); have C2 := hid (CF.out neg ao n cap l _ HR1.out g); rw [hz] at C2; unfold PFixPost at C2; rw [HF.out] at C2; have HB1 := hid (Bt b1 HBX.out); have HLL := hid hl; have HNG := hid hng; have HLN := hid R.len; clear b1 R g hz hng hl hx)
   | (go_at_call 152; (with_reducible refine C2.out.mono ?_); rintro e W2 ⟨x, rfl, _, b2⟩; have HB2 := hid (Bt HB1.out b2); have hx2 := (b2.block W1.heap.size (by rw [size_alloc]; omega)).trans HX.out; have d0 : W2.cell? ⟨W1.heap.size, 0, none⟩ = some (.bool neg) := blk_cell hx2 0; have d1 : W2.cell? ⟨W1.heap.size, 1, none⟩ = some (.slice ao n cap) := blk_cell hx2 1; have C3 := hid (CB.out neg ao n cap l W2 (HR1.out.below b2) hn40); clear b2 hx2)
   | (go_at_call 153; (with_reducible refine C3.out.mono ?_); rintro e W3 ⟨vb, rfl, ho3, b3⟩; have HB3 := hid (Bt HB2.out b3); rw [HNG.out, HLL.out] at ho3; have e3 : n + 1 = (bigL (decide (txZ t < 0)) (mg (txZ t).natAbs)).length := (by rw [HBL.out, <- HLL.out, HLN.out]); rw [e3] at ho3; obtain ⟨a3, cap3, hv3, hu3⟩ := urow_own ho3 HBU.out; have hlt3 := fun b e => (ho3.lt b e).1; rw [hv3] at hlt3 ⊢; rw [<- e3] at hu3 hlt3 ⊢; have C4 := hid (CA.out a3 (n + 1) cap3 W3 HB3.out (by omega) hu3 (fun a e => Nat.le_trans HB2.out.size (hlt3 a.block (by rw [e]; rfl)))); clear b3 hu3 hlt3 hv3 ho3 e3)
   | (go_at_call 34; (with_reducible refine C4.out.mono ?_); rintro e W4 ⟨rfl, p4⟩; have HP4 := hid p4; clear p4))
  go_ret
  exact ⟨rfl, HP4.out⟩
 ·rw [if_pos rfl, if_pos rfl]
  have HF := hid hf
  have same : Hid (∀ W, Below w.heap.size w W -> PNPost B v vn N F w os nm W) := fun W hb => PNPost.same HH.out hb
  obtain ⟨x, hx⟩ : ∃ x, x = wordR 1 (txZ t) 0 := ⟨_, rfl⟩
  rw [<- hx]
  have HX := hid hx
  clear hf hx ho
  subst hv
  go_enter Tryz.func119, Tryz.ntmps119
  go_wp2_with (first
   | (go_at_call 151; (with_reducible refine C.out.mono ?_); rintro e W1 ⟨neg, ao, n, cap, l, rfl, R, g, hz, hng, hl, hn40, b1⟩; have HBX := hid (Ba W1 (.cells #[.bool neg, .slice ao n cap] 134)); have hx := blk_new W1 #[.bool neg, .slice ao n cap] 134; have c0 : (W1.alloc (.cells #[.bool neg, .slice ao n cap] 134)).cell? ⟨W1.heap.size, 0, none⟩ = some (.bool neg) := blk_cell hx 0; have c1 : (W1.alloc (.cells #[.bool neg, .slice ao n cap] 134)).cell? ⟨W1.heap.size, 1, none⟩ = some (.slice ao n cap) := blk_cell hx 1; have C2 := hid (CF.out neg ao n cap l _ (R.below HBX.out) g); rw [hz] at C2; unfold PFixPost at C2; rw [HF.out, <- HX.out] at C2; have HB1 := hid (Bt b1 HBX.out); clear b1 R g hz hng hl hx)
   | (go_at_call 152; (with_reducible refine C2.out.mono ?_); rintro e W2 ⟨x2, rfl, hx2, b2⟩; rw [hx2 (by trivial)]; have HB2 := hid (Bt HB1.out b2); clear b2 hx2))
  go_ret
  exact ⟨rfl, same.out _ HB2.out⟩
end
end Go.Proofs.YtadfihnffboelaaGreatDoor
