import Derived.Test.YticimejfjjmikaaGreatDoorSG8
import Derived.Test.YticimejfjjmikaaGreatDoorE2
import Derived.Test.YticimejfjjmikaaGreatDoorSL8
set_option linter.unusedVariables false
set_option linter.unusedSimpArgs false
namespace Go.Proofs.YticimejfjjmikaaGreatDoor
open Go.RowKit
def nullF (d : Nd) : List Int := if d.kind = 7 \/ d.kind = 8 then List.replicate d.kids.length 2 else fieldsL d []
def nullsOf (cs : List Nd) : List Ob := (cs.filter (fun d => decide (0 < sizeN d))).map (fun d => ⟨fieldsK d, nullF d⟩)
theorem fieldsL_other {d : Nd} (hk : ¬ (d.kind = 7 \/ d.kind = 8)) (hz : 0 < sizeN d) (ws ws' : List Int) : fieldsL d ws = fieldsL d ws' := by
 unfold sizeN at hz
 unfold fieldsL
 by_cases h1 : d.kind = 1 \/ d.kind = 2 \/ d.kind = 4 \/ d.kind = 6 \/ d.kind = 10 \/ d.kind = 11
 ·rw [if_pos h1] at hz; omega
 rw [if_neg h1] at hz
 by_cases h3 : d.kind = 3
 ·rw [if_pos h3, if_pos h3]
 rw [if_neg h3] at hz ⊢
 rw [if_neg h3]
 by_cases h5 : d.kind = 5
 ·rw [if_pos h5, if_pos h5]
 rw [if_neg h5] at hz ⊢
 rw [if_neg h5]
 rw [if_neg hk] at hz
 by_cases h9 : d.kind = 9
 ·rw [if_pos h9, if_pos h9]
 rw [if_neg h9] at hz
 omega
theorem fieldsL_kids {d : Nd} (hk : d.kind = 7 \/ d.kind = 8) (ws : List Int) : fieldsL d ws = d.kids.map (fun k => ws.getD k.toNat 0) := by
 unfold fieldsL
 rw [if_neg (by omega), if_neg (by omega), if_neg (by omega)]
theorem nullF_len {d : Nd} (hz : 0 < sizeN d) (ws : List Int) : (nullF d).length = (fieldsL d ws).length := by
 unfold nullF
 by_cases hk : d.kind = 7 \/ d.kind = 8
 ·rw [if_pos hk, List.length_replicate, fieldsL_kids hk, List.length_map]
 ·rw [if_neg hk, fieldsL_other hk hz]
theorem null_nohd : isHd 2 = false := by decide
theorem nullF_nohd (d : Nd) : ∀ z ∈ nullF d, isHd z = false := by
 intro z hz
 unfold nullF at hz
 split at hz
 ·obtain ⟨_, rfl⟩ := List.mem_replicate.1 hz; exact null_nohd
 ·exact fields_nohd d (fun z h => by cases h) z hz
theorem nullsOf_app (a b : List Nd) : nullsOf (a ++ b) = nullsOf a ++ nullsOf b := by unfold nullsOf; rw [List.filter_append, List.map_append]
theorem objsOf_app (ws : List Int) (a b : List Nd) : objsOf ws (a ++ b) = objsOf ws a ++ objsOf ws b := by unfold objsOf; rw [List.filter_append, List.map_append]
theorem nullsOf_one (d : Nd) : nullsOf [d] = if 0 < sizeN d then [⟨fieldsK d, nullF d⟩] else [] := by
 unfold nullsOf
 by_cases hz : 0 < sizeN d
 ·rw [if_pos hz, List.filter_cons_of_pos (by exact decide_eq_true hz)]; rfl
 ·rw [if_neg hz, List.filter_cons_of_neg (by rw [decide_eq_false hz]; decide)]; rfl
theorem objsOf_one (ws : List Int) (d : Nd) : objsOf ws [d] = if 0 < sizeN d then [⟨fieldsK d, fieldsL d ws⟩] else [] := by
 unfold objsOf
 by_cases hz : 0 < sizeN d
 ·rw [if_pos hz, List.filter_cons_of_pos (by exact decide_eq_true hz)]; rfl
 ·rw [if_neg hz, List.filter_cons_of_neg (by rw [decide_eq_false hz]; decide)]; rfl
theorem take_one {cs : List Nd} {q : Nat} (h : q < cs.length) : cs.take (q + 1) = cs.take q ++ [cs.getD q default] := by
 rw [List.take_succ_eq_append_getElem h, List.getD_eq_getElem?_getD, List.getElem?_eq_getElem h]; rfl
theorem drop_one {cs : List Nd} {q : Nat} (h : q < cs.length) : cs.drop q = [cs.getD q default] ++ cs.drop (q + 1) := by
 rw [List.drop_eq_getElem_cons h, List.getD_eq_getElem?_getD, List.getElem?_eq_getElem h]; rfl
theorem sh_nulls (ws : List Int) : ∀ cs : List Nd, (nullsOf cs).map sh = (objsOf ws cs).map sh
 | [] => rfl
 | d :: cs => by
  have h1 := nullsOf_app [d] cs
  have h2 := objsOf_app ws [d] cs
  rw [List.singleton_append] at h1 h2
  rw [h1, h2, List.map_append, List.map_append, sh_nulls ws cs, nullsOf_one, objsOf_one]
  by_cases hz : 0 < sizeN d
  ·rw [if_pos hz, if_pos hz]
   show [(fieldsK d, (nullF d).length)] ++ _ = [(fieldsK d, (fieldsL d ws).length)] ++ _
   rw [nullF_len hz ws]
  ·rw [if_neg hz, if_neg hz]
def mixO (ws : List Int) (os : List Ob) (cs : List Nd) (q : Nat) : List Ob := (os ++ objsOf ws (cs.take q)) ++ nullsOf (cs.drop q)
theorem mix_zero (ws : List Int) (os : List Ob) (cs : List Nd) : mixO ws os cs 0 = os ++ nullsOf cs := by
 unfold mixO; simp [objsOf]
theorem mix_all (ws : List Int) (os : List Ob) (cs : List Nd) : mixO ws os cs cs.length = os ++ objsOf ws cs := by
 unfold mixO; simp [nullsOf]
theorem mix_sh (ws : List Int) (os : List Ob) (cs : List Nd) (q : Nat) : (mixO ws os cs q).map sh = (os ++ objsOf ws cs).map sh := by
 unfold mixO
 conv => rhs; rw [<- List.take_append_drop q cs, objsOf_app, <- List.append_assoc]
 rw [List.map_append, List.map_append (l₂ := objsOf ws (cs.drop q)), sh_nulls ws]
theorem mix_bare {ws : List Int} {os : List Ob} {cs : List Nd} {q : Nat} (h : q < cs.length) (hk : (cs.getD q default).kids = []) : mixO ws os cs (q + 1) = mixO ws os cs q := by
 unfold mixO
 rw [take_one h, drop_one h, objsOf_app, nullsOf_app, <- List.append_assoc, <- List.append_assoc]
 congr 2
 rw [objsOf_one, nullsOf_one]
 by_cases hz : 0 < sizeN (cs.getD q default)
 ·rw [if_pos hz, if_pos hz]
  congr 2
  unfold nullF
  by_cases h7 : (cs.getD q default).kind = 7 \/ (cs.getD q default).kind = 8
  ·rw [if_pos h7, fieldsL_kids h7, hk]; rfl
  ·rw [if_neg h7]; exact fieldsL_other h7 hz _ _
 ·rw [if_neg hz, if_neg hz]
def rowJ (d : Nd) (ws : List Int) (j : Nat) : List Int := (d.kids.take j).map (fun k => ws.getD k.toNat 0) ++ List.replicate (d.kids.length - j) 2
theorem rowJ_len {d : Nd} {ws : List Int} {j : Nat} (h : j <= d.kids.length) : (rowJ d ws j).length = d.kids.length := by
 unfold rowJ; rw [List.length_append, List.length_map, List.length_take, List.length_replicate]; omega
theorem rowJ_set {d : Nd} {ws : List Int} {j : Nat} (h : j < d.kids.length) : (rowJ d ws j).set j (ws.getD (d.kids.getD j 0).toNat 0) = rowJ d ws (j + 1) := by
 have hl : ((d.kids.take j).map (fun k => ws.getD k.toNat 0)).length = j := by rw [List.length_map, List.length_take]; omega
 unfold rowJ
 rw [List.set_append_right _ _ (by omega), hl, Nat.sub_self]
 have e1 : d.kids.length - j = (d.kids.length - (j + 1)) + 1 := by omega
 rw [e1, List.replicate_succ, List.set_cons_zero, List.take_succ_eq_append_getElem h, List.map_append, List.append_assoc]
 have e2 : d.kids.getD j 0 = d.kids[j] := by rw [List.getD_eq_getElem?_getD, List.getElem?_eq_getElem h]; rfl
 rw [e2]
 rfl
def midO (ws : List Int) (os : List Ob) (cs : List Nd) (q j : Nat) : List Ob := (os ++ objsOf ws (cs.take q)) ++ (⟨fieldsK (cs.getD q default), rowJ (cs.getD q default) ws j⟩ :: nullsOf (cs.drop (q + 1)))
theorem size_kids {d : Nd} (hk : d.kind = 7 \/ d.kind = 8) : 0 < sizeN d := by
 unfold sizeN
 rw [if_neg (by omega), if_neg (by omega), if_neg (by omega), if_pos hk]
 omega
theorem mid_zero {ws : List Int} {os : List Ob} {cs : List Nd} {q : Nat} (h : q < cs.length) (hk : (cs.getD q default).kind = 7 \/ (cs.getD q default).kind = 8) : midO ws os cs q 0 = mixO ws os cs q := by
 unfold midO mixO
 rw [drop_one h, nullsOf_app, nullsOf_one, if_pos (size_kids hk)]
 congr 2
 unfold nullF
 rw [if_pos hk]; rfl
theorem mid_all {ws : List Int} {os : List Ob} {cs : List Nd} {q : Nat} (h : q < cs.length) (hk : (cs.getD q default).kind = 7 \/ (cs.getD q default).kind = 8) : midO ws os cs q (cs.getD q default).kids.length = mixO ws os cs (q + 1) := by
 unfold midO mixO
 rw [take_one h, objsOf_app, objsOf_one, if_pos (size_kids hk), <- List.append_assoc, List.append_assoc (os ++ objsOf ws (cs.take q))]
 congr 2
 unfold rowJ
 rw [List.take_length, Nat.sub_self, fieldsL_kids hk]; simp
section
variable {N : Int} {os : List Ob} {nm : List ByteArray} {cs : List Nd}
theorem mid_sh {ws : List Int} {q j : Nat} (h : q < cs.length) (hk : (cs.getD q default).kind = 7 \/ (cs.getD q default).kind = 8) (hj : j <= (cs.getD q default).kids.length) : (midO ws os cs q j).map sh = (os ++ objsOf ws cs).map sh := by
 rw [<- mix_sh ws os cs q, <- mid_zero h hk]
 unfold midO
 rw [List.map_append (l₁ := os ++ objsOf ws (cs.take q)), List.map_append (l₁ := os ++ objsOf ws (cs.take q)), List.map_cons, List.map_cons]
 have e : sh ⟨fieldsK (cs.getD q default), rowJ (cs.getD q default) ws j⟩ = sh ⟨fieldsK (cs.getD q default), rowJ (cs.getD q default) ws 0⟩ := by
  show (fieldsK (cs.getD q default), (rowJ (cs.getD q default) ws j).length) = (fieldsK (cs.getD q default), (rowJ (cs.getD q default) ws 0).length)
  rw [rowJ_len hj, rowJ_len (Nat.zero_le _)]
 rw [e]
theorem mid_set (h : PutOk N os nm cs) {q j : Nat} (hq : q < cs.length) (hk : (cs.getD q default).kind = 7 \/ (cs.getD q default).kind = 8) (hj : j < (cs.getD q default).kids.length) :
  setM (midO (putS nm (usedL os) cs).ws os cs q j) ((putS nm (usedL os) cs).ws.getD q 0) 0 (j : Nat) ((putS nm (usedL os) cs).ws.getD ((cs.getD q default).kids.getD j 0).toNat 0) = (midO (putS nm (usedL os) cs).ws os cs q (j + 1), 0) := by
 obtain ⟨k, hf, _, _, _, hkk⟩ := h.place hq (size_kids hk)
 have hnh := getD_nohd (putS_nohd (nm := nm) (a := usedL os) (cs := cs) cs.length (Nat.le_refl _)) ((cs.getD q default).kids.getD j 0).toNat
 rw [List.take_length] at hnh
 generalize hws : (putS nm (usedL os) cs).ws = ws at *
 have hf2 : findM (midO ws os cs q j) (ws.getD q 0) = some k := by rw [sh_find (mid_sh hq hk (by omega))]; exact hf
 have hg : (midO ws os cs q j).getD k default = ⟨fieldsK (cs.getD q default), rowJ (cs.getD q default) ws j⟩ := by
  unfold midO
  rw [hkk, List.getD_eq_getElem?_getD, List.getElem?_append_right (Nat.le_refl _), Nat.sub_self]; rfl
 have hfm : fieldM (midO ws os cs q j) (ws.getD q 0) 0 (j : Nat) = ((k : Int), 0) := by
  unfold fieldM
  rw [hf2]
  simp only [hg]
  rw [if_neg (by simp), if_neg (by rw [rowJ_len (by omega)]; omega)]
 unfold setM
 rw [hfm, if_neg (by simp), if_neg (by unfold isHd at hnh; exact of_decide_eq_false hnh)]
 simp only [Int.toNat_natCast, hg]
 refine congrArg (fun l => (l, (0 : Int))) ?_
 unfold midO setF
 simp only
 rw [hkk, List.set_append_right _ _ (Nat.le_refl _), Nat.sub_self, List.set_cons_zero, rowJ_set hj]
theorem nulls_used {ws : List Int} (cs : List Nd) : usedL (nullsOf cs) = usedL (objsOf ws cs) := sh_used (sh_nulls ws cs)
theorem null_alloc (h : PutOk N os nm cs) {q : Nat} (hq : q < cs.length) (hz : 0 < sizeN (cs.getD q default)) :
  allocM (os ++ nullsOf (cs.take q)) N (fieldsK (cs.getD q default)) (nullF (cs.getD q default)) = (wordR 2 ((putS nm (usedL os) (cs.take q)).at_ : Nat) 0, 0) /\ allocO (os ++ nullsOf (cs.take q)) N (fieldsK (cs.getD q default)) (nullF (cs.getD q default)) = os ++ nullsOf (cs.take (q + 1)) := by
 have hu := objsOf_used (ws := []) h.sz q (by omega)
 have hsum := sumN_le h.sz (q + 1)
 rw [sumN_take hq] at hsum
 have hk := fieldsK_rng (cs.getD q default)
 have hl := fieldsL_len (ws := []) hz
 have hat := putS_at (nm := nm) (a := usedL os) h.sz q (by omega)
 have hr := h.room
 have hn := nullF_len hz []
 have huu : usedL (os ++ nullsOf (cs.take q)) = (putS nm (usedL os) (cs.take q)).at_ := by
  rw [usedL_append, nulls_used (ws := [])]; omega
 have hany : (nullF (cs.getD q default)).any isHd = false := by
  rw [List.any_eq_false]
  intro z hz'
  rw [nullF_nohd _ z hz']; decide
 have hal : allocM (os ++ nullsOf (cs.take q)) N (fieldsK (cs.getD q default)) (nullF (cs.getD q default)) = (wordR 2 ((putS nm (usedL os) (cs.take q)).at_ : Nat) 0, 0) := by
  unfold allocM
  rw [if_neg (by omega), hany, if_neg (by decide), if_neg (by rw [huu]; omega), huu]
 refine ⟨hal, ?_⟩
 unfold allocO
 rw [hal, if_pos rfl, take_one hq, nullsOf_app, nullsOf_one, if_pos hz, List.append_assoc]
theorem null_skip {q : Nat} (hq : q < cs.length) (hz : ¬ 0 < sizeN (cs.getD q default)) : nullsOf (cs.take (q + 1)) = nullsOf (cs.take q) := by
 rw [take_one hq, nullsOf_app, nullsOf_one, if_neg hz, List.append_nil]
end
set_option maxRecDepth 100000
theorem set_ok {os : List Ob} {p kind i z : Int} (h : OsOk os) (hz : U64 z) : OsOk (setM os p kind i z).1 := by
 unfold setM
 split
 ·exact h
 ·split
  ·exact h
  ·rename_i h0 h8
   obtain ⟨n, e1, e2, _⟩ := fieldM_ok (by simpa using h0)
   rw [e1]
   simp only [Int.toNat_natCast]
   have hm : os.getD n default ∈ os := by rw [List.getD_eq_getElem?_getD, List.getElem?_eq_getElem e2]; exact List.getElem_mem e2
   refine ⟨fun x hx => ?_, fun x hx => ?_, fun x hx => ?_⟩ <;> rcases List.mem_or_eq_of_mem_set hx with hx | rfl
   ·exact h.kd x hx
   ·have := h.kd _ hm; exact this
   ·exact h.uf x hx
   ·intro y hy
    simp only [setF] at hy
    rcases List.mem_or_eq_of_mem_set hy with hy | rfl
    ·exact h.uf _ hm y hy
    ·exact hz
   ·exact h.nh x hx
   ·intro y hy
    simp only [setF] at hy
    rcases List.mem_or_eq_of_mem_set hy with hy | rfl
    ·exact h.nh _ hm y hy
    ·exact decide_eq_false h8
section
variable {B : Nat} {v vn : Value} {N : Int} {os : List Ob} {nm : List ByteArray} {F : Nat -> Prop} {w w1 w' : World}
theorem PNPost.front {os' : List Ob} {nm' : List ByteArray} (hb : Below w.heap.size w w1) (h : PNPost B v vn N F w1 os' nm' w') : PNPost B v vn N F w os' nm' w' := by
 obtain ⟨F', h1, h2, h3⟩ := h
 have hs := hb.size
 exact ⟨F', h1, fun b e => (h2 b e).imp id (fun e => by omega), (Mod.of_below F hb).trans h3 (fun _ _ e => e)⟩
theorem pn_fill (h : PN B v vn N os nm F w) (kind n z : Int) (hk : Z64 kind) (hn : Z64 n) (hz : U64 z) (hB : B <= w.heap.size) (ho : OsOk (fillQ os N kind n z)) :
  Calls Tryz.prog 34 #[v, .int .i64 kind, .int .i64 n, .int .u64 z] w fun e w' => e = .returned (.tuple #[.int .u64 (fillP os N kind n z).1, .int .i64 (fillP os N kind n z).2]) /\ PNPost B v vn N F w (fillQ os N kind n z) nm w' := by
 obtain ⟨F1, F2, h1, h2, h3, h4⟩ := h.ok
 refine (pfill_any h.fine kind n z hk hn hz w h1 hB).mono ?_
 rintro e w' ⟨rfl, hp⟩
 exact ⟨rfl, PN.heap h1 h2 h3 h4 hp ho⟩
theorem pn_set (h : PN B v vn N os nm F w) (p kind i z : Int) (hp : U64 p) (hk : Z64 kind) (hi : Z64 i) (hz : U64 z) (hB : B <= w.heap.size) :
  Calls Tryz.prog 36 #[v, .int .u64 p, .int .i64 kind, .int .i64 i, .int .u64 z] w fun e w' => e = .returned (.int .i64 (setM os p kind i z).2) /\ PNPost B v vn N F w (setM os p kind i z).1 nm w' := by
 obtain ⟨F1, F2, h1, h2, h3, h4⟩ := h.ok
 refine (pset_any h.fine p kind i z hp hk hi hz w h1 hB).mono ?_
 rintro e w' ⟨rfl, hp'⟩
 exact ⟨rfl, PN.heap h1 h2 h3 h4 hp' (set_ok h.fine hz)⟩
theorem PN.room (h : PN B v vn N os nm F w) : Calls Tryz.prog 86 #[v] w fun e w' => e = .returned (.int .i64 (N - (usedL os : Nat))) /\ Below w.heap.size w w' := by
 obtain ⟨F1, F2, h1, h2, h3, h4⟩ := h.ok
 have := proom_any w h1
 rw [wordsL_length] at this
 exact this
theorem right5 {n : Nat} (h : n <= 1073741824) : rightB 5 (n : Int) 0 = true := by unfold rightB; simp; omega
theorem pname_word (h : PN B v vn N os nm F w) (t : ByteArray) (hB : B <= w.heap.size) (hl : nm.length <= 1000000) (ht : t.size <= 1000000) :
  Calls Tryz.prog 177 #[vn, .string t] w fun e w' => e = .returned (.int .u64 (wordR 5 ((idM nm t : Nat) : Int) 0)) /\ PNPost B v vn N F w os (idL nm t) w' := by
 have C := hid (pn_id h t hB hl ht)
 obtain ⟨gh, gp, _, rfl⟩ := h.ptrs
 have hle := idM_le nm t
 have CN : Hid (∀ W, Calls Tryz.prog 200 #[.int .i64 (idM nm t : Nat)] W fun e w' => e = .returned (.tuple #[.int .u64 (wordR 5 ((idM nm t : Nat) : Int) 0), .bool true]) /\ w' = W) := fun W => by
  have := name_any ((idM nm t : Nat) : Int) (by unfold Z64; omega) W
  rw [right5 (by omega)] at this
  exact this
 obtain ⟨x, hx⟩ : ∃ x, x = wordR 5 ((idM nm t : Nat) : Int) 0 := ⟨_, rfl⟩
 rw [<- hx] at CN ⊢
 obtain ⟨k, hk⟩ : ∃ k, k = idM nm t := ⟨_, rfl⟩
 rw [<- hk] at CN C
 clear hx hk h hle
 go_enter Tryz.func177, Tryz.ntmps177
 go_wp2_with (first
  | (go_at_call 32; (with_reducible refine C.out.mono ?_); rintro e W1 ⟨rfl, p1⟩; have HP := hid p1; have C2 := hid (CN.out W1); clear p1)
  | (go_at_call 200; (with_reducible refine C2.out.mono ?_); rintro e W2 ⟨rfl, hw2⟩; rw [hw2]; clear hw2))
 go_ret
 exact ⟨rfl, HP.out⟩
def intW (os : List Ob) (N : Int) (t : ByteArray) : Int := if fixB (txZ t) = true then wordR 1 (txZ t) 0 else (allocM os N 5 (bigL (decide (txZ t < 0)) (mg (txZ t).natAbs))).1
def intO (os : List Ob) (N : Int) (t : ByteArray) : List Ob := if fixB (txZ t) = true then os else allocO os N 5 (bigL (decide (txZ t < 0)) (mg (txZ t).natAbs))
set_option maxHeartbeats 4000000 in
theorem play_int (h : PN B v vn N os nm F w) (t : ByteArray) (ht : t.size <= 5000) (hp : printedB t = true) (hB : B <= w.heap.size) (ho : OsOk (intO os N t)) :
  Calls Tryz.prog 175 #[v, .string t] w fun e w' => e = .returned (.int .u64 (intW os N t)) /\ PNPost B v vn N F w (intO os N t) nm w' := by
 have C := hid (ptxt_parse t ht hp w)
 have HH := hid h
 have CF : Hid (∀ (neg : Bool) (ao : Option Addr) (n cap : Nat) (l : List Nat) (W : World), Row .u32 B32 W ao n cap l -> goodB neg l = true -> Calls Tryz.prog 159 #[.agg #[.bool neg, .slice ao n cap]] W (PFixPost (sgn neg (val B32 l)) W)) := fun neg ao n cap l W R g => pfixed_any neg ao n cap l W R g
 obtain ⟨gh, gp, hv, _⟩ := h.ptrs
 have HBB := hid hB
 unfold intW
 unfold intO at ho ⊢
 clear h ht hp hB
 cases hf : fixB (txZ t)
 ·rw [if_neg (by decide), if_neg (by decide)]
  rw [hf, if_neg (by decide)] at ho
  have HO := hid ho
  have HF := hid hf
  have CA : Hid (∀ (ao : Option Addr) (n cap : Nat) (W : World), Below w.heap.size w W -> n <= 1000000 -> URow W ao n cap (bigL (decide (txZ t < 0)) (mg (txZ t).natAbs)) -> (∀ a, ao = some a -> w.heap.size <= a.block) -> Calls Tryz.prog 47 #[v, .int .i64 5, .slice ao n cap] W fun e w' => e = .returned (.tuple #[.int .u64 (allocM os N 5 (bigL (decide (txZ t < 0)) (mg (txZ t).natAbs))).1, .int .i64 (allocM os N 5 (bigL (decide (txZ t < 0)) (mg (txZ t).natAbs))).2]) /\ PNPost B v vn N F w (allocO os N 5 (bigL (decide (txZ t < 0)) (mg (txZ t).natAbs))) nm w') := fun ao n cap W hb hn hu ha => by
   refine (pn_alloc (HH.out.on hb) 5 (by unfold Z64; omega) ao n cap _ hu (Nat.le_trans HBB.out hb.size) (fun a e hf => ?_) hn HO.out).mono ?_
   ·have := ha a e; have := (HH.out.ge _ hf).2; omega
   ·rintro e w' ⟨rfl, p⟩
    exact ⟨rfl, p.front hb⟩
  have CB : Hid (∀ (neg : Bool) (ao : Option Addr) (n cap : Nat) (l : List Nat) (W : World), Row .u32 B32 W ao n cap l -> n <= 40 -> Calls Tryz.prog 198 #[.agg #[.bool neg, .slice ao n cap]] W fun e w' => ∃ v, e = .returned v /\ w'.ownsRow W.heap.size 44 1 v (n + 1) (uz (bigL neg l)) /\ Below W.heap.size W w') := fun neg ao n cap l W R hn => pbig_any neg ao n cap l W R (by omega)
  have HBU : Hid (∀ z ∈ bigL (decide (txZ t < 0)) (mg (txZ t).natAbs), U64 z) := bigL_u _ _
  have HBL : Hid ((bigL (decide (txZ t < 0)) (mg (txZ t).natAbs)).length = (mg (txZ t).natAbs).length + 1) := bigL_len _ _
  obtain ⟨A, hA⟩ : ∃ A, A = allocM os N 5 (bigL (decide (txZ t < 0)) (mg (txZ t).natAbs)) := ⟨_, rfl⟩
  rw [<- hA] at CA ⊢
  obtain ⟨A1, A2⟩ := A
  simp only at CA ⊢
  clear hf hA ho
  subst hv
  go_enter Tryz.func175, Tryz.ntmps175
  go_wp2_with (first
   | (go_at_call 197; (with_reducible refine C.out.mono ?_); rintro e W1 ⟨neg, ao, n, cap, l, rfl, R, g, hz, hng, hl, hn40, b1⟩; have HBX := hid (Ba W1 (.cells #[.bool neg, .slice ao n cap] 104)); have hx := blk_new W1 #[.bool neg, .slice ao n cap] 104; have HX := hid hx; have c0 : (W1.alloc (.cells #[.bool neg, .slice ao n cap] 104)).cell? ⟨W1.heap.size, 0, none⟩ = some (.bool neg) := blk_cell hx 0; have c1 : (W1.alloc (.cells #[.bool neg, .slice ao n cap] 104)).cell? ⟨W1.heap.size, 1, none⟩ = some (.slice ao n cap) := blk_cell hx 1; have HR1 := hid (R.below HBX.out); have C2 := hid (CF.out neg ao n cap l _ HR1.out g); rw [hz] at C2; unfold PFixPost at C2; rw [HF.out] at C2; have HB1 := hid (Bt b1 HBX.out); have HLL := hid hl; have HNG := hid hng; have HLN := hid R.len; clear b1 R g hz hng hl hx)
   | (go_at_call 159; (with_reducible refine C2.out.mono ?_); rintro e W2 ⟨x, rfl, _, b2⟩; have HB2 := hid (Bt HB1.out b2); have hx2 := (b2.block W1.heap.size (by rw [size_alloc]; omega)).trans HX.out; have d0 : W2.cell? ⟨W1.heap.size, 0, none⟩ = some (.bool neg) := blk_cell hx2 0; have d1 : W2.cell? ⟨W1.heap.size, 1, none⟩ = some (.slice ao n cap) := blk_cell hx2 1; have C3 := hid (CB.out neg ao n cap l W2 (HR1.out.below b2) hn40); clear b2 hx2)
   | (go_at_call 198; (with_reducible refine C3.out.mono ?_); rintro e W3 ⟨vb, rfl, ho3, b3⟩; have HB3 := hid (Bt HB2.out b3); rw [HNG.out, HLL.out] at ho3; have e3 : n + 1 = (bigL (decide (txZ t < 0)) (mg (txZ t).natAbs)).length := (by rw [HBL.out, <- HLL.out, HLN.out]); rw [e3] at ho3; obtain ⟨a3, cap3, hv3, hu3⟩ := urow_own ho3 HBU.out; have hlt3 := fun b e => (ho3.lt b e).1; rw [hv3] at hlt3 ⊢; rw [<- e3] at hu3 hlt3 ⊢; have C4 := hid (CA.out a3 (n + 1) cap3 W3 HB3.out (by omega) hu3 (fun a e => Nat.le_trans HB2.out.size (hlt3 a.block (by rw [e]; rfl)))); clear b3 hu3 hlt3 hv3 ho3 e3)
   | (go_at_call 47; (with_reducible refine C4.out.mono ?_); rintro e W4 ⟨rfl, p4⟩; have HP4 := hid p4; clear p4))
  go_ret
  exact ⟨rfl, HP4.out⟩
 ·rw [if_pos rfl, if_pos rfl]
  have HF := hid hf
  have same : Hid (∀ W, Below w.heap.size w W -> PNPost B v vn N F w os nm W) := fun W hb => PNPost.same HH.out hb
  obtain ⟨x, hx⟩ : ∃ x, x = wordR 1 (txZ t) 0 := ⟨_, rfl⟩
  rw [<- hx]
  have HX := hid hx
  clear hf hx ho
  subst hv
  go_enter Tryz.func175, Tryz.ntmps175
  go_wp2_with (first
   | (go_at_call 197; (with_reducible refine C.out.mono ?_); rintro e W1 ⟨neg, ao, n, cap, l, rfl, R, g, hz, hng, hl, hn40, b1⟩; have HBX := hid (Ba W1 (.cells #[.bool neg, .slice ao n cap] 104)); have hx := blk_new W1 #[.bool neg, .slice ao n cap] 104; have c0 : (W1.alloc (.cells #[.bool neg, .slice ao n cap] 104)).cell? ⟨W1.heap.size, 0, none⟩ = some (.bool neg) := blk_cell hx 0; have c1 : (W1.alloc (.cells #[.bool neg, .slice ao n cap] 104)).cell? ⟨W1.heap.size, 1, none⟩ = some (.slice ao n cap) := blk_cell hx 1; have C2 := hid (CF.out neg ao n cap l _ (R.below HBX.out) g); rw [hz] at C2; unfold PFixPost at C2; rw [HF.out, <- HX.out] at C2; have HB1 := hid (Bt b1 HBX.out); clear b1 R g hz hng hl hx)
   | (go_at_call 159; (with_reducible refine C2.out.mono ?_); rintro e W2 ⟨x2, rfl, hx2, b2⟩; rw [hx2 (by trivial)]; have HB2 := hid (Bt HB1.out b2); clear b2 hx2))
  go_ret
  exact ⟨rfl, same.out _ HB2.out⟩
end
section
variable {B : Nat} {v vn : Value} {N : Int} {os : List Ob} {nm : List ByteArray} {F : Nat -> Prop} {w W : World}
theorem pn_alloc_at (h : PN B v vn N os nm F w) (hb : Below w.heap.size w W) (hB : B <= w.heap.size) {kind P : Int} {fl : List Int} {os' : List Ob} (hk : Z64 kind) (hal : allocM os N kind fl = (P, 0)) (hao : allocO os N kind fl = os') (ho : OsOk os') {vr : Value} {b1 : Nat} (own : W.ownsRow b1 44 1 vr fl.length (uz fl)) (hb1 : w.heap.size <= b1) (hu : ∀ z ∈ fl, U64 z) (hl : fl.length <= 1000000) :
  Calls Tryz.prog 47 #[v, .int .i64 kind, vr] W fun e w' => e = .returned (.tuple #[.int .u64 P, .int .i64 0]) /\ PNPost B v vn N F w os' nm w' := by
 obtain ⟨ao, cap, rfl, R⟩ := urow_own own hu
 have := pn_alloc (h.on hb) kind hk ao fl.length cap fl R (Nat.le_trans hB hb.size) (fun a e hf => by
  have h1 := (own.lt a.block (by rw [e]; rfl)).1
  have h2 := (h.ge _ hf).2
  omega) hl (by rw [hao]; exact ho)
 rw [hal, hao] at this
 refine this.mono ?_
 rintro e w' ⟨rfl, p⟩
 exact ⟨rfl, p.front hb⟩
theorem pn_fill_at (h : PN B v vn N os nm F w) (hb : Below w.heap.size w W) (hB : B <= w.heap.size) {kind P : Int} {n : Nat} {os' : List Ob} (hk : 1 <= kind /\ kind <= 22) (hal : allocM os N kind (List.replicate n 2) = (P, 0)) (hao : allocO os N kind (List.replicate n 2) = os') (ho : OsOk os') (hn : n <= 1000000) :
  Calls Tryz.prog 34 #[v, .int .i64 kind, .int .i64 n, .int .u64 2] W fun e w' => e = .returned (.tuple #[.int .u64 P, .int .i64 0]) /\ PNPost B v vn N F w os' nm w' := by
 have e1 : fillP os N kind (n : Nat) 2 = (P, 0) := by
  unfold fillP
  rw [if_neg (by omega), if_neg (by omega), Int.toNat_natCast]; exact hal
 have e2 : fillQ os N kind (n : Nat) 2 = os' := by
  unfold fillQ
  rw [e1, if_pos rfl, Int.toNat_natCast, <- hao]
  unfold allocO
  rw [hal, if_pos rfl]
 have := pn_fill (h.on hb) kind (n : Nat) 2 (by unfold Z64; omega) (by unfold Z64; omega) (by unfold U64; omega) (Nat.le_trans hB hb.size) (by rw [e2]; exact ho)
 rw [e1, e2] at this
 refine this.mono ?_
 rintro e w' ⟨rfl, p⟩
 exact ⟨rfl, p.front hb⟩
theorem plainN_o {d : Nd} (h : d.kind ≠ 6) : plainN nm d = nm := by unfold plainN; rw [if_neg h]
set_option maxHeartbeats 8000000 in
theorem lay_any (d : Nd) (ka : Option Addr) (kc : Nat) (w : World) (h : PN B v vn N os nm F w) (hd : LNd d) (hn2 : d.kind = 2 -> d.num = 0 \/ d.num = 1) (hn4 : d.kind = 4 -> letB d.num = true) (hkk : d.kids.length <= kc) (hkc : kc <= 9223372036854775807) (hB : B <= w.heap.size) (hnm : nm.length <= 1000000)
  (P : Int) (os' : List Ob) (ho : OsOk os') (hz : 0 < sizeN d -> allocM os N (fieldsK d) (nullF d) = (P, 0) /\ allocO os N (fieldsK d) (nullF d) = os') (h0 : ¬ 0 < sizeN d -> os' = os /\ P = plainWd nm d) :
  Calls Tryz.prog 143 #[v, vn, NdVal d ka kc] w fun e w' => e = .returned (.int .u64 P) /\ PNPost B v vn N F w os' (plainN nm d) w' := by
 have HB := hid (Ba w (.cells #[.int .i64 d.kind, .int .i64 d.num, .string d.text, .slice ka d.kids.length kc] 54))
 have hx := blk_new w #[.int .i64 d.kind, .int .i64 d.num, .string d.text, .slice ka d.kids.length kc] 54
 have HH := hid h
 have HO := hid ho
 have HZ := hid hz
 have H0 := hid h0
 have HP := hid hd.c.int_
 have HV := hid hd.tv
 have hge := hd.sz
 have hkd := hd.c.kind
 have htx := hd.c.text
 have hks := hd.c.kids
 have hnu := hd.c.num
 have HN2 := hid hn2
 have HN4 := hid hn4
 have hneg := size_neg hd.c
 have HBB := hid hB
 obtain ⟨gh, gp, rfl, rfl⟩ := h.ptrs
 unfold NdVal
 clear hd h ho hz h0 hn2 hn4 hB
 obtain ⟨dk, dn, dt, dl⟩ := d
 simp only at HB HZ H0 HP HV htx hkk hks hkd hx hneg hnu HN2 HN4 ⊢
 have c0 : (w.alloc (.cells #[.int .i64 dk, .int .i64 dn, .string dt, .slice ka dl.length kc] 54)).cell? ⟨w.heap.size, 0, none⟩ = some (.int .i64 dk) := blk_cell hx 0
 have c1 : (w.alloc (.cells #[.int .i64 dk, .int .i64 dn, .string dt, .slice ka dl.length kc] 54)).cell? ⟨w.heap.size, 1, none⟩ = some (.int .i64 dn) := blk_cell hx 1
 have c2 : (w.alloc (.cells #[.int .i64 dk, .int .i64 dn, .string dt, .slice ka dl.length kc] 54)).cell? ⟨w.heap.size, 2, none⟩ = some (.string dt) := blk_cell hx 2
 have c3 : (w.alloc (.cells #[.int .i64 dk, .int .i64 dn, .string dt, .slice ka dl.length kc] 54)).cell? ⟨w.heap.size, 3, none⟩ = some (.slice ka dl.length kc) := blk_cell hx 3
 obtain ⟨kn, hkn⟩ : ∃ n, n = dl.length := ⟨_, rfl⟩
 rw [<- hkn] at HB c0 c1 c2 c3 hkk hks ⊢
 have HKN := hid hkn
 have same : Hid (∀ W, Below w.heap.size w W -> PNPost B (.pointer (some ⟨gh, 0, none⟩)) (.pointer (some ⟨gp, 0, none⟩)) N F w os nm W) := fun W hb => PNPost.same HH.out hb
 clear hx hkn
 by_cases k1 : dk = 1
 ·subst k1
  obtain ⟨rfl, rfl⟩ := H0.out (by unfold sizeN; rw [if_pos (by simp)]; omega)
  rw [plainN_o (by simp)]
  have e : plainWd nm ⟨1, dn, dt, dl⟩ = 2 := rfl
  rw [e]
  clear hneg hge e
  go_enter Tryz.func143, Tryz.ntmps143
  go_wp2_with fail
  go_ret
  exact ⟨rfl, same.out _ HB.out⟩
 by_cases k2 : dk = 2
 ·subst k2
  obtain ⟨rfl, rfl⟩ := H0.out (by unfold sizeN; rw [if_pos (by simp)]; omega)
  rw [plainN_o (by simp)]
  have C : Hid (∀ (b : Bool) W, Calls Tryz.prog 174 #[.bool b] W fun e w' => e = .returned (.int .u64 (if b then 18 else 10)) /\ w' = W) := fun b W => bool_any b W
  rcases HN2.out rfl with rfl | rfl
  ·have e : plainWd nm ⟨2, 0, dt, dl⟩ = 10 := rfl
   rw [e]
   have C2 := hid (C.out false)
   clear hneg hge e
   go_enter Tryz.func143, Tryz.ntmps143
   go_wp2_with (go_at_call 174; (refine (C2.out _).mono ?_); rintro e W2 ⟨rfl, hw2⟩; rw [hw2]; clear hw2)
   go_ret
   exact ⟨rfl, same.out _ HB.out⟩
  ·have e : plainWd nm ⟨2, 1, dt, dl⟩ = 18 := rfl
   rw [e]
   have C2 := hid (C.out true)
   clear hneg hge e
   go_enter Tryz.func143, Tryz.ntmps143
   go_wp2_with (go_at_call 174; (refine (C2.out _).mono ?_); rintro e W2 ⟨rfl, hw2⟩; rw [hw2]; clear hw2)
   go_ret
   exact ⟨rfl, same.out _ HB.out⟩
 by_cases k10 : dk = 10
 ·subst k10
  obtain ⟨rfl, rfl⟩ := H0.out (by unfold sizeN; rw [if_pos (by simp)]; omega)
  rw [plainN_o (by simp)]
  have e : plainWd nm ⟨10, dn, dt, dl⟩ = 26 := rfl
  rw [e]
  clear hneg hge e
  go_enter Tryz.func143, Tryz.ntmps143
  go_wp2_with fail
  go_ret
  exact ⟨rfl, same.out _ HB.out⟩
 by_cases k11 : dk = 11
 ·subst k11
  obtain ⟨rfl, rfl⟩ := H0.out (by unfold sizeN; rw [if_pos (by simp)]; omega)
  rw [plainN_o (by simp)]
  have e : plainWd nm ⟨11, dn, dt, dl⟩ = 34 := rfl
  rw [e]
  clear hneg hge e
  go_enter Tryz.func143, Tryz.ntmps143
  go_wp2_with fail
  go_ret
  exact ⟨rfl, same.out _ HB.out⟩
 by_cases k4 : dk = 4
 ·subst k4
  obtain ⟨rfl, rfl⟩ := H0.out (by unfold sizeN; rw [if_pos (by simp)]; omega)
  rw [plainN_o (by simp)]
  have e : plainWd nm ⟨4, dn, dt, dl⟩ = wordR 4 dn 0 := rfl
  rw [e]
  have C : Hid (∀ W, Calls Tryz.prog 176 #[.int .i64 dn] W fun e w' => e = .returned (.tuple #[.int .u64 (wordR 4 dn 0), .bool (rightB 4 dn 0)]) /\ w' = W) := fun W => char_any dn (by unfold Z64; omega) W
  obtain ⟨x, hx⟩ : ∃ x, x = wordR 4 dn 0 := ⟨_, rfl⟩
  obtain ⟨y, hy⟩ : ∃ x, x = rightB 4 dn 0 := ⟨_, rfl⟩
  rw [<- hx] at C ⊢
  rw [<- hy] at C
  clear hneg hge e hx hy
  go_enter Tryz.func143, Tryz.ntmps143
  go_wp2_with (go_at_call 176; (with_reducible refine (C.out _).mono ?_); rintro e W2 ⟨rfl, hw2⟩; rw [hw2]; clear hw2)
  go_ret
  exact ⟨rfl, same.out _ HB.out⟩
 by_cases k6 : dk = 6
 ·subst k6
  obtain ⟨rfl, rfl⟩ := H0.out (by unfold sizeN; rw [if_pos (by simp)]; omega)
  have e : plainWd nm ⟨6, dn, dt, dl⟩ = wordR 5 ((idM nm dt : Nat) : Int) 0 := rfl
  have e' : plainN nm ⟨6, dn, dt, dl⟩ = idL nm dt := rfl
  rw [e, e']
  have C := hid (pname_word (HH.out.on HB.out) dt (Nat.le_trans HBB.out HB.out.size) hnm (by omega))
  obtain ⟨x, hx⟩ : ∃ x, x = wordR 5 ((idM nm dt : Nat) : Int) 0 := ⟨_, rfl⟩
  rw [<- hx] at C ⊢
  clear hneg hge e e' hx
  go_enter Tryz.func143, Tryz.ntmps143
  go_wp2_with (go_at_call 177; (with_reducible refine C.out.mono ?_); rintro e W2 ⟨rfl, p2⟩; have HP2 := hid (p2.front HB.out); clear p2)
  go_ret
  exact ⟨rfl, HP2.out⟩
 by_cases k3 : dk = 3
 ·subst k3
  rw [plainN_o (by simp)]
  have he : intW os N dt = P /\ intO os N dt = os' := by
   unfold intW intO
   by_cases hf : fixB (txZ dt) = true
   ·rw [if_pos hf, if_pos hf]
    obtain ⟨e1, e2⟩ := H0.out (by unfold sizeN; rw [if_neg (by simp), if_pos rfl, if_pos hf]; omega)
    exact ⟨e2.symm, e1.symm⟩
   ·rw [if_neg hf, if_neg hf]
    have := HZ.out (by unfold sizeN; rw [if_neg (by simp), if_pos rfl, if_neg hf]; omega)
    have e3 : nullF ⟨3, dn, dt, dl⟩ = bigL (decide (txZ dt < 0)) (mg (txZ dt).natAbs) := rfl
    have e4 : fieldsK ⟨3, dn, dt, dl⟩ = 5 := rfl
    rw [e3, e4] at this
    exact ⟨by rw [this.1], this.2⟩
  have C := hid (play_int (HH.out.on HB.out) dt (by omega) (HP.out rfl) (Nat.le_trans HBB.out HB.out.size) (by rw [he.2]; exact HO.out))
  rw [he.1, he.2] at C
  clear hneg hge he
  go_enter Tryz.func143, Tryz.ntmps143
  go_wp2_with (go_at_call 175; (with_reducible refine C.out.mono ?_); rintro e W2 ⟨rfl, p2⟩; have HP2 := hid (p2.front HB.out); clear p2)
  go_ret
  exact ⟨rfl, HP2.out⟩
 by_cases k5 : dk = 5
 ·subst k5
  rw [plainN_o (by simp)]
  obtain ⟨e1, e2⟩ := HZ.out (by unfold sizeN; rw [if_neg (by simp), if_neg (by simp), if_pos rfl]; omega)
  have e3 : nullF ⟨5, dn, dt, dl⟩ = (ltrs dt).map ltW := rfl
  have e4 : fieldsK ⟨5, dn, dt, dl⟩ = 3 := rfl
  rw [e3, e4] at e1 e2
  have hll := ltrs_len dt
  have hlm : ((ltrs dt).map ltW).length = (ltrs dt).length := List.length_map _
  have C1 := hid (pletters_any dt (by omega) (HV.out rfl) (w.alloc (.cells #[.int .i64 5, .int .i64 dn, .string dt, .slice ka kn kc] 54)))
  have CA : Hid (∀ (vr : Value) (W : World), Below (w.alloc (.cells #[.int .i64 5, .int .i64 dn, .string dt, .slice ka kn kc] 54)).heap.size (w.alloc (.cells #[.int .i64 5, .int .i64 dn, .string dt, .slice ka kn kc] 54)) W -> W.ownsRow (w.alloc (.cells #[.int .i64 5, .int .i64 dn, .string dt, .slice ka kn kc] 54)).heap.size 44 1 vr (ltrs dt).length (uz ((ltrs dt).map ltW)) -> Calls Tryz.prog 47 #[.pointer (some ⟨gh, 0, none⟩), .int .i64 3, vr] W fun e w' => e = .returned (.tuple #[.int .u64 P, .int .i64 0]) /\ PNPost B (.pointer (some ⟨gh, 0, none⟩)) (.pointer (some ⟨gp, 0, none⟩)) N F w os' nm w') := fun vr W hb own =>
   pn_alloc_at HH.out (Bt HB.out hb) HBB.out (by unfold Z64; omega) e1 e2 HO.out (by rw [hlm]; exact own) HB.out.size (fun z hz => by obtain ⟨c, _, rfl⟩ := List.mem_map.1 hz; exact wordR_rng _ _ _) (by rw [hlm]; omega)
  clear hneg hge e1 e2 e3 e4 hlm hll
  go_enter Tryz.func143, Tryz.ntmps143
  go_wp2_with (first
   | (go_at_call 178; (with_reducible refine C1.out.mono ?_); rintro e W1 ⟨vr, rfl, ho1, b1⟩; have C2 := hid (CA.out vr W1 b1 ho1); clear ho1 b1)
   | (go_at_call 47; (with_reducible refine C2.out.mono ?_); rintro e W2 ⟨rfl, p2⟩; have HP2 := hid p2; clear p2))
  go_ret
  exact ⟨rfl, HP2.out⟩
 by_cases k9 : dk = 9
 ·subst k9
  rw [plainN_o (by simp)]
  obtain ⟨e1, e2⟩ := HZ.out (by unfold sizeN; rw [if_neg (by simp), if_neg (by simp), if_neg (by simp), if_neg (by simp), if_pos rfl]; omega)
  have e3 : nullF ⟨9, dn, dt, dl⟩ = bytesL dt dt.size := rfl
  have e4 : fieldsK ⟨9, dn, dt, dl⟩ = 4 := rfl
  rw [e3, e4] at e1 e2
  have hlm : (bytesL dt dt.size).length = dt.size := bytesL_len _ _
  have C1 := hid (pbytes_any dt (by omega) (w.alloc (.cells #[.int .i64 9, .int .i64 dn, .string dt, .slice ka kn kc] 54)))
  have CA : Hid (∀ (vr : Value) (W : World), Below (w.alloc (.cells #[.int .i64 9, .int .i64 dn, .string dt, .slice ka kn kc] 54)).heap.size (w.alloc (.cells #[.int .i64 9, .int .i64 dn, .string dt, .slice ka kn kc] 54)) W -> W.ownsRow (w.alloc (.cells #[.int .i64 9, .int .i64 dn, .string dt, .slice ka kn kc] 54)).heap.size 44 1 vr dt.size (uz (bytesL dt dt.size)) -> Calls Tryz.prog 47 #[.pointer (some ⟨gh, 0, none⟩), .int .i64 4, vr] W fun e w' => e = .returned (.tuple #[.int .u64 P, .int .i64 0]) /\ PNPost B (.pointer (some ⟨gh, 0, none⟩)) (.pointer (some ⟨gp, 0, none⟩)) N F w os' nm w') := fun vr W hb own =>
   pn_alloc_at HH.out (Bt HB.out hb) HBB.out (by unfold Z64; omega) e1 e2 HO.out (by rw [hlm]; exact own) HB.out.size (fun z hz => by unfold bytesL at hz; obtain ⟨c, _, rfl⟩ := List.mem_map.1 hz; exact wordR_rng _ _ _) (by rw [hlm]; omega)
  clear hneg hge e1 e2 e3 e4 hlm
  go_enter Tryz.func143, Tryz.ntmps143
  go_wp2_with (first
   | (go_at_call 179; (with_reducible refine C1.out.mono ?_); rintro e W1 ⟨vr, rfl, ho1, b1⟩; have C2 := hid (CA.out vr W1 b1 ho1); clear ho1 b1)
   | (go_at_call 47; (with_reducible refine C2.out.mono ?_); rintro e W2 ⟨rfl, p2⟩; have HP2 := hid p2; clear p2))
  go_ret
  exact ⟨rfl, HP2.out⟩
 by_cases k7 : dk = 7
 ·subst k7
  rw [plainN_o (by simp)]
  obtain ⟨e1, e2⟩ := HZ.out (size_kids (.inl rfl))
  have e3 : nullF ⟨7, dn, dt, dl⟩ = List.replicate kn 2 := by rw [HKN.out]; rfl
  have e4 : fieldsK ⟨7, dn, dt, dl⟩ = 1 := rfl
  rw [e3, e4] at e1 e2
  have C := hid (pn_fill_at HH.out HB.out HBB.out (kind := 1) (by omega) e1 e2 HO.out (by omega))
  clear hneg hge e1 e2 e3 e4
  go_enter Tryz.func143, Tryz.ntmps143
  go_wp2_with (go_at_call 34; (with_reducible refine C.out.mono ?_); rintro e W2 ⟨rfl, p2⟩; have HP2 := hid p2; clear p2)
  go_ret
  exact ⟨rfl, HP2.out⟩
 by_cases k8 : dk = 8
 ·subst k8
  rw [plainN_o (by simp)]
  obtain ⟨e1, e2⟩ := HZ.out (size_kids (.inr rfl))
  have e3 : nullF ⟨8, dn, dt, dl⟩ = List.replicate kn 2 := by rw [HKN.out]; rfl
  have e4 : fieldsK ⟨8, dn, dt, dl⟩ = 2 := rfl
  rw [e3, e4] at e1 e2
  have C := hid (pn_fill_at HH.out HB.out HBB.out (kind := 2) (by omega) e1 e2 HO.out (by omega))
  clear hneg hge e1 e2 e3 e4
  go_enter Tryz.func143, Tryz.ntmps143
  go_wp2_with (go_at_call 34; (with_reducible refine C.out.mono ?_); rintro e W2 ⟨rfl, p2⟩; have HP2 := hid p2; clear p2)
  go_ret
  exact ⟨rfl, HP2.out⟩
 exfalso
 have := mt hneg.2
 omega
end
end Go.Proofs.YticimejfjjmikaaGreatDoor
