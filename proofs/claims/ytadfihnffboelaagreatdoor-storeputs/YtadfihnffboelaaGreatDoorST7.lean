import Derived.Test.YtadfihnffboelaaGreatDoorST4
set_option linter.unusedVariables false
set_option linter.unusedSimpArgs false
set_option maxRecDepth 100000
namespace Go.Proofs.YtadfihnffboelaaGreatDoor
open Go.RowKit
def sz (l : List ByteArray) : List Value := l.map Value.string
theorem zsj (l r : List ByteArray) : sz (l ++ r) = sz l ++ sz r := by simp [sz]
theorem znk : (Tryz.prog.info? 9).map (fun i => (i.zero, i.size, i.bytes)) = some (some (.string ⟨#[]⟩), 1, 16) := by kernel_rfl
structure NM (B g : Nat) (vL : Value) (ls : List ByteArray) (w : World) : Prop where
 box : w.heap[g]? = some (.cells #[vL] 36 (0, 0))
 own : w.ownsRow B 9 1 vL ls.length (sz ls)
 gl : vL.ownBlock ≠ some g
 Bg : B <= g
def NF (g : Nat) (vL : Value) : Nat -> Prop := fun b => b = g \/ vL.ownBlock = some b
section
variable {B g : Nat} {vL : Value} {ls : List ByteArray} {w w' : World}
theorem NM.ge (h : NM B g vL ls w) : ∀ b, NF g vL b -> B <= b /\ b < w.heap.size := by
 rintro b (rfl | e)
 ·exact ⟨h.Bg, (Array.getElem?_eq_some_iff.1 h.box).1⟩
 ·exact h.own.lt b e
theorem NM.keep (h : NM B g vL ls w) (hb : ∀ b, NF g vL b -> w'.heap[b]? = w.heap[b]?) : NM B g vL ls w' :=
 ⟨(hb g (.inl rfl)).trans h.box, ja h.own (fun b e => hb b (.inr e)), h.gl, h.Bg⟩
theorem NM.on (h : NM B g vL ls w) (hb : Below w.heap.size w w') : NM B g vL ls w' := h.keep (fun b hf => hb.block b (h.ge b hf).2)
theorem NM.get (h : NM B g vL ls w) {i : Nat} (hi : i < ls.length) : ∃ gl cap, vL = .slice (some ⟨gl, 0, none⟩) ls.length cap /\ ls.length <= cap /\ cap <= 9223372036854775807 /\ w.cell? ⟨gl, i, none⟩ = some (.string (ls.getD i ByteArray.empty)) := by
 rcases h.own.2 with ⟨_, h1⟩ | ⟨gl, cap, cur, h1, h2, h3, h4, h5, h6, h7⟩
 ·omega
 ·unfold maxLen at h5
  refine ⟨gl, cap, h1, h4, h5, ?_⟩
  have e : (sz ls)[i]? = some (.string (ls.getD i ByteArray.empty)) := by
   unfold sz
   rw [List.getElem?_map, List.getD_eq_getElem?_getD, List.getElem?_eq_getElem hi]; rfl
  rw [za h3, <- e, <- h7, List.getElem?_take, if_pos (by omega)]
  simp
end
def idM : List ByteArray -> ByteArray -> Nat
 | [], _ => 0
 | x :: l, s => if x = s then 0 else idM l s + 1
def idL (ls : List ByteArray) (s : ByteArray) : List ByteArray := if idM ls s < ls.length then ls else ls ++ [s]
theorem zjq : ∀ {ls : List ByteArray} {s : ByteArray} {q : Nat}, (∀ j, j < q -> ls.getD j ByteArray.empty ≠ s) -> q < ls.length -> ls.getD q ByteArray.empty = s -> idM ls s = q
 | [], _, _, _, h, _ => by simp at h
 | x :: l, s, 0, _, _, h => by
  have : x = s := h
  unfold idM; rw [if_pos this]
 | x :: l, s, q + 1, h1, h2, h3 => by
  have h0 : x ≠ s := h1 0 (by omega)
  have ih := zjq (ls := l) (s := s) (q := q) (fun j hj => h1 (j + 1) (by omega)) (by simpa using h2) h3
  unfold idM; rw [if_neg h0, ih]
theorem znl : ∀ {ls : List ByteArray} {s : ByteArray}, (∀ j, j < ls.length -> ls.getD j ByteArray.empty ≠ s) -> idM ls s = ls.length
 | [], _, _ => rfl
 | x :: l, s, h => by
  have h0 : x ≠ s := h 0 (by simp)
  have ih := znl (ls := l) (s := s) (fun j hj => h (j + 1) (by simpa using hj))
  unfold idM; rw [if_neg h0, ih]; rfl
theorem appS {P : Program} {w : World} {ops : Array Oper} {rest : List Oper} {o : Oper} {a : Act} {Q : Exit -> Act -> World -> Prop} (hgd : o.guard = none) (s x : Operand) (t : TypeId) (ho : o.op = .call { callee := .builtin .append, args := #[s, x], argTypes := #[t, t] })
  (base : Nat) (e : TypeId) (ht : P.underlying t = some (.slice e)) (hi : (P.info? e).map (fun i => (i.zero, i.size, i.bytes)) = some (some (.string ⟨#[]⟩), 1, 16))
  (v : Value) (n : Nat) (l : List ByteArray) (hs : a.eval s = v) (hown : w.ownsRow base e 1 v n (sz l))
  (g0 c : Nat) (d : ByteArray) (hx : a.eval x = .slice (some ⟨g0, 0, none⟩) 1 c) (hd : w.cell? ⟨g0, 0, none⟩ = some (.string d)) (hsm : n <= 10000000) (hbase : base <= w.heap.size)
  (h : ∀ g cap w', w'.ownsRow base e 1 (.slice (some ⟨g, 0, none⟩) (n + 1) cap) (n + 1) (sz (l ++ [d])) -> w.grownBy w' v.ownBlock -> (v.ownBlock = some g \/ g = w.heap.size) -> g < w'.heap.size -> wpList P ops Q rest (a.put o.dst (.slice (some ⟨g, 0, none⟩) (n + 1) cap)) w') :
  wpList P ops Q (o :: rest) a w := by
 obtain ⟨i0, hi0, hz0, hz1, hz2⟩ : ∃ i0, P.info? e = some i0 /\ i0.zero = some (.string ⟨#[]⟩) /\ i0.size = 1 /\ i0.bytes = 16 := by
  cases h : P.info? e with
  | none => rw [h] at hi; cases hi
  | some i => rw [h] at hi; simp at hi; exact ⟨i, rfl, hi.1, hi.2.1, hi.2.2⟩
 refine wpList_append_lies w hgd s x t ho base e i0 (.string ⟨#[]⟩) 1 16 ht hi0 hz0 hz1 hz2 rfl (by decide) v n (sz l) hs hown ⟨g0, 0, none⟩ 1 c [.string d] hx rfl ?_ ?_ (by decide) (by unfold maxLen; omega) (by omega) hbase w.heap.size rfl ?_
 ·intro j u hj
  match j, hj with
  | 0, hj => simp at hj; subst hj; simpa [Addr.add] using hd
 ·intro u hu; simp at hu; subst hu; rfl
 ·intro g cap w' h1 h2 h3 h4
  refine h g cap w' ?_ h2 h3 h4
  rw [zsj]; exact h1
theorem NM.push {B g : Nat} {vL : Value} {ls : List ByteArray} {w w1 w' : World} {s : ByteArray} (h : NM B g vL ls w) (hb : Below w.heap.size w w1) {g1 cap n : Nat} (hn : ls.length = n) (ho : w'.ownsRow B 9 1 (.slice (some ⟨g1, 0, none⟩) (n + 1) cap) (n + 1) (sz (ls ++ [s]))) (hg : w1.grownBy w' vL.ownBlock) (hl : vL.ownBlock = some g1 \/ g1 = w1.heap.size) :
  w'.cell? ⟨g, 0, none⟩ = some vL /\ w'.frozen? ⟨g, 0, none⟩ = false /\ NM B g (.slice (some ⟨g1, 0, none⟩) (n + 1) cap) (ls ++ [s]) (w'.setCell ⟨g, 0, none⟩ (.slice (some ⟨g1, 0, none⟩) (n + 1) cap)) /\
   (∀ b, NF g (.slice (some ⟨g1, 0, none⟩) (n + 1) cap) b -> NF g vL b \/ w.heap.size <= b) /\ Mod (NF g vL) w (w'.setCell ⟨g, 0, none⟩ (.slice (some ⟨g1, 0, none⟩) (n + 1) cap)) := by
 have hgl := (h.ge g (.inl rfl)).2
 have hs := hb.size
 have hbx : w'.heap[g]? = some (.cells #[vL] 36 (0, 0)) := (hg.block g (by omega) (fun e => h.gl e.symm)).trans ((hb.block g hgl).trans h.box)
 have hne : g1 ≠ g := by
  rcases hl with e | e
  ·exact fun e' => h.gl (by rw [e, e'])
  ·omega
 refine ⟨za hbx 0, zf hbx 0, ⟨?_, ?_, fun e => ?_, h.Bg⟩, ?_, ?_⟩
 ·rw [zy (i := 0) hbx]; rfl
 ·rw [List.length_append, hn]
  exact ja ho (fun b e => Below.heap_setCell _ _ _ _ (by have e' : g1 = b := Option.some.inj e; show b ≠ g; omega))
 ·exact hne (Option.some.inj e)
 ·rintro b (rfl | e)
  ·exact .inl (.inl rfl)
  ·have e' : g1 = b := Option.some.inj e
   rcases hl with h1 | h1
   ·exact .inl (.inr (by rw [h1, e']))
   ·exact .inr (by omega)
 ·refine ((Mod.of_below (NF g vL) hb).grown hg (fun k hk => .inl (.inr hk))).setCell (p := ⟨g, 0, none⟩) (.inl (.inl rfl)) _
def zcb (B g : Nat) (vL : Value) (w : World) (ls' : List ByteArray) (w' : World) : Prop :=
 ∃ vL', NM B g vL' ls' w' /\ (∀ b, NF g vL' b -> NF g vL b \/ w.heap.size <= b) /\ Mod (NF g vL) w w'
set_option maxHeartbeats 4000000 in
theorem zaa1 {B g : Nat} {vL : Value} {ls : List ByteArray} (s : ByteArray) (w : World) (h : NM B g vL ls w) (hB : B <= w.heap.size) (hsm : ls.length <= 1000000) :
  Calls Tryz.prog 26 #[.pointer (some ⟨g, 0, none⟩), .string s] w fun e w' => e = .returned (.int .i64 (idM ls s : Nat)) /\ zcb B g vL w (idL ls s) w' := by
 have H := hid h
 obtain ⟨aL, cL, hvL, hLf, hLm⟩ := jm h.own
 subst hvL
 have c0 : w.cell? ⟨g, 0, none⟩ = some (.slice aL ls.length cL) := za h.box 0
 obtain ⟨n, hn⟩ : ∃ n, n = ls.length := ⟨_, rfl⟩
 rw [<- hn] at c0 hLf hsm H ⊢
 have HN := hid hn
 clear h hn
 go_enter Tryz.func26, Tryz.ntmps26
 go_wp2_with fail
 go_loop [5] (fun i => ∃ q : Nat, q <= n /\ i = .int .i64 q /\ Hid (∀ j, j < q -> ls.getD j ByteArray.empty ≠ s)) (fun i => n - (intOf i).toNat)
 case atStart => exact ⟨0, Nat.zero_le _, rfl, fun j hj => by omega⟩
 case round =>
  obtain ⟨q, hq, rfl, hI⟩ := hrel
  by_cases hlt : q < n
  ·obtain ⟨gl, cap, hv, _, _, hc⟩ := H.out.get (i := q) (by rw [<- HN.out]; exact hlt)
   injection hv with e1 _ e3
   subst e1 e3
   obtain ⟨x, hx⟩ : ∃ x, x = ls.getD q ByteArray.empty := ⟨_, rfl⟩
   rw [<- hx] at hc
   have HX := hid hx
   have et := zgc x s
   clear hx
   by_cases hxs : x = s
   ·rw [decide_eq_true hxs] at et
    have hfound : Hid (idM ls s = q /\ idL ls s = ls) := by
     have hl := HN.out
     have e := zjq (q := q) hI.out (by omega) (by rw [<- HX.out]; exact hxs)
     exact ⟨e, by unfold idL; rw [e, if_pos (by omega)]⟩
    clear hxs
    go_wp2_with fail
    go_ret
    rw [hfound.out.1, hfound.out.2]
    exact ⟨rfl, _, H.out, fun b hb => .inl hb, Mod.refl _ _⟩
   ·rw [decide_eq_false hxs] at et
    have HNX : Hid (∀ j, j < q + 1 -> ls.getD j ByteArray.empty ≠ s) := fun j hj => by
     by_cases e : j = q
     ·subst e; rw [<- HX.out]; exact hxs
     ·exact hI.out j (by omega)
    clear hxs
    go_wp2_with fail
    exact ⟨⟨q + 1, by omega, by go_num, HNX.out⟩, by simp [intOf] <;> omega⟩
  ·obtain rfl : q = n := by omega
   have hres : Hid (idM ls s = q /\ idL ls s = ls ++ [s]) := by
    have e := znl (ls := ls) (s := s) (fun j hj => hI.out j (by rw [HN.out]; exact hj))
    exact ⟨by rw [e, HN.out], by unfold idL; rw [e, if_neg (by omega)]⟩
   have HO1 := hid (ja H.out.own (fun b e => (Ba w (.cells #[.string s] 9)).block b (H.out.own.lt b e).2))
   rw [<- HN.out] at HO1
   have hc1 : (w.alloc (.cells #[.string s] 9)).cell? ⟨w.heap.size, 0, none⟩ = some (.string s) := za (zd w #[.string s] 9) 0
   have HC1 := hid hc1
   have HSZ : Hid (B <= (w.alloc (.cells #[.string s] 9)).heap.size) := Nat.le_trans hB (Ba w _).size
   clear hI hc1
   go_wp2_with (at_builtin; refine appS rfl _ _ 34 rfl B 9 Tryz.underlying34 znk _ q ls rfl HO1.out w.heap.size 1 s rfl HC1.out (by omega) HSZ.out ?_; intro g1 cap1 w3 ho3 hg3 hl3 hlt3; obtain ⟨d0, f0, h4, h5, h6⟩ := H.out.push (Ba w (.cells #[.string s] 9)) HN.out.symm ho3 hg3 hl3; have H4 := hid h4; have H5 := hid h5; have H6 := hid h6; have d2 : (w3.setCell ⟨g, 0, none⟩ (.slice (some ⟨g1, 0, none⟩) (q + 1) cap1)).cell? ⟨g, 0, none⟩ = some (.slice (some ⟨g1, 0, none⟩) (q + 1) cap1) := za h4.box 0; clear ho3 hg3 hl3 h4 h5 h6)
   go_ret
   rw [hres.out.1, hres.out.2]
   exact ⟨by simp, _, H4.out, H5.out, H6.out⟩
def yz (ls : List ByteArray) (d : Nd) : Int :=
 if d.kind = 1 then zj 3 0 0 else if d.kind = 2 then zj 3 (1 + d.num) 0 else if d.kind = 10 then zj 3 3 0 else if d.kind = 11 then zj 3 4 0
 else if d.kind = 4 then zj 4 d.num 0 else if d.kind = 6 then zj 5 ((idM ls d.text : Nat) : Int) 0 else zj 1 (txZ d.text) 0
def ji (ls : List ByteArray) (d : Nd) : List ByteArray := if d.kind = 6 then idL ls d.text else ls
theorem zjr (ls : List ByteArray) (d : Nd) : U64 (yz ls d) := by
 unfold yz
 split
 ·exact zv _ _ _
 split
 ·exact zv _ _ _
 split
 ·exact zv _ _ _
 split
 ·exact zv _ _ _
 split
 ·exact zv _ _ _
 split <;> exact zv _ _ _
theorem znm : ∀ (ls : List ByteArray) (s : ByteArray), idM ls s <= ls.length
 | [], _ => Nat.le_refl _
 | x :: l, s => by
  unfold idM
  split
  ·exact Nat.zero_le _
  ·have := znm l s; simp; omega
theorem zcb.of_below {B g : Nat} {vL : Value} {ls : List ByteArray} {w w' : World} (h : NM B g vL ls w) (hb : Below w.heap.size w w') : zcb B g vL w ls w' :=
 ⟨vL, h.on hb, fun b e => .inl e, Mod.of_below _ hb⟩
theorem zcb.front {B g : Nat} {vL : Value} {ls : List ByteArray} {w w1 w' : World} (hb : Below w.heap.size w w1) (h : zcb B g vL w1 ls w') : zcb B g vL w ls w' := by
 obtain ⟨vL', h1, h2, h3⟩ := h
 have hs := hb.size
 exact ⟨vL', h1, fun b e => (h2 b e).imp id (fun e => by omega), (Mod.of_below (NF g vL) hb).trans h3 (fun _ _ e => e)⟩
theorem zcb.behind {B g : Nat} {vL : Value} {ls : List ByteArray} {w w1 w' : World} (h : zcb B g vL w ls w1) (hb : Below w1.heap.size w1 w') : zcb B g vL w ls w' := by
 obtain ⟨vL', h1, h2, h3⟩ := h
 exact ⟨vL', h1.on hb, h2, h3.trans (Mod.of_below (NF g vL) hb) (fun _ _ e => e)⟩
set_option maxHeartbeats 4000000 in
theorem zpb {B g : Nat} {vL : Value} {ls : List ByteArray} (d : Nd) (ka : Option Addr) (kc : Nat) (w : World) (h : NM B g vL ls w) (hB : B <= w.heap.size) (hsm : ls.length <= 1000000) (hkd : I64 d.kind) (hnm : 0 <= d.num /\ d.num <= 10000000) (htx : d.text.size <= 5000) (hk : d.kind = 1 \/ d.kind = 2 \/ d.kind = 4 \/ d.kind = 6 \/ d.kind = 10 \/ d.kind = 11 \/ d.kind = 3 /\ zz d.text = true /\ fixB (txZ d.text) = true) :
  Calls Tryz.prog 42 #[.pointer (some ⟨g, 0, none⟩), ku d ka kc] w fun e w' => e = .returned (.int .u64 (yz ls d)) /\ zcb B g vL w (ji ls d) w' := by
 have HB := hid (Ba w (.cells #[.int .i64 d.kind, .int .i64 d.num, .string d.text, .slice ka d.kids.length kc] 68))
 have hx := zd w #[.int .i64 d.kind, .int .i64 d.num, .string d.text, .slice ka d.kids.length kc] 68
 have H := hid h
 have HK := hid hk
 have HPW : Hid (yz ls d = if d.kind = 1 then zj 3 0 0 else if d.kind = 2 then zj 3 (1 + d.num) 0 else if d.kind = 10 then zj 3 3 0 else if d.kind = 11 then zj 3 4 0
  else if d.kind = 4 then zj 4 d.num 0 else if d.kind = 6 then zj 5 ((idM ls d.text : Nat) : Int) 0 else zj 1 (txZ d.text) 0) := rfl
 have HPN : Hid (ji ls d = if d.kind = 6 then idL ls d.text else ls) := rfl
 obtain ⟨n1, n2⟩ := hnm
 unfold ku
 obtain ⟨dk, dn, dt, dl⟩ := d
 simp only at HB HK HPW HPN htx hkd hx n1 n2 ⊢
 obtain ⟨kn, hkn⟩ : ∃ n, n = dl.length := ⟨_, rfl⟩
 rw [<- hkn] at HB hx ⊢
 have c0 : (w.alloc (.cells #[.int .i64 dk, .int .i64 dn, .string dt, .slice ka kn kc] 68)).cell? ⟨w.heap.size, 0, none⟩ = some (.int .i64 dk) := za hx 0
 have c1 : (w.alloc (.cells #[.int .i64 dk, .int .i64 dn, .string dt, .slice ka kn kc] 68)).cell? ⟨w.heap.size, 1, none⟩ = some (.int .i64 dn) := za hx 1
 have c2 : (w.alloc (.cells #[.int .i64 dk, .int .i64 dn, .string dt, .slice ka kn kc] 68)).cell? ⟨w.heap.size, 2, none⟩ = some (.string dt) := za hx 2
 have fin : Hid (∀ W1, Below (w.alloc (.cells #[.int .i64 dk, .int .i64 dn, .string dt, .slice ka kn kc] 68)).heap.size (w.alloc (.cells #[.int .i64 dk, .int .i64 dn, .string dt, .slice ka kn kc] 68)) W1 -> zcb B g vL w ls W1) := fun W1 b => zcb.of_below H.out (Bt HB.out b)
 clear h hx hk hkn
 by_cases k1 : dk = 1
 ·subst k1
  have ew : Hid (yz ls ⟨1, dn, dt, dl⟩ = zj 3 0 0) := HPW.out
  have en : Hid (ji ls ⟨1, dn, dt, dl⟩ = ls) := HPN.out
  have C := hid (qn 3 0 (by unfold Z64; omega) (by unfold Z64; omega) (w.alloc (.cells #[.int .i64 1, .int .i64 dn, .string dt, .slice ka kn kc] 68)))
  obtain ⟨z, hz⟩ : ∃ z, z = zj 3 0 0 := ⟨_, rfl⟩
  rw [<- hz] at C ew
  clear hz
  go_enter Tryz.func42, Tryz.ntmps42
  go_wp2_with (go_at_call 80; (with_reducible refine C.out.mono ?_); rintro e W1 ⟨rfl, b1⟩; have HB1 := hid b1; clear b1)
  go_ret
  rw [ew.out, en.out]
  exact ⟨rfl, fin.out _ HB1.out⟩
 by_cases k2 : dk = 2
 ·subst k2
  have ew : Hid (yz ls ⟨2, dn, dt, dl⟩ = zj 3 (1 + dn) 0) := HPW.out
  have en : Hid (ji ls ⟨2, dn, dt, dl⟩ = ls) := HPN.out
  have C := hid (qn 3 (1 + dn) (by unfold Z64; omega) (by unfold Z64; omega) (w.alloc (.cells #[.int .i64 2, .int .i64 dn, .string dt, .slice ka kn kc] 68)))
  obtain ⟨z, hz⟩ : ∃ z, z = zj 3 (1 + dn) 0 := ⟨_, rfl⟩
  rw [<- hz] at C ew
  clear hz
  go_enter Tryz.func42, Tryz.ntmps42
  go_wp2_with (go_at_call 80; (with_reducible refine C.out.mono ?_); rintro e W1 ⟨rfl, b1⟩; have HB1 := hid b1; clear b1)
  go_ret
  rw [ew.out, en.out]
  exact ⟨rfl, fin.out _ HB1.out⟩
 by_cases k10 : dk = 10
 ·subst k10
  have ew : Hid (yz ls ⟨10, dn, dt, dl⟩ = zj 3 3 0) := HPW.out
  have en : Hid (ji ls ⟨10, dn, dt, dl⟩ = ls) := HPN.out
  have C := hid (qn 3 3 (by unfold Z64; omega) (by unfold Z64; omega) (w.alloc (.cells #[.int .i64 10, .int .i64 dn, .string dt, .slice ka kn kc] 68)))
  obtain ⟨z, hz⟩ : ∃ z, z = zj 3 3 0 := ⟨_, rfl⟩
  rw [<- hz] at C ew
  clear hz
  go_enter Tryz.func42, Tryz.ntmps42
  go_wp2_with (go_at_call 80; (with_reducible refine C.out.mono ?_); rintro e W1 ⟨rfl, b1⟩; have HB1 := hid b1; clear b1)
  go_ret
  rw [ew.out, en.out]
  exact ⟨rfl, fin.out _ HB1.out⟩
 by_cases k11 : dk = 11
 ·subst k11
  have ew : Hid (yz ls ⟨11, dn, dt, dl⟩ = zj 3 4 0) := HPW.out
  have en : Hid (ji ls ⟨11, dn, dt, dl⟩ = ls) := HPN.out
  have C := hid (qn 3 4 (by unfold Z64; omega) (by unfold Z64; omega) (w.alloc (.cells #[.int .i64 11, .int .i64 dn, .string dt, .slice ka kn kc] 68)))
  obtain ⟨z, hz⟩ : ∃ z, z = zj 3 4 0 := ⟨_, rfl⟩
  rw [<- hz] at C ew
  clear hz
  go_enter Tryz.func42, Tryz.ntmps42
  go_wp2_with (go_at_call 80; (with_reducible refine C.out.mono ?_); rintro e W1 ⟨rfl, b1⟩; have HB1 := hid b1; clear b1)
  go_ret
  rw [ew.out, en.out]
  exact ⟨rfl, fin.out _ HB1.out⟩
 by_cases k4 : dk = 4
 ·subst k4
  have ew : Hid (yz ls ⟨4, dn, dt, dl⟩ = zj 4 dn 0) := HPW.out
  have en : Hid (ji ls ⟨4, dn, dt, dl⟩ = ls) := HPN.out
  have C := hid (qn 4 dn (by unfold Z64; omega) (by unfold Z64; omega) (w.alloc (.cells #[.int .i64 4, .int .i64 dn, .string dt, .slice ka kn kc] 68)))
  obtain ⟨z, hz⟩ : ∃ z, z = zj 4 dn 0 := ⟨_, rfl⟩
  rw [<- hz] at C ew
  clear hz
  go_enter Tryz.func42, Tryz.ntmps42
  go_wp2_with (go_at_call 80; (with_reducible refine C.out.mono ?_); rintro e W1 ⟨rfl, b1⟩; have HB1 := hid b1; clear b1)
  go_ret
  rw [ew.out, en.out]
  exact ⟨rfl, fin.out _ HB1.out⟩
 by_cases k6 : dk = 6
 ·subst k6
  have ew : Hid (yz ls ⟨6, dn, dt, dl⟩ = zj 5 ((idM ls dt : Nat) : Int) 0) := HPW.out
  have en : Hid (ji ls ⟨6, dn, dt, dl⟩ = idL ls dt) := HPN.out
  have CI := hid (zaa1 dt (w.alloc (.cells #[.int .i64 6, .int .i64 dn, .string dt, .slice ka kn kc] 68)) (H.out.on HB.out) (Nat.le_trans hB HB.out.size) hsm)
  have hid_ := znm ls dt
  obtain ⟨i, hi⟩ : ∃ i, i = idM ls dt := ⟨_, rfl⟩
  rw [<- hi] at CI ew hid_
  clear hi
  have CW := hid (fun W => qn 5 ((i : Nat) : Int) (by unfold Z64; omega) (by unfold Z64; omega) W)
  obtain ⟨z, hz⟩ : ∃ z, z = zj 5 ((i : Nat) : Int) 0 := ⟨_, rfl⟩
  rw [<- hz] at CW ew
  clear hz
  go_enter Tryz.func42, Tryz.ntmps42
  go_wp2_with (first
   | (go_at_call 26; (with_reducible refine CI.out.mono ?_); rintro e W1 ⟨rfl, p1⟩; have HP1 := hid p1; have C2 := hid (CW.out W1); clear p1)
   | (go_at_call 80; (with_reducible refine C2.out.mono ?_); rintro e W2 ⟨rfl, b2⟩; have HB2 := hid b2; clear b2))
  go_ret
  rw [ew.out, en.out]
  exact ⟨rfl, (HP1.out.behind HB2.out).front HB.out⟩
 obtain ⟨k3, hpt, hfx⟩ : dk = 3 /\ zz dt = true /\ fixB (txZ dt) = true := by
  rcases HK.out with e | e | e | e | e | e | e
  ·exact absurd e k1
  ·exact absurd e k2
  ·exact absurd e k4
  ·exact absurd e k6
  ·exact absurd e k10
  ·exact absurd e k11
  ·exact e
 subst k3
 clear k1 k2 k4 k6 k10 k11
 have ew : Hid (yz ls ⟨3, dn, dt, dl⟩ = zj 1 (txZ dt) 0) := HPW.out
 have en : Hid (ji ls ⟨3, dn, dt, dl⟩ = ls) := HPN.out
 have CP := hid (zel dt htx hpt (w.alloc (.cells #[.int .i64 3, .int .i64 dn, .string dt, .slice ka kn kc] 68)))
 have hzb : -1152921504606846976 <= txZ dt /\ txZ dt < 1152921504606846976 := by
  unfold fixB at hfx
  simpa using hfx
 have CW := hid (fun W => qn 1 (txZ dt) (by unfold Z64; omega) (by unfold Z64; omega) W)
 have HFX := hid hfx
 obtain ⟨zt, hzt⟩ : ∃ z, z = txZ dt := ⟨_, rfl⟩
 rw [<- hzt] at CP CW ew hzb HFX
 obtain ⟨z, hz⟩ : ∃ z, z = zj 1 zt 0 := ⟨_, rfl⟩
 rw [<- hz] at CW ew
 clear hz hzt hfx hpt
 obtain ⟨z1, z2⟩ := hzb
 go_enter Tryz.func42, Tryz.ntmps42
 go_wp2_with (first
  | (go_at_call 77; (with_reducible refine CP.out.mono ?_); rintro e W1 ⟨neg, ao, n, cap, l, rfl, R, gd, hz, hl, hn, b1⟩; have HB1 := hid b1; have HB2 := hid (Ba W1 (.cells #[.bool neg, .slice ao n cap] 134)); have hxi := zd W1 #[.bool neg, .slice ao n cap] 134; have i0 : (W1.alloc (.cells #[.bool neg, .slice ao n cap] 134)).cell? ⟨W1.heap.size, 0, none⟩ = some (.bool neg) := za hxi 0; have i1 : (W1.alloc (.cells #[.bool neg, .slice ao n cap] 134)).cell? ⟨W1.heap.size, 1, none⟩ = some (.slice ao n cap) := za hxi 1; have CF := hid (zjn neg ao n cap l (W1.alloc (.cells #[.bool neg, .slice ao n cap] 134)) (R.below HB2.out) gd); rw [hz] at CF; unfold zbe at CF; rw [HFX.out] at CF; clear R gd hz hl b1 hxi)
  | (go_at_call 78; (with_reducible refine CF.out.mono ?_); rintro e W2 ⟨v, rfl, hv, b2⟩; have HBW2 := hid (Bt (Bt HB1.out HB2.out) b2); rw [hv (by simp)]; have C2 := hid (CW.out W2); clear b2 hv)
  | (go_at_call 80; (with_reducible refine C2.out.mono ?_); rintro e W3 ⟨rfl, b3⟩; have HB3 := hid (Bt HBW2.out b3); clear b3))
 go_ret
 rw [ew.out, en.out]
 exact ⟨rfl, fin.out _ HB3.out⟩
def zr (d : Nd) : Int := if d.kind = 3 then 5 else if d.kind = 5 then 3 else if d.kind = 9 then 4 else if d.kind = 7 then 1 else 2
def kh (t : ByteArray) (n : Nat) : List Int := (List.range n).map (fun i => zj 1 (ze t i : Nat) 0)
def yi (d : Nd) (ws : List Int) : List Int :=
 if d.kind = 3 then bigL (decide (txZ d.text < 0)) (mg (txZ d.text).natAbs) else if d.kind = 5 then (ltrs d.text).map (fun c => zj 4 c 0)
 else if d.kind = 9 then kh d.text d.text.size else d.kids.map (fun k => ws.getD k.toNat 0)
theorem zwn (s : ByteArray) (i : Nat) : (yt s i).1 <= 1114111 := by
 have hl : ∀ n : Nat, letB (n : Int) = true -> n <= 1114111 := fun n h => by
  unfold letB at h
  simp only [Bool.and_eq_true, decide_eq_true_eq] at h
  omega
 by_cases h1 : ze s i < 128
 ·rw [zrr h1]; show ze s i <= 1114111; omega
 by_cases h2 : ze s i < 192
 ·rw [zed (.inl ⟨by omega, h2⟩)]; exact Nat.zero_le _
 by_cases h3 : ze s i < 224
 ·rw [zrs (by omega) h3]
  split
  ·have := zbw s i (ze s i % 32) (by omega) 1
   show cvs s i (ze s i % 32) 1 <= 1114111
   omega
  ·exact Nat.zero_le _
 by_cases h4 : ze s i < 240
 ·rw [zrt (by omega) h4]
  split
  ·next h => exact hl _ h.2.2.2
  ·exact Nat.zero_le _
 by_cases h5 : ze s i < 248
 ·rw [zru (by omega) h5]
  split
  ·next h => exact hl _ h.2.2.2.2
  ·exact Nat.zero_le _
 ·rw [zed (.inr (by omega))]; exact Nat.zero_le _
theorem zyw (s : ByteArray) : ∀ f i, ∀ z ∈ ltF s f i, 0 <= z /\ z <= 1114111
 | 0, _, z, h => by simp [ltF] at h
 | f + 1, i, z, h => by
  unfold ltF at h
  split at h
  ·rcases List.mem_cons.1 h with rfl | h
   ·have := zwn s i; omega
   ·exact zyw s f _ z h
  ·simp at h
theorem zab1 (s : ByteArray) : ∀ z ∈ ltrs s, 0 <= z /\ z <= 1114111 := zyw s _ _
theorem zcn1 {l : List Int} {i : Nat} (h : i < l.length) : (iz l)[i]? = some (.int .i64 (l.getD i 0)) := by
 unfold iz; rw [List.getElem?_map, List.getD_eq_getElem?_getD, List.getElem?_eq_getElem h]; rfl
theorem zhl {w : World} {B : Nat} {e : TypeId} {v : Value} {l : List Int} (h : w.ownsRow B e 1 v l.length (iz l)) (hb : ∀ z ∈ l, I64 z) : ∃ ao cap, v = .slice ao l.length cap /\ IRow w ao l.length cap l := by
 rcases h.2 with ⟨rfl, h0⟩ | ⟨g, cap, cur, rfl, h2, h3, h4, h5, h6, h7⟩
 ·have : l = [] := List.length_eq_zero_iff.1 h0
  subst this
  exact ⟨none, 0, rfl, rfl, Nat.le_refl _, by unfold maxLen; omega, fun _ => rfl, hb, .inl rfl⟩
 ·refine ⟨some ⟨g, 0, none⟩, cap, rfl, rfl, h4, h5, fun e => (by cases e), hb, .inr ⟨g, 0, rfl, (Array.getElem?_eq_some_iff.1 h3).1, fun i hi => ?_⟩⟩
  rw [Nat.zero_add, za h3]
  have : cur[i]? = (iz l)[i]? := by rw [<- h7, List.getElem?_take, if_pos (by omega)]; simp
  rw [this, zcn1 hi]
theorem map_take {α : Type} {l : List Int} {q : Nat} (f : Int -> α) (h : q < l.length) : (l.take (q + 1)).map f = (l.take q).map f ++ [f (l.getD q 0)] := by
 rw [List.take_succ_eq_append_getElem h, List.map_append, List.getD_eq_getElem?_getD, List.getElem?_eq_getElem h]; rfl
theorem zes (t : ByteArray) (q : Nat) : kh t (q + 1) = kh t q ++ [zj 1 (ze t q : Nat) 0] := by
 unfold kh; rw [List.range_succ, List.map_append]; rfl
theorem zcr (t : ByteArray) (q : Nat) : (kh t q).length = q := by simp [kh]
theorem zjs (d : Nd) {ws : List Int} (hw : ∀ z ∈ ws, U64 z) : ∀ z ∈ yi d ws, U64 z := by
 intro z hz
 unfold yi at hz
 split at hz
 ·exact zyt _ _ z hz
 split at hz
 ·obtain ⟨x, _, rfl⟩ := List.mem_map.1 hz; exact zv _ _ _
 split at hz
 ·unfold kh at hz; obtain ⟨x, _, rfl⟩ := List.mem_map.1 hz; exact zv _ _ _
 ·obtain ⟨k, _, rfl⟩ := List.mem_map.1 hz
  rw [List.getD_eq_getElem?_getD]
  by_cases h : k.toNat < ws.length
  ·rw [List.getElem?_eq_getElem h]; exact hw _ (List.getElem_mem _)
  ·rw [List.getElem?_eq_none (by omega)]; exact ⟨Int.le_refl _, by decide⟩
theorem zco1 {neg : Bool} {l : List Nat} {z : Int} (g : qa neg l = true) (hz : sgn neg (val B32 l) = z) : neg = decide (z < 0) := by
 subst hz
 cases neg
 ·exact (decide_eq_false (by simp [sgn])).symm
 ·have h0 : l ≠ [] := fun e => by have := zix g (by rw [e]; rfl); cases this
  have := (xh g).ne_zero (B := B32) (by decide) h0
  exact (decide_eq_true (by simp [sgn]; omega)).symm
def vc (d : Nd) (ws : List Int) (w : World) (e : Ending) (w' : World) : Prop := ∃ v, e = .returned (.tuple #[.int .i64 (zr d), v]) /\ w'.ownsRow w.heap.size 70 1 v (yi d ws).length (uz (yi d ws)) /\ Below w.heap.size w w'
set_option maxHeartbeats 4000000 in
theorem zpc (d : Nd) (ka : Option Addr) (kc : Nat) (aW : Option Addr) (nW cW : Nat) (ws : List Int) (w : World) (hk : d.kind = 3) (htx : d.text.size <= 5000) (hp : zz d.text = true) :
  Calls Tryz.prog 44 #[ku d ka kc, .slice aW nW cW] w (vc d ws w) := by
 have HB := hid (Ba w (.cells #[.int .i64 d.kind, .int .i64 d.num, .string d.text, .slice ka d.kids.length kc] 68))
 have hx := zd w #[.int .i64 d.kind, .int .i64 d.num, .string d.text, .slice ka d.kids.length kc] 68
 have HFL : Hid (yi d ws = bigL (decide (txZ d.text < 0)) (mg (txZ d.text).natAbs)) := if_pos hk
 have HFK : Hid (zr d = 5) := if_pos hk
 unfold ku
 obtain ⟨dk, dn, dt, dl⟩ := d
 simp only at HB hx HFL HFK htx hp hk ⊢
 subst hk
 obtain ⟨kn, hkn⟩ : ∃ n, n = dl.length := ⟨_, rfl⟩
 rw [<- hkn] at HB hx ⊢
 have c0 : (w.alloc (.cells #[.int .i64 3, .int .i64 dn, .string dt, .slice ka kn kc] 68)).cell? ⟨w.heap.size, 0, none⟩ = some (.int .i64 3) := za hx 0
 have c2 : (w.alloc (.cells #[.int .i64 3, .int .i64 dn, .string dt, .slice ka kn kc] 68)).cell? ⟨w.heap.size, 2, none⟩ = some (.string dt) := za hx 2
 have CP := hid (zel dt htx hp (w.alloc (.cells #[.int .i64 3, .int .i64 dn, .string dt, .slice ka kn kc] 68)))
 have HT : Hid (∀ neg l, qa neg l = true -> sgn neg (val B32 l) = txZ dt -> l = mg (txZ dt).natAbs -> bigL neg l = bigL (decide (txZ dt < 0)) (mg (txZ dt).natAbs)) := fun neg l g hz hl => by rw [zco1 g hz, <- hl]
 clear hx hp hkn
 go_enter Tryz.func44, Tryz.ntmps44
 go_wp2_with (first
  | (go_at_call 77; (with_reducible refine CP.out.mono ?_); rintro e W1 ⟨neg, ao, n, cap, l, rfl, R, gd, hz, hl, hn, b1⟩; have HB1 := hid (Bt HB.out b1); have HB2 := hid (Ba W1 (.cells #[.bool neg, .slice ao n cap] 134)); have hxi := zd W1 #[.bool neg, .slice ao n cap] 134; have i0 : (W1.alloc (.cells #[.bool neg, .slice ao n cap] 134)).cell? ⟨W1.heap.size, 0, none⟩ = some (.bool neg) := za hxi 0; have i1 : (W1.alloc (.cells #[.bool neg, .slice ao n cap] 134)).cell? ⟨W1.heap.size, 1, none⟩ = some (.slice ao n cap) := za hxi 1; have CB := hid (zzx neg ao n cap l (W1.alloc (.cells #[.bool neg, .slice ao n cap] 134)) (R.below HB2.out) (by omega)); have HE := hid (HT.out neg l gd hz hl); have HNL := hid R.len; rw [HE.out] at CB; clear R gd hz hl b1 hxi)
  | (go_at_call 82; (with_reducible refine CB.out.mono ?_); rintro e W2 ⟨v, rfl, hv, b2⟩; have HO := hid hv; have HB3 := hid (Bt (Bt HB1.out HB2.out) b2); clear hv b2))
 go_ret2
 have hlen : n + 1 = (bigL (decide (txZ dt < 0)) (mg (txZ dt).natAbs)).length := by rw [<- HE.out, zhi, HNL.out]
 unfold vc
 rw [HFK.out, HFL.out, <- hlen]
 exact ⟨_, rfl, xi HO.out (Bt HB1.out HB2.out).size, HB3.out⟩
set_option maxHeartbeats 4000000 in
theorem zhm (d : Nd) (ka : Option Addr) (kc : Nat) (aW : Option Addr) (nW cW : Nat) (ws : List Int) (w : World) (hk : d.kind = 5) (htx : d.text.size <= 1000000) :
  Calls Tryz.prog 44 #[ku d ka kc, .slice aW nW cW] w (vc d ws w) := by
 have HB := hid (Ba w (.cells #[.int .i64 d.kind, .int .i64 d.num, .string d.text, .slice ka d.kids.length kc] 68))
 have hx := zd w #[.int .i64 d.kind, .int .i64 d.num, .string d.text, .slice ka d.kids.length kc] 68
 have HFL : Hid (yi d ws = (ltrs d.text).map (fun c => zj 4 c 0)) := by
  unfold Hid yi; rw [if_neg (by omega), if_pos hk]
 have HFK : Hid (zr d = 3) := by
  unfold Hid zr; rw [if_neg (by omega), if_pos hk]
 unfold ku
 obtain ⟨dk, dn, dt, dl⟩ := d
 simp only at HB hx HFL HFK htx hk ⊢
 subst hk
 obtain ⟨kn, hkn⟩ : ∃ n, n = dl.length := ⟨_, rfl⟩
 rw [<- hkn] at HB hx ⊢
 have c0 : (w.alloc (.cells #[.int .i64 5, .int .i64 dn, .string dt, .slice ka kn kc] 68)).cell? ⟨w.heap.size, 0, none⟩ = some (.int .i64 5) := za hx 0
 have c2 : (w.alloc (.cells #[.int .i64 5, .int .i64 dn, .string dt, .slice ka kn kc] 68)).cell? ⟨w.heap.size, 2, none⟩ = some (.string dt) := za hx 2
 have CL := hid (zej dt htx (w.alloc (.cells #[.int .i64 5, .int .i64 dn, .string dt, .slice ka kn kc] 68)))
 have hll := zbz dt
 have HLB := hid (zab1 dt)
 obtain ⟨l, hl⟩ : ∃ l, l = ltrs dt := ⟨_, rfl⟩
 rw [<- hl] at CL hll HLB HFL
 clear hx hkn hl
 go_enter Tryz.func44, Tryz.ntmps44
 go_wp2_with (go_at_call 79; (with_reducible refine CL.out.mono ?_); rintro e W1 ⟨v, rfl, hv, b1⟩; obtain ⟨aL, cL, rfl, hR⟩ := zhl hv (fun z hz => by have := HLB.out z hz; unfold I64; omega); have HR := hid hR; have hf := hR.fits; have hm := hR.most; have HB1 := hid (Bt HB.out b1); clear hv hR b1)
 unfold maxLen at hm
 obtain ⟨n, hn⟩ : ∃ n, n = l.length := ⟨_, rfl⟩
 rw [<- hn] at HR hf hll ⊢
 have HN := hid hn
 clear hn
 go_loopw [6, 10] (fun v i wr => ∃ q : Nat, q <= n /\ i = .int .i64 q /\ Hid (wr.ownsRow W1.heap.size 70 1 v q (uz ((l.take q).map (fun c => zj 4 c 0))) /\ Below W1.heap.size W1 wr)) (fun _ i _ => n - (intOf i).toNat)
 case atStart => exact ⟨0, Nat.zero_le _, rfl, World.ownsRow_nil _ _ _ _, Below.refl _ _⟩
 case round =>
  obtain ⟨q, hq, rfl, hI⟩ := hrel
  have HOQ := hid hI.out.1
  have HBQ := hid hI.out.2
  clear hI
  by_cases hlt : q < n
  ·obtain ⟨b, o, rfl, hlb, hcc⟩ := (HR.out.below HBQ.out).some (by omega)
   have hck := hcc q hlt
   have hql : Hid (q < l.length) := by unfold Hid; rw [<- HN.out]; exact hlt
   have hxb : 0 <= l.getD q 0 /\ l.getD q 0 <= 1114111 := by
    rw [List.getD_eq_getElem?_getD, List.getElem?_eq_getElem hql.out]; exact HLB.out _ (List.getElem_mem _)
   have C1 := hid (qn 4 (l.getD q 0) (by unfold Z64; omega) (by unfold Z64; omega) wr)
   have HT := hid (map_take (fun c => zj 4 c 0) hql.out)
   obtain ⟨x, hx⟩ : ∃ x, x = l.getD q 0 := ⟨_, rfl⟩
   rw [<- hx] at hck C1 HT hxb
   obtain ⟨x0, x1⟩ := hxb
   obtain ⟨zx, hzx⟩ : ∃ z, z = zj 4 x 0 := ⟨_, rfl⟩
   have hzu : Hid (U64 zx) := by unfold Hid; rw [hzx]; exact zv _ _ _
   rw [<- hzx] at C1 HT
   clear hcc hx hzx
   go_wp2_with (first
    | (go_at_call 80; (with_reducible refine C1.out.mono ?_); rintro e W2 ⟨rfl, b1⟩; have HB2 := hid (b1.mono HBQ.out.size); have HBW1 := hid (HBQ.out.trans HB2.out); have HO1 := hid (jc (jc HOQ.out b1) (Ba W2 (.cells #[.int .u64 zx] 70))); have HU1 := hid (jx (zd W2 #[.int .u64 zx] 70) hzu.out); have HBA := hid (HBW1.out.trans ((Ba W2 (.cells #[.int .u64 zx] 70)).mono HBW1.out.size)); have HSA := hid HBA.out.size; clear b1)
    | (at_builtin; refine appU rfl _ _ 42 rfl W1.heap.size 70 Tryz.underlying42 ym _ q ((l.take q).map (fun c => zj 4 c 0)) rfl HO1.out (some ⟨W2.heap.size, 0, none⟩) 1 1 [zx] rfl HU1.out (by omega) HSA.out ?_; intro v2 w2 ho2 hg2))
   have HE : Hid (Below W1.heap.size W1 w2) := HBA.out.grown hg2 HSA.out (fun b hb => (HO1.out.lt b hb).1)
   refine ⟨⟨q + 1, by omega, by go_num, ?_, HE.out⟩, by simp [intOf] <;> omega⟩
   rw [HT.out]; exact ho2
  ·obtain rfl : q = n := by omega
   go_wp2_with fail
   go_ret2
   have hO := HOQ.out
   rw [List.take_of_length_le (by rw [<- HN.out]; exact Nat.le_refl _)] at hO
   unfold vc
   rw [HFK.out, HFL.out, List.length_map, <- HN.out]
   exact ⟨_, rfl, xi hO HB1.out.size, Bt HB1.out HBQ.out⟩
set_option maxHeartbeats 4000000 in
theorem zjt (d : Nd) (ka : Option Addr) (kc : Nat) (aW : Option Addr) (nW cW : Nat) (ws : List Int) (w : World) (hk : d.kind = 9) (htx : d.text.size <= 1000000) :
  Calls Tryz.prog 44 #[ku d ka kc, .slice aW nW cW] w (vc d ws w) := by
 have HB := hid (Ba w (.cells #[.int .i64 d.kind, .int .i64 d.num, .string d.text, .slice ka d.kids.length kc] 68))
 have hx := zd w #[.int .i64 d.kind, .int .i64 d.num, .string d.text, .slice ka d.kids.length kc] 68
 have HX := hid hx
 have HFL : Hid (yi d ws = kh d.text d.text.size) := by
  unfold Hid yi; rw [if_neg (by omega), if_neg (by omega), if_pos hk]
 have HFK : Hid (zr d = 4) := by
  unfold Hid zr; rw [if_neg (by omega), if_neg (by omega), if_pos hk]
 unfold ku
 obtain ⟨dk, dn, dt, dl⟩ := d
 simp only at HB hx HX HFL HFK htx hk ⊢
 subst hk
 obtain ⟨kn, hkn⟩ : ∃ n, n = dl.length := ⟨_, rfl⟩
 rw [<- hkn] at HB hx HX ⊢
 have c0 : (w.alloc (.cells #[.int .i64 9, .int .i64 dn, .string dt, .slice ka kn kc] 68)).cell? ⟨w.heap.size, 0, none⟩ = some (.int .i64 9) := za hx 0
 obtain ⟨W0, hW0⟩ : ∃ W, W = w.alloc (.cells #[.int .i64 9, .int .i64 dn, .string dt, .slice ka kn kc] 68) := ⟨_, rfl⟩
 have eW : Hid (w.alloc (.cells #[.int .i64 9, .int .i64 dn, .string dt, .slice ka kn kc] 68) = W0) := hW0.symm
 rw [eW.out] at HB HX
 have HS : Hid (w.heap.size < W0.heap.size) := by unfold Hid; rw [hW0, zb]; omega
 have HC : Hid (∀ W, Below W0.heap.size W0 W -> W.cell? ⟨w.heap.size, 2, none⟩ = some (.string dt)) := fun W b => za ((b.block w.heap.size HS.out).trans HX.out) 2
 clear hx hkn hW0
 go_enter Tryz.func44, Tryz.ntmps44
 go_wp2_with fail
 rw [eW.out]
 clear c0
 go_loopw [6, 11] (fun v i wr => ∃ q : Nat, q <= dt.size /\ i = .int .i64 q /\ Hid (wr.ownsRow W0.heap.size 70 1 v q (uz (kh dt q)) /\ Below W0.heap.size W0 wr)) (fun _ i _ => dt.size - (intOf i).toNat)
 case atStart => exact ⟨0, Nat.zero_le _, rfl, World.ownsRow_nil _ _ _ _, Below.refl _ _⟩
 case round =>
  obtain ⟨q, hq, rfl, hI⟩ := hrel
  have HOQ := hid hI.out.1
  have HBQ := hid hI.out.2
  have d2 := HC.out wr HBQ.out
  clear hI
  by_cases hlt : q < dt.size
  ·have hb0 := qb hlt
   have hbl := qz dt q
   have C1 := hid (qn 1 (ze dt q : Nat) (by unfold Z64; omega) (by unfold Z64; omega) wr)
   have HT := hid (zes dt q)
   obtain ⟨x, hx⟩ : ∃ x, x = ze dt q := ⟨_, rfl⟩
   rw [<- hx] at hb0 hbl C1 HT
   obtain ⟨zx, hzx⟩ : ∃ z, z = zj 1 ((x : Nat) : Int) 0 := ⟨_, rfl⟩
   have hzu : Hid (U64 zx) := by unfold Hid; rw [hzx]; exact zv _ _ _
   rw [<- hzx] at C1 HT
   clear hx hzx
   go_wp2_with (first
    | (go_at_call 80; (with_reducible refine C1.out.mono ?_); rintro e W2 ⟨rfl, b1⟩; have HB2 := hid (b1.mono HBQ.out.size); have HBW1 := hid (HBQ.out.trans HB2.out); have HO1 := hid (jc (jc HOQ.out b1) (Ba W2 (.cells #[.int .u64 zx] 70))); have HU1 := hid (jx (zd W2 #[.int .u64 zx] 70) hzu.out); have HBA := hid (HBW1.out.trans ((Ba W2 (.cells #[.int .u64 zx] 70)).mono HBW1.out.size)); have HSA := hid HBA.out.size; clear b1)
    | (at_builtin; refine appU rfl _ _ 42 rfl W0.heap.size 70 Tryz.underlying42 ym _ q (kh dt q) rfl HO1.out (some ⟨W2.heap.size, 0, none⟩) 1 1 [zx] rfl HU1.out (by omega) HSA.out ?_; intro v2 w2 ho2 hg2))
   have HE : Hid (Below W0.heap.size W0 w2) := HBA.out.grown hg2 HSA.out (fun b hb => (HO1.out.lt b hb).1)
   refine ⟨⟨q + 1, by omega, by go_num, ?_, HE.out⟩, by simp [intOf] <;> omega⟩
   rw [HT.out]; exact ho2
  ·obtain rfl : q = dt.size := by omega
   go_wp2_with fail
   go_ret2
   unfold vc
   rw [HFK.out, HFL.out, zcr]
   exact ⟨_, rfl, xi HOQ.out HB.out.size, Bt HB.out HBQ.out⟩
end Go.Proofs.YtadfihnffboelaaGreatDoor
