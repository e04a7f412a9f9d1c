import Derived.WalkKit
import Derived.WalkSpells
import Derived.WalkLawsBesides
import Derived.Deep.OwnRows
import Derived.Deep.Draws
import Derived.Laws.BitsAllLaws
set_option linter.unusedVariables false
set_option linter.unusedSimpArgs false
namespace Go.Proofs.YticimejfjjmikaaGreatDoor
def val (B : Nat) : List Nat -> Nat
 | []=>0
 | x :: r=>x + B * val B r
def Dg (B : Nat) (l : List Nat) : Prop:=∀ x∈l,x < B
def Tr (l : List Nat) : Prop:=l = [] \/ l.getD (l.length - 1) 0 ≠ 0
theorem val_cons (B x : Nat) (r : List Nat) : val B (x :: r) = x + B * val B r:=rfl
theorem val_append (B : Nat) (l r : List Nat) : val B (l ++ r) = val B l + B ^ l.length * val B r:=by
 induction l with
 | nil=>simp [val]
 | cons x l ih=>simp only [List.cons_append,val_cons,ih,List.length_cons,Nat.pow_succ];rw [Nat.mul_add];rw [Nat.mul_comm (B ^ l.length) B,Nat.mul_assoc];omega
theorem val_snoc (B : Nat) (l : List Nat) (x : Nat) : val B (l ++ [x]) = val B l + B ^ l.length * x:=by rw [val_append];simp [val]
theorem take_snoc (l : List Nat) (k : Nat) (h : k < l.length) : l.take (k + 1) = l.take k ++ [l.getD k 0]:=by
 rw [List.take_succ_eq_append_getElem h,List.getD_eq_getElem?_getD,List.getElem?_eq_getElem h];rfl
theorem drop_cons (l : List Nat) (k : Nat) (h : k < l.length) : l.drop k = l.getD k 0 :: l.drop (k + 1):=by
 rw [List.drop_eq_getElem_cons h,List.getD_eq_getElem?_getD,List.getElem?_eq_getElem h];rfl
theorem val_take_succ (B : Nat) (l : List Nat) (k : Nat) (h : k < l.length) : val B (l.take (k + 1)) = val B (l.take k) + B ^ k * l.getD k 0:=by
 rw [take_snoc l k h,val_snoc,List.length_take,Nat.min_eq_left (Nat.le_of_lt h)]
theorem val_drop_succ (B : Nat) (l : List Nat) (k : Nat) (h : k < l.length) : val B (l.drop k) = l.getD k 0 + B * val B (l.drop (k + 1)):=by
 rw [drop_cons l k h,val_cons]
theorem val_split (B : Nat) (l : List Nat) (k : Nat) (h : k <= l.length) : val B l = val B (l.take k) + B ^ k * val B (l.drop k):=by
 have:=val_append B (l.take k) (l.drop k)
 rw [List.take_append_drop,List.length_take,Nat.min_eq_left h] at this
 exact this
theorem Dg.take {B : Nat} {l : List Nat} (h : Dg B l) (k : Nat) : Dg B (l.take k):=fun x hx=>h x (List.mem_of_mem_take hx)
theorem Dg.drop {B : Nat} {l : List Nat} (h : Dg B l) (k : Nat) : Dg B (l.drop k):=fun x hx=>h x (List.mem_of_mem_drop hx)
theorem Dg.append {B : Nat} {l r : List Nat} (h : Dg B l) (k : Dg B r) : Dg B (l ++ r):=fun x hx=>(List.mem_append.1 hx).elim (h x) (k x)
theorem Dg.nil (B : Nat) : Dg B []:=fun x hx=>by cases hx
theorem Dg.one {B x : Nat} (h : x < B) : Dg B [x]:=fun y hy=>by simp at hy;omega
theorem getD_mem {l : List Nat} {k : Nat} (h : k < l.length) : l.getD k 0∈l:=by
 rw [List.getD_eq_getElem?_getD,List.getElem?_eq_getElem h];exact List.getElem_mem h
theorem Dg.getD {B : Nat} {l : List Nat} (h : Dg B l) (k : Nat) (hk : k < l.length) : l.getD k 0 < B:=h _ (getD_mem hk)
theorem val_lt {B : Nat} {l : List Nat} (h : Dg B l) : val B l < B ^ l.length:=by
 induction l with
 | nil=>simp [val]
 | cons x l ih =>
  have h1 : x < B:=h x (by simp)
  have h2:=ih (fun y hy=>h y (by simp [hy]))
  rw [val_cons,List.length_cons,Nat.pow_succ,Nat.mul_comm (B ^ l.length) B]
  have h3 : B * (val B l + 1) <= B * B ^ l.length:=Nat.mul_le_mul_left B h2
  rw [Nat.mul_add] at h3
  omega
theorem Tr.nil : Tr []:=.inl rfl
theorem Tr.pos {B : Nat} (hB : 0 < B) {l : List Nat} (h : Tr l) (hl : l ≠ []) : B ^ (l.length - 1) <= val B l:=by
 have hn : l.length - 1 < l.length:=by cases l with | nil=>exact absurd rfl hl | cons=>simp
 have hd : l.getD (l.length - 1) 0 ≠ 0:=h.resolve_left hl
 rw [val_split B l (l.length - 1) (by omega),val_drop_succ B l _ hn]
 have : B ^ (l.length - 1) * 1 <= B ^ (l.length - 1) * (l.getD (l.length - 1) 0 + B * val B (l.drop (l.length - 1 + 1))):=Nat.mul_le_mul_left _ (by omega)
 omega
theorem Tr.ne_zero {B : Nat} (hB : 0 < B) {l : List Nat} (h : Tr l) (hl : l ≠ []) : val B l ≠ 0:=by
 have:=h.pos hB hl
 have:=Nat.pow_pos (n:=l.length - 1) hB
 omega
theorem Tr.zero {B : Nat} (hB : 0 < B) {l : List Nat} (h : Tr l) (hv : val B l = 0) : l = []:=by
 apply Classical.byContradiction;intro hl;exact h.ne_zero hB hl hv
theorem Tr.zero_iff {B : Nat} (hB : 0 < B) {l : List Nat} (h : Tr l) : val B l = 0 ↔ l.length = 0:=by
 constructor
 ·intro hv;rw [h.zero hB hv];rfl
 ·intro hv;rw [List.length_eq_zero_iff.1 hv];rfl
theorem lt_of_length {B : Nat} (hB : 0 < B) {a b : List Nat} (ha : Dg B a) (hb : Tr b) (h : a.length < b.length) : val B a < val B b:=by
 have h1:=val_lt ha
 have h2:=hb.pos hB (by intro e;simp [e] at h)
 have h3 : B ^ a.length <= B ^ (b.length - 1):=Nat.pow_le_pow_right hB (by omega)
 omega
theorem lt_of_digit {B : Nat} {a b : List Nat} {k : Nat} (ha : Dg B a) (hka : k < a.length) (hkb : k < b.length) (ht : a.drop (k + 1) = b.drop (k + 1)) (h : a.getD k 0 < b.getD k 0) : val B a < val B b:=by
 rw [val_split B a k (by omega),val_split B b k (by omega),val_drop_succ B a k hka,val_drop_succ B b k hkb,ht]
 have h1:=val_lt (ha.take k)
 rw [List.length_take,Nat.min_eq_left (by omega)] at h1
 have h2 : B ^ k * (a.getD k 0 + 1 + B * val B (b.drop (k + 1))) <= B ^ k * (b.getD k 0 + B * val B (b.drop (k + 1))):=Nat.mul_le_mul_left _ (by omega)
 simp only [Nat.mul_add,Nat.mul_one] at h2 ⊢
 omega
theorem length_of_val {B : Nat} (hB : 0 < B) {a b : List Nat} (ha : Dg B a) (hb : Dg B b) (ta : Tr a) (tb : Tr b) (h : val B a = val B b) : a.length = b.length:=by
 rcases Nat.lt_trichotomy a.length b.length with h' | h' | h'
 ·have:=lt_of_length hB ha tb h';omega
 ·exact h'
 ·have:=lt_of_length hB hb ta h';omega
theorem eq_of_val_len {B : Nat} : ∀ {a b : List Nat},Dg B a -> Dg B b -> a.length = b.length -> val B a = val B b -> a = b
 | [],[],_,_,_,_=>rfl
 | [],_ :: _,_,_,h,_=>by simp at h
 | _ :: _,[],_,_,h,_=>by simp at h
 | x :: a, y :: b, ha, hb, hl, hv => by
  have h1 : x < B:=ha x (by simp)
  have h2 : y < B:=hb y (by simp)
  rw [val_cons,val_cons] at hv
  have hx : x = y:=by
   have e1 : (x + B * val B a) % B = x:=by rw [Nat.add_mul_mod_self_left];exact Nat.mod_eq_of_lt h1
   have e2 : (y + B * val B b) % B = y:=by rw [Nat.add_mul_mod_self_left];exact Nat.mod_eq_of_lt h2
   rw [hv] at e1;omega
  subst hx
  have hv2 : val B a = val B b:=Nat.eq_of_mul_eq_mul_left (by omega : 0 < B) (by omega)
  rw [eq_of_val_len (fun z hz=>ha z (by simp [hz])) (fun z hz=>hb z (by simp [hz])) (by simpa using hl) hv2]
theorem eq_of_val {B : Nat} (hB : 0 < B) {a b : List Nat} (ha : Dg B a) (hb : Dg B b) (ta : Tr a) (tb : Tr b) (h : val B a = val B b) : a = b :=
 eq_of_val_len ha hb (length_of_val hB ha hb ta tb h) h
theorem length_le_of_val {B n : Nat} (hB : 1 < B) {a : List Nat} (ta : Tr a) (h : val B a < B ^ n) : a.length <= n:=by
 apply Classical.byContradiction;intro hl
 have h2:=ta.pos (B:=B) (by omega) (by intro e;simp [e] at hl)
 have h3 : B ^ n <= B ^ (a.length - 1):=Nat.pow_le_pow_right (by omega) (by omega)
 omega
theorem val_lt_iff {B n : Nat} (hB : 1 < B) {a : List Nat} (ha : Dg B a) (ta : Tr a) : a.length <= n ↔ val B a < B ^ n:=by
 constructor
 ·intro h
  have h1:=val_lt ha
  have h3 : B ^ a.length <= B ^ n:=Nat.pow_le_pow_right (by omega) h
  omega
 ·exact length_le_of_val hB ta
theorem val_take_zero (B : Nat) (l : List Nat) (k : Nat) (h : k < l.length) (h0 : l.getD k 0 = 0) : val B (l.take (k + 1)) = val B (l.take k):=by
 rw [val_take_succ B l k h,h0];simp
theorem Tr.take_of {l : List Nat} {m : Nat} (hm : m <= l.length) (h : m = 0 \/ l.getD (m - 1) 0 ≠ 0) : Tr (l.take m):=by
 by_cases h0 : m = 0
 ·subst h0;exact .inl (by simp)
 ·refine .inr ?_
  rw [List.length_take,Nat.min_eq_left hm,List.getD_eq_getElem?_getD,List.getElem?_take,if_pos (by omega),<- List.getD_eq_getElem?_getD]
  rcases h with h | h
  ·exact absurd h h0
  ·exact h
theorem getD_take {l : List Nat} {m i : Nat} (h : i < m) : (l.take m).getD i 0 = l.getD i 0:=by
 rw [List.getD_eq_getElem?_getD,List.getElem?_take,if_pos h,<- List.getD_eq_getElem?_getD]
theorem getD_append_left {l r : List Nat} {i : Nat} (h : i < l.length) : (l ++ r).getD i 0 = l.getD i 0:=by
 rw [List.getD_eq_getElem?_getD,List.getElem?_append_left h,<- List.getD_eq_getElem?_getD]
theorem getD_append_at {l : List Nat} {x : Nat} {i : Nat} (h : i = l.length) : (l ++ [x]).getD i 0 = x:=by
 subst h;rw [List.getD_eq_getElem?_getD];simp
end Go.Proofs.YticimejfjjmikaaGreatDoor
namespace Go.Proofs.YticimejfjjmikaaGreatDoor
open Go.RowKit
theorem hid {p : Prop} (h : p) : Hid p:=h
def Rd (k : IntKind) (w : World) (ao : Option Addr) (l : List Nat) : Prop :=
 l = [] \/ ∃ b o,ao = some ⟨b,o,none⟩ /\ b < w.heap.size /\ ∀ i,i < l.length -> w.cell? ⟨b,o + i,none⟩ = some (.int k (l.getD i 0 : Nat))
structure Row (k : IntKind) (B : Nat) (w : World) (ao : Option Addr) (n cap : Nat) (l : List Nat) : Prop where
 len : l.length = n
 fits : n <= cap
 most : cap <= maxLen
 nil_ : ao = none -> cap = 0
 dg : Dg B l
 rd : Rd k w ao l
theorem Rd.some {k : IntKind} {w : World} {ao : Option Addr} {l : List Nat} (h : Rd k w ao l) (hl : 0 < l.length) :
  ∃ b o,ao = some ⟨b,o,none⟩ /\ b < w.heap.size /\ ∀ i,i < l.length -> w.cell? ⟨b,o + i,none⟩ = some (.int k (l.getD i 0 : Nat)):=by
 rcases h with h | h
 ·simp [h] at hl
 ·exact h
theorem Rd.below {k : IntKind} {w w' : World} {ao : Option Addr} {l : List Nat} (h : Rd k w ao l) (hb : Below w.heap.size w w') : Rd k w' ao l:=by
 rcases h with h | ⟨b,o,e,hl,hc⟩
 ·exact .inl h
 ·exact .inr ⟨b,o,e,Nat.lt_of_lt_of_le hl hb.size,fun i hi=>(hb.cell (p:=⟨b,o + i,none⟩) hl).trans (hc i hi)⟩
theorem Rd.take {k : IntKind} {w : World} {ao : Option Addr} {l : List Nat} (h : Rd k w ao l) (m : Nat) : Rd k w ao (l.take m):=by
 rcases h with h | ⟨b,o,e,hl,hc⟩
 ·exact .inl (by simp [h])
 ·refine .inr ⟨b, o, e, hl, fun i hi => ?_⟩
  rw [List.length_take] at hi
  rw [getD_take (by omega)]
  exact hc i (by omega)
theorem Row.below {k : IntKind} {B : Nat} {w w' : World} {ao : Option Addr} {n cap : Nat} {l : List Nat} (h : Row k B w ao n cap l) (hb : Below w.heap.size w w') : Row k B w' ao n cap l :=
 ⟨h.len,h.fits,h.most,h.nil_,h.dg,h.rd.below hb⟩
theorem Row.take {k : IntKind} {B : Nat} {w : World} {ao : Option Addr} {n cap m : Nat} {l : List Nat} (h : Row k B w ao n cap l) (hm : m <= n) (cap' : Nat) (h1 : m <= cap') (h2 : cap' <= cap) : Row k B w ao m cap' (l.take m) :=
 ⟨by rw [List.length_take,h.len,Nat.min_eq_left hm],h1,Nat.le_trans h2 h.most,fun e=>by have:=h.nil_ e;omega,h.dg.take m,h.rd.take m⟩
theorem Row.nil (k : IntKind) (B : Nat) (w : World) (ao : Option Addr) : Row k B w ao 0 0 []:=⟨rfl,Nat.le_refl _,Nat.zero_le _,fun _=>rfl,Dg.nil B,.inl rfl⟩
theorem Ba (w : World) (o : Obj) : Below w.heap.size w (w.alloc o):=(Below.refl _ _).alloc (Nat.le_refl _) o
theorem Bd (w : World) (k : Nat) : Below w.heap.size w (w.drewN k):=⟨rfl,rfl,rfl,Nat.le_refl _,fun _ _=>rfl⟩
theorem Bt {w w1 w2 : World} (h1 : Below w.heap.size w w1) (h2 : Below w1.heap.size w1 w2) : Below w.heap.size w w2:=h1.trans (h2.mono h1.size)
theorem Baa (w : World) (o o2 : Obj) : Below w.heap.size w ((w.alloc o).alloc o2):=Bt (Ba w o) (Ba _ o2)
theorem cell_old (w : World) (o : Obj) (b i : Nat) (hb : b < w.heap.size) : (w.alloc o).cell? ⟨b,i,none⟩ = w.cell? ⟨b,i,none⟩:=World.cell?_alloc_past _ _ _ hb
theorem size_alloc (w : World) (o : Obj) : (w.alloc o).heap.size = w.heap.size + 1:=by simp
def cmpN (x y : Nat) : Int:=if x < y then -1 else if x = y then 0 else 1
def B32 : Nat:=4294967296
theorem bne_nat (d : Nat) : ((d : Int) != 0) = !decide (d = 0):=by
 by_cases h : d = 0
 ·subst h;rfl
 ·have : ((d : Int) != 0) = true := by rw [bne_iff_ne]; omega
  rw [this];simp [h]
def IntIs (w : World) (x : Value) (neg : Bool) (l : List Nat) : Prop:=∃ ao n cap,x = .agg #[.bool neg,.slice ao n cap] /\ Row .u32 B32 w ao n cap l
def goodB (neg : Bool) (l : List Nat) : Bool:=(decide (l.length = 0) && !neg) || (decide (0 < l.length) && decide (l.length <= 40) && decide (l.getD (l.length - 1) 0 ≠ 0))
theorem goodB_tr {neg : Bool} {l : List Nat} (h : goodB neg l = true) : Tr l:=by
 unfold goodB at h
 by_cases h0 : l.length = 0
 ·exact .inl (List.length_eq_zero_iff.1 h0)
 ·simp [h0] at h
  exact .inr (by simpa using h.2)
theorem goodB_len {neg : Bool} {l : List Nat} (h : goodB neg l = true) : l.length <= 40:=by
 unfold goodB at h
 by_cases h0 : l.length = 0
 ·omega
 ·simp [h0] at h;omega
theorem goodB_neg {neg : Bool} {l : List Nat} (h : goodB neg l = true) (h0 : l.length = 0) : neg = false:=by
 unfold goodB at h
 simp [h0] at h;exact h
theorem goodB_mk {neg : Bool} {l : List Nat} (ht : Tr l) (hl : l.length <= 40) (hn : l.length = 0 -> neg = false) : goodB neg l = true:=by
 unfold goodB
 by_cases h0 : l.length = 0
 ·simp [h0,hn h0]
 ·have : l.getD (l.length - 1) 0 ≠ 0 := ht.resolve_left (fun e => h0 (by simp [e]))
  simp only [h0,this,hl,decide_true,decide_false,Bool.false_and,Bool.false_or,ne_eq,not_false_eq_true,Bool.and_true,decide_eq_true_eq]
  omega
end Go.Proofs.YticimejfjjmikaaGreatDoor
namespace Go.Proofs.YticimejfjjmikaaGreatDoor
open Go.RowKit
structure Win (k : IntKind) (e : TypeId) (w : World) (g o n : Nat) (cur : Array Value) (l : List Nat) : Prop where
 blk : w.heap[g]? = some (.cells cur e (0,0))
 fits : o + n <= cur.size
 len : l.length = n
 at_ : ∀ i,i < n -> cur[o + i]? = some (.int k (l.getD i 0 : Nat))
structure Onto (k : IntKind) (e : TypeId) (g o n : Nat) (w w' : World) (cur : Array Value) (l : List Nat) : Prop where
 os : w'.os = w.os
 tape : w'.tape = w.tape
 output : w'.output = w.output
 size : w'.heap.size = w.heap.size
 block : ∀ j,j ≠ g -> w'.heap[j]? = w.heap[j]?
 row : ∃ cur',Win k e w' g o n cur' l /\ cur'.size = cur.size /\ ∀ j,(j < o \/ o + n <= j) -> cur'[j]? = cur[j]?
variable {k : IntKind} {e : TypeId} {g o n : Nat} {w w' w'' : World} {cur : Array Value} {l : List Nat}
theorem Win.cell (h : Win k e w g o n cur l) {i : Nat} (hi : i < n) : w.cell? ⟨g,o + i,none⟩ = some (.int k (l.getD i 0 : Nat)):=by
 simp [World.cell?,h.blk,h.at_ i hi]
theorem Win.frozen (h : Win k e w g o n cur l) (i : Nat) : w.frozen? ⟨g,i,none⟩ = false:=by simp [World.frozen?,h.blk]
theorem Win.lt (h : Win k e w g o n cur l) : g < w.heap.size:=(Array.getElem?_eq_some_iff.1 h.blk).1
theorem Win.onto (h : Win k e w g o n cur l) : Onto k e g o n w w cur l:=⟨rfl,rfl,rfl,rfl,fun _ _=>rfl,cur,h,rfl,fun _ _=>rfl⟩
theorem Win.rd (h : Win k e w g o n cur l) : Rd k w (some ⟨g,o,none⟩) l:=.inr ⟨g,o,rfl,h.lt,fun i hi=>h.cell (by rw [<- h.len];exact hi)⟩
theorem Onto.cell (h : Onto k e g o n w w' cur l) {i : Nat} (hi : i < n) : w'.cell? ⟨g,o + i,none⟩ = some (.int k (l.getD i 0 : Nat)):=by
 obtain ⟨c,hw,_⟩:=h.row;exact hw.cell hi
theorem Onto.frozen (h : Onto k e g o n w w' cur l) (i : Nat) : w'.frozen? ⟨g,i,none⟩ = false:=by
 obtain ⟨c,hw,_⟩:=h.row;exact hw.frozen i
theorem Onto.len (h : Onto k e g o n w w' cur l) : l.length = n:=by
 obtain ⟨c,hw,_⟩:=h.row;exact hw.len
theorem Onto.drewN (h : Onto k e g o n w w' cur l) (q : Nat) : Onto k e g o n w (w'.drewN q) cur l:=by
 obtain ⟨c,hw,h1,h2⟩:=h.row
 exact ⟨h.os,h.tape,h.output,h.size,h.block,c,⟨hw.blk,hw.fits,hw.len,hw.at_⟩,h1,h2⟩
theorem getD_set {l : List Nat} {i j x : Nat} (hi : i < l.length) : (l.set i x).getD j 0 = if j = i then x else l.getD j 0:=by
 rw [List.getD_eq_getElem?_getD,List.getElem?_set]
 by_cases h : i = j
 ·subst h;simp [hi]
 ·rw [if_neg h,if_neg (fun e=>h e.symm),<- List.getD_eq_getElem?_getD]
theorem Onto.store (h : Onto k e g o n w w' cur l) {i : Nat} (hi : i < n) (x : Nat) : Onto k e g o n w (w'.setCell ⟨g,o + i,none⟩ (.int k x)) cur (l.set i x):=by
 obtain ⟨c,hw,h1,h2⟩:=h.row
 have hb : (w'.setCell ⟨g,o + i,none⟩ (.int k x)).heap[g]? = some (.cells (c.setIfInBounds (o + i) (.int k x)) e (0,0)):=by
  simp [World.setCell,Array.getElem?_modify,hw.blk]
 refine ⟨h.os,h.tape,h.output,by rw [<- h.size];simp [World.setCell],fun j hj=>?_,c.setIfInBounds (o + i) (.int k x),⟨hb,by simpa using hw.fits,by simpa using hw.len,fun j hj=>?_⟩,by simpa using h1,fun j hj=>?_⟩
 ·rw [<- h.block j hj];exact Below.heap_setCell _ _ _ _ hj
 ·have := hw.fits
  rw [Array.getElem?_setIfInBounds,getD_set (by rw [hw.len];exact hi)]
  by_cases e1 : j = i
  ·subst e1;simp;omega
  ·rw [if_neg (by omega),if_neg e1];exact hw.at_ j hj
 ·rw [Array.getElem?_setIfInBounds,if_neg (by omega)];exact h2 j hj
theorem Onto.below (h : Onto k e g o n w w' cur l) {B : Nat} (hB : B <= g) : Below B w w':=⟨h.os,h.tape,h.output,Nat.le_of_eq h.size.symm,fun j hj=>h.block j (by omega)⟩
theorem Onto.congr (h : Onto k e g o n w w' cur l) {l2 : List Nat} (e2 : l = l2) : Onto k e g o n w w' cur l2:=e2 ▸ h
structure Own (k : IntKind) (e : TypeId) (B base : Nat) (w : World) (ao : Option Addr) (n cap : Nat) (l : List Nat) : Prop where
 row : Row k B w ao n cap l
 own : n = 0 \/ ∃ g cur,ao = some ⟨g,0,none⟩ /\ base <= g /\ Win k e w g 0 n cur l
end Go.Proofs.YticimejfjjmikaaGreatDoor
namespace Go.Proofs.YticimejfjjmikaaGreatDoor
open Go.RowKit
def lw (b : List Nat) (j : Nat) : Nat:=val 256 ((b.drop (4 * j)).take 4)
def lws (b : List Nat) (j : Nat) : List Nat:=(List.range j).map (lw b)
theorem lws_length (b : List Nat) (j : Nat) : (lws b j).length = j:=by simp [lws]
theorem lws_succ (b : List Nat) (j : Nat) : lws b (j + 1) = lws b j ++ [lw b j]:=by simp [lws,List.range_succ]
theorem pow_256_4 (j : Nat) : 256 ^ (4 * j) = B32 ^ j:=by
 rw [Nat.pow_mul];rfl
theorem B32_pow : (256 : Nat) ^ 4 = B32:=rfl
theorem lw_lt {b : List Nat} (h : Dg 256 b) (j : Nat) : lw b j < B32:=by
 have h1:=val_lt ((h.drop (4 * j)).take 4)
 have h2 : (256 : Nat) ^ ((b.drop (4 * j)).take 4).length <= 256 ^ 4:=Nat.pow_le_pow_right (by decide) (by rw [List.length_take];omega)
 rw [B32_pow] at h2
 unfold lw;omega
theorem lws_dg {b : List Nat} (h : Dg 256 b) (j : Nat) : Dg B32 (lws b j):=by
 intro x hx
 obtain ⟨i,_,rfl⟩:=List.mem_map.1 hx
 exact lw_lt h i
theorem lws_val (b : List Nat) : ∀ j,4 * j <= b.length + 3 -> val B32 (lws b j) = val 256 (b.take (4 * j))
 | 0,_=>by simp [lws,val]
 | j + 1, h => by
  have ih:=lws_val b j (by omega)
  have e1 : b.take (4 * (j + 1)) = b.take (4 * j) ++ (b.drop (4 * j)).take 4:=by
   rw [show 4 * (j + 1) = 4 * j + 4 by omega,List.take_add]
  rw [lws_succ,val_snoc,ih,e1,val_append,lws_length,List.length_take,Nat.min_eq_left (by omega),pow_256_4]
  rfl
theorem lws_tr {b : List Nat} (ht : Tr b) (j : Nat) (h1 : b.length <= 4 * j) (h2 : 4 * j <= b.length + 3) : Tr (lws b j):=by
 by_cases hj : j = 0
 ·subst hj;exact .inl rfl
 ·refine .inr ?_
  have hl : 0 < b.length:=by omega
  have hd : b.getD (b.length - 1) 0 ≠ 0:=ht.resolve_left (by intro e;simp [e] at hl)
  have e1 : (b.drop (4 * (j - 1))).take 4 = b.drop (4 * (j - 1)):=List.take_of_length_le (by rw [List.length_drop];omega)
  have e2 : (lws b j).getD ((lws b j).length - 1) 0 = lw b (j - 1):=by
   rw [lws_length]
   obtain ⟨i,rfl⟩ : ∃ i,j = i + 1:=⟨j - 1,by omega⟩
   rw [lws_succ,getD_append_at (by rw [lws_length];omega)];rfl
  rw [e2]
  unfold lw
  rw [e1]
  have ht2 : Tr (b.drop (4 * (j - 1))):=by
   refine .inr ?_
   rw [List.getD_eq_getElem?_getD,List.getElem?_drop,<- List.getD_eq_getElem?_getD,List.length_drop,show 4 * (j - 1) + (b.length - 4 * (j - 1) - 1) = b.length - 1 by omega]
   exact hd
  refine ht2.ne_zero (by decide) ?_
  intro e
  have:=congrArg List.length e
  rw [List.length_drop] at this
  simp at this;omega
theorem acc_step (b : List Nat) (j k : Nat) (h : 4 * j + k < b.length) : val 256 ((b.drop (4 * j)).take (k + 1)) = val 256 ((b.drop (4 * j)).take k) + 256 ^ k * b.getD (4 * j + k) 0:=by
 rw [val_take_succ 256 _ k (by rw [List.length_drop];omega),List.getD_eq_getElem?_getD,List.getElem?_drop,<- List.getD_eq_getElem?_getD]
theorem acc_lt {b : List Nat} (h : Dg 256 b) (j k : Nat) : val 256 ((b.drop (4 * j)).take k) < 256 ^ k:=by
 have h1:=val_lt ((h.drop (4 * j)).take k)
 have h2 : (256 : Nat) ^ ((b.drop (4 * j)).take k).length <= 256 ^ k:=Nat.pow_le_pow_right (by decide) (by rw [List.length_take];omega)
 omega
def Big (v : Nat) : Prop:=B32 ^ 40 <= v
def Ans (w : World) (x : Value) (en : Int) (neg : Bool) (v : Nat) : Prop :=
 (¬ Big v /\ en = 0 /\ ∃ l,IntIs w x (neg && decide (l ≠ [])) l /\ Tr l /\ val B32 l = v) \/ (Big v /\ en = 10 /\ x = .agg #[.bool false,.slice none 0 0])
theorem small_len {l : List Nat} (hl : Dg B32 l) (ht : Tr l) : l.length <= 40 ↔ ¬ Big (val B32 l):=by
 rw [val_lt_iff (by decide) hl ht];unfold Big;omega
theorem or_u32_8 (a d : Nat) (h1 : a < 256) (h2 : d < 256) : bits .or .u32 (a : Int) ((d : Int) * 256) = ((a + 256 * d : Nat) : Int):=by
 rw [show ((d : Int) * 256) = ((d * 256 : Nat) : Int) by omega,u32_or_nat _ _ (by omega) (by omega),Nat.or_comm,nat_join 8 _ _ (by omega) (by omega)];omega
theorem or_u32_16 (a d : Nat) (h1 : a < 65536) (h2 : d < 256) : bits .or .u32 (a : Int) ((d : Int) * 65536) = ((a + 65536 * d : Nat) : Int):=by
 rw [show ((d : Int) * 65536) = ((d * 65536 : Nat) : Int) by omega,u32_or_nat _ _ (by omega) (by omega),Nat.or_comm,nat_join 16 _ _ (by omega) (by omega)];omega
theorem or_u32_24 (a d : Nat) (h1 : a < 16777216) (h2 : d < 256) : bits .or .u32 (a : Int) ((d : Int) * 16777216) = ((a + 16777216 * d : Nat) : Int):=by
 rw [show ((d : Int) * 16777216) = ((d * 16777216 : Nat) : Int) by omega,u32_or_nat _ _ (by omega) (by omega),Nat.or_comm,nat_join 24 _ _ (by omega) (by omega)];omega
theorem or_u32_0 (d : Nat) (h2 : d < 256) : bits .or .u32 0 (d : Int) = ((d : Nat) : Int):=by
 have:=u32_or_nat 0 d (by omega) (by omega)
 rw [Nat.zero_or] at this;exact this
theorem blk_set {w : World} {g i : Nat} {c : Array Value} {t : TypeId} (h : w.heap[g]? = some (.cells c t (0,0))) (v : Value) : (w.setCell ⟨g,i,none⟩ v).heap[g]? = some (.cells (c.setIfInBounds i v) t (0,0)):=by
 simp [World.setCell,Array.getElem?_modify,h]
theorem blk_cell {w : World} {g : Nat} {c : Array Value} {t : TypeId} (h : w.heap[g]? = some (.cells c t (0,0))) (i : Nat) : w.cell? ⟨g,i,none⟩ = c[i]?:=by simp [World.cell?,h]
theorem blk_free {w : World} {g : Nat} {c : Array Value} {t : TypeId} (h : w.heap[g]? = some (.cells c t (0,0))) (i : Nat) : w.frozen? ⟨g,i,none⟩ = false:=by simp [World.frozen?,h]
theorem blk_new (w : World) (c : Array Value) (t : TypeId) : (w.alloc (.cells c t)).heap[w.heap.size]? = some (.cells c t (0,0)):=heap_alloc_new w _
theorem ne_box {k : IntKind} {w : World} {l : List Nat} {p b o : Nat} {x : Bool} {a : Option Addr} {m c : Nat} {t : TypeId} (hl : 0 < l.length)
  (hc : ∀ i,i < l.length -> w.cell? ⟨b,o + i,none⟩ = some (.int k (l.getD i 0 : Nat))) (hp : w.heap[p]? = some (.cells #[.bool x,.slice a m c] t (0,0))) : b ≠ p:=by
 intro e
 subst e
 have h1:=hc 0 hl
 rw [blk_cell hp] at h1
 simp only [Nat.add_zero] at h1
 match o,h1 with
 | 0,h1=>simp at h1
 | 1,h1=>simp at h1
 | o + 2,h1=>simp at h1
theorem Row.setBox {k : IntKind} {B : Nat} {w : World} {ao : Option Addr} {n cap : Nat} {l : List Nat} {p : Nat} {x : Bool} {a : Option Addr} {m c : Nat} {t : TypeId} (R : Row k B w ao n cap l)
  (hp : w.heap[p]? = some (.cells #[.bool x,.slice a m c] t (0,0))) (i : Nat) (v : Value) : Row k B (w.setCell ⟨p,i,none⟩ v) ao n cap l:=by
 refine ⟨R.len,R.fits,R.most,R.nil_,R.dg,?_⟩
 rcases R.rd with h | ⟨b,o,h1,h2,h3⟩
 ·exact .inl h
 ·by_cases hl : 0 < l.length
  ·have hne := ne_box hl h3 hp
   exact .inr ⟨b,o,h1,by simpa [World.setCell] using h2,fun j hj=>(World.cell?_of_block (w:=w) (a:=⟨b,o + j,none⟩) (Below.heap_setCell w ⟨p,i,none⟩ v b hne)).trans (h3 j hj)⟩
  ·exact .inl (List.length_eq_zero_iff.1 (by omega))
theorem Row.setBox2 {k : IntKind} {B : Nat} {w : World} {ao : Option Addr} {n cap : Nat} {l : List Nat} {p : Nat} {x : Bool} {a : Option Addr} {m c : Nat} {t : TypeId} (R : Row k B w ao n cap l)
  (hp : w.heap[p]? = some (.cells #[.bool x,.slice a m c] t (0,0))) (y : Bool) (v : Value) : Row k B ((w.setCell ⟨p,0,none⟩ (.bool y)).setCell ⟨p,1,none⟩ v) ao n cap l :=
 (R.setBox hp 0 (.bool y)).setBox (blk_set hp (.bool y)) 1 v
theorem box_set2 {w : World} {p : Nat} {x : Bool} {a : Option Addr} {m c : Nat} {t : TypeId} (hp : w.heap[p]? = some (.cells #[.bool x,.slice a m c] t (0,0))) (y : Bool) (v : Value) :
  ((w.setCell ⟨p,0,none⟩ (.bool y)).setCell ⟨p,1,none⟩ v).heap[p]? = some (.cells #[.bool y,v] t (0,0)):=blk_set (blk_set hp (.bool y)) v
def Box (t : TypeId) (w : World) (p : Nat) (x : Bool) (a : Option Addr) (m c : Nat) : Prop:=w.heap[p]? = some (.cells #[.bool x,.slice a m c] t (0,0))
theorem Box.lt {t : TypeId} {w : World} {p : Nat} {x : Bool} {a : Option Addr} {m c : Nat} (h : Box t w p x a m c) : p < w.heap.size:=(Array.getElem?_eq_some_iff.1 h).1
theorem Box.on {t : TypeId} {w w' : World} {p : Nat} {x : Bool} {a : Option Addr} {m c : Nat} (h : Box t w p x a m c) (hb : Below w.heap.size w w') : Box t w' p x a m c:=(hb.block p h.lt).trans h
theorem Box.below {t : TypeId} {w w' : World} {p B : Nat} {x : Bool} {a : Option Addr} {m c : Nat} (h : Box t w p x a m c) (hb : Below B w w') (hp : p < B) : Box t w' p x a m c:=(hb.block p hp).trans h
theorem Box.c {t : TypeId} {w : World} {p : Nat} {x : Bool} {a : Option Addr} {m c : Nat} (h : Box t w p x a m c) : w.cell? ⟨p,0,none⟩ = some (.bool x) /\ w.cell? ⟨p,1,none⟩ = some (.slice a m c):=⟨blk_cell h 0,blk_cell h 1⟩
theorem Box.f {t : TypeId} {w : World} {p : Nat} {x : Bool} {a : Option Addr} {m c : Nat} (h : Box t w p x a m c) : w.frozen? ⟨p,0,none⟩ = false /\ w.frozen? ⟨p,1,none⟩ = false:=⟨blk_free h 0,blk_free h 1⟩
theorem Box.new (t : TypeId) (w : World) (x : Bool) (a : Option Addr) (m c : Nat) : Box t (w.alloc (.cells #[.bool x,.slice a m c] t)) w.heap.size x a m c:=blk_new _ _ _
theorem Box.alloc {t : TypeId} {w : World} {p : Nat} {x : Bool} {a : Option Addr} {m c : Nat} (h : Box t w p x a m c) (o : Obj) : Box t (w.alloc o) p x a m c:=h.on (Ba w o)
theorem Box.set2 {t : TypeId} {w : World} {p : Nat} {x : Bool} {a : Option Addr} {m c : Nat} (h : Box t w p x a m c) (y : Bool) (a' : Option Addr) (m' c' : Nat) : Box t ((w.setCell ⟨p,0,none⟩ (.bool y)).setCell ⟨p,1,none⟩ (.slice a' m' c')) p y a' m' c':=box_set2 h y _
theorem IntIs.open_ {w : World} {x : Value} {s : Bool} {l : List Nat} (h : IntIs w x s l) : ∃ ao n cap sg,x = .agg #[.bool sg,.slice ao n cap] /\ Hid (sg = s) /\ Row .u32 B32 w ao n cap l:=by
 obtain ⟨ao,n,cap,h1,h2⟩:=h
 exact ⟨ao,n,cap,s,h1,rfl,h2⟩
end Go.Proofs.YticimejfjjmikaaGreatDoor
namespace Go.Proofs.YticimejfjjmikaaGreatDoor
open Go.RowKit
def ltrB (n : Int) : Bool:=decide (0 <= n) && decide (n <= 1114111) && (decide (n < 55296) || decide (57343 < n))
def rightB (k n t : Int) : Bool :=
 if k = 1 then decide (-1152921504606846976 <= n) && decide (n < 1152921504606846976)
 else if k = 2 then decide (0 <= n) && decide (n <= 1099511627776)
 else if k = 3 then decide (0 <= n) && decide (n <= 5)
 else if k = 4 then decide (0 <= n) && decide (n < 1073741824) && ltrB n
 else if k = 5 \/ k = 6 \/ k = 7 then decide (0 <= n) && decide (n <= 1073741824)
 else if k = 8 then decide (1 <= t) && decide (t <= 255) && (decide (0 <= n) && decide (n <= 1099511627776))
 else false
def wrdB (k n t : Int) : Int :=
 if k = 1 then (n * 8) % 18446744073709551616
 else if k = 2 then n * 8 + 1
 else if k = 3 then n * 8 + 2
 else if k = 8 then n * 2048 + t * 8 + 7
 else n * 256 + (k + 2) * 8 + 2
def wordR (k n t : Int) : Int:=if rightB k n t then wrdB k n t else 0
def sgnW (w : Int) : Int:=if w < 9223372036854775808 then w else w - 18446744073709551616
def ofRaw (w : Int) : Int × Int × Int :=
 if w % 8 = 0 then (1,sgnW w / 8,0)
 else if w % 8 = 1 then (2,w / 8,0)
 else if w % 8 = 2 then
  (if w / 8 % 32 <= 5 /\ w / 256 = 0 then (3,w / 8 % 32,0)
   else if 6 <= w / 8 % 32 /\ w / 8 % 32 <= 9 then (w / 8 % 32 - 2,w / 256,0) else (0,0,0))
 else if w % 8 = 7 then (8,w / 2048,w / 8 % 256)
 else (0,0,0)
def ofR (w : Int) : Int × Int × Int:=if rightB (ofRaw w).1 (ofRaw w).2.1 (ofRaw w).2.2 then ofRaw w else (0,0,0)
def U64 (w : Int) : Prop:=0 <= w /\ w < 18446744073709551616
theorem ltrB_rng {n : Int} (h : ltrB n = true) : 0 <= n /\ n <= 1114111:=by
 unfold ltrB at h
 simp only [Bool.and_eq_true,Bool.or_eq_true,decide_eq_true_eq] at h
 omega
theorem right_cases {k n t : Int} (h : rightB k n t = true) :
  (k = 1 /\ -1152921504606846976 <= n /\ n < 1152921504606846976) \/ (k = 2 /\ 0 <= n /\ n <= 1099511627776) \/ (k = 3 /\ 0 <= n /\ n <= 5) \/ (k = 4 /\ 0 <= n /\ n <= 1114111 /\ ltrB n = true) \/ ((k = 5 \/ k = 6 \/ k = 7) /\ 0 <= n /\ n <= 1073741824) \/ (k = 8 /\ 1 <= t /\ t <= 255 /\ 0 <= n /\ n <= 1099511627776):=by
 unfold rightB at h
 split at h
 ·simp only [Bool.and_eq_true,decide_eq_true_eq] at h;omega
 split at h
 ·simp only [Bool.and_eq_true,decide_eq_true_eq] at h;omega
 split at h
 ·simp only [Bool.and_eq_true,decide_eq_true_eq] at h;omega
 split at h
 ·simp only [Bool.and_eq_true, decide_eq_true_eq] at h
  have:=ltrB_rng h.2
  refine .inr (.inr (.inr (.inl ⟨by assumption,by omega,by omega,h.2⟩)))
 split at h
 ·simp only [Bool.and_eq_true,decide_eq_true_eq] at h;omega
 split at h
 ·simp only [Bool.and_eq_true,decide_eq_true_eq] at h;omega
 ·cases h
theorem wrd_rng {k n t : Int} (h : rightB k n t = true) : U64 (wrdB k n t):=by
 unfold U64 wrdB
 rcases right_cases h with ⟨rfl,h1⟩ | ⟨rfl,h1⟩ | ⟨rfl,h1⟩ | ⟨rfl,h1⟩ | ⟨h0,h1⟩ | ⟨rfl,h1⟩
 ·simp only [if_true];omega
 ·simp only [show (2 : Int) ≠ 1 from by decide,if_true,if_false];omega
 ·simp only [show (3 : Int) ≠ 1 from by decide,show (3 : Int) ≠ 2 from by decide,if_true,if_false];omega
 ·simp only [show (4 : Int) ≠ 1 from by decide,show (4 : Int) ≠ 2 from by decide,show (4 : Int) ≠ 3 from by decide,show (4 : Int) ≠ 8 from by decide,if_true,if_false];omega
 ·rw [if_neg (by omega),if_neg (by omega),if_neg (by omega),if_neg (by omega)];omega
 ·simp only [show (8 : Int) ≠ 1 from by decide,show (8 : Int) ≠ 2 from by decide,show (8 : Int) ≠ 3 from by decide,if_true,if_false];omega
theorem wordR_rng (k n t : Int) : U64 (wordR k n t):=by
 unfold wordR
 split
 ·exact wrd_rng (by assumption)
 ·unfold U64;omega
theorem raw_back {k n t : Int} (h : rightB k n t = true) : ofRaw (wrdB k n t) = (k,n,if k = 8 then t else 0):=by
 have hr:=wrd_rng h
 unfold U64 wrdB at hr
 unfold ofRaw wrdB sgnW
 rcases right_cases h with ⟨rfl,h1,h2⟩ | ⟨rfl,h1,h2⟩ | ⟨rfl,h1,h2⟩ | ⟨rfl,h1,h2,h3⟩ | ⟨h0,h1,h2⟩ | ⟨rfl,h1,h2,h3,h4⟩
 ·simp only [if_true] at hr ⊢
  obtain ⟨m,hm⟩ : ∃ m,m = n * 8 % 18446744073709551616:=⟨_,rfl⟩
  rw [<- hm] at hr ⊢
  rw [if_pos (by omega),if_neg (by decide : ¬ (1 : Int) = 8)]
  have e : (if m < 9223372036854775808 then m else m - 18446744073709551616) / 8 = n:=by split <;> omega
  rw [e]
 ·simp only [show (2 : Int) ≠ 1 from by decide, if_true, if_false]
  rw [if_neg (by omega),if_pos (by omega),if_neg (by decide)]
  congr 2;omega
 ·simp only [show (3 : Int) ≠ 1 from by decide, show (3 : Int) ≠ 2 from by decide, if_true, if_false]
  rw [if_neg (by omega),if_neg (by omega),if_pos (by omega),if_pos (by omega),if_neg (by decide)]
  congr 2;omega
 ·simp only [show (4 : Int) ≠ 1 from by decide, show (4 : Int) ≠ 2 from by decide, show (4 : Int) ≠ 3 from by decide, show (4 : Int) ≠ 8 from by decide, if_true, if_false]
  rw [if_neg (by omega),if_neg (by omega),if_pos (by omega),if_neg (by omega),if_pos (by omega)]
  have e1 : (n * 256 + (4 + 2) * 8 + 2) / 8 % 32 - 2 = 4:=by omega
  have e2 : (n * 256 + (4 + 2) * 8 + 2) / 256 = n:=by omega
  rw [e1,e2]
 ·rw [if_neg (by omega : ¬ k = 1), if_neg (by omega : ¬ k = 2), if_neg (by omega : ¬ k = 3), if_neg (by omega : ¬ k = 8), if_neg (by omega : ¬ k = 8)]
  rw [if_neg (by omega),if_neg (by omega),if_pos (by omega),if_neg (by omega),if_pos (by omega)]
  have e1 : (n * 256 + (k + 2) * 8 + 2) / 8 % 32 - 2 = k:=by omega
  have e2 : (n * 256 + (k + 2) * 8 + 2) / 256 = n:=by omega
  rw [e1,e2]
 ·simp only [show (8 : Int) ≠ 1 from by decide, show (8 : Int) ≠ 2 from by decide, show (8 : Int) ≠ 3 from by decide, if_true, if_false]
  rw [if_neg (by omega),if_neg (by omega),if_neg (by omega),if_pos (by omega)]
  have e1 : (n * 2048 + t * 8 + 7) / 8 % 256 = t:=by omega
  have e2 : (n * 2048 + t * 8 + 7) / 2048 = n:=by omega
  rw [e1,e2]
theorem right_norm {k n t : Int} : rightB k n (if k = 8 then t else 0) = rightB k n t:=by
 unfold rightB
 by_cases h : k = 8
 ·simp only [if_pos h]
 ·simp only [if_neg h]
theorem word_back {k n t : Int} (h : rightB k n t = true) : ofR (wordR k n t) = (k,n,if k = 8 then t else 0):=by
 unfold wordR ofR
 rw [if_pos h,raw_back h]
 simp only [right_norm,h,if_true]
end Go.Proofs.YticimejfjjmikaaGreatDoor
