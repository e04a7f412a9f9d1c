import Derived.Test.YticimejfjjmikaaGreatDoorW36
import Derived.Deep.AppendLies
import Derived.Laws.AppendOwnNone
import Derived.Deep.RegionHeld3
import Derived.BigQuiet
import Derived.Deep.QuietTactic
set_option linter.unusedVariables false
set_option linter.unusedSimpArgs false
namespace Go.Proofs.YticimejfjjmikaaGreatDoor
open Go.RowKit
structure Ob where
 kind : Int
 f : List Int
deriving Inhabited
abbrev Sl:=Option Addr × Nat × Nat
def usedL : List Ob -> Nat
 | []=>0
 | x :: l=>1 + x.f.length + usedL l
theorem usedL_append (a b : List Ob) : usedL (a ++ b) = usedL a + usedL b:=by
 induction a with
 | nil=>simp [usedL]
 | cons x l ih=>simp only [List.cons_append,usedL,ih];omega
def oc (at_ : Nat) (x : Ob × Sl) : List Value:=[.int .i64 at_,.int .i64 x.1.kind,.slice x.2.1 x.2.2.1 x.2.2.2]
def ocs (at_ : Nat) : List (Ob × Sl) -> List Value
 | []=>[]
 | x :: l=>oc at_ x ++ ocs (at_ + (1 + x.1.f.length)) l
theorem ocs_append (a : Nat) (l r : List (Ob × Sl)) : ocs a (l ++ r) = ocs a l ++ ocs (a + usedL (l.map Prod.fst)) r:=by
 induction l generalizing a with
 | nil=>simp [ocs,usedL]
 | cons x l ih =>
  simp only [List.cons_append,ocs,ih,List.map_cons,usedL,List.append_assoc]
  rw [show a + (1 + x.1.f.length) + usedL (l.map Prod.fst) = a + (1 + x.1.f.length + usedL (l.map Prod.fst)) by omega]
theorem ocs_length (a : Nat) (l : List (Ob × Sl)) : (ocs a l).length = l.length * 3:=by
 induction l generalizing a with
 | nil=>rfl
 | cons x l ih=>simp only [ocs,List.length_append,ih,List.length_cons];simp [oc];omega
def atI (l : List (Ob × Sl)) (i : Nat) : Nat:=usedL ((l.take i).map Prod.fst)
theorem ocs_get {l : List (Ob × Sl)} {i j : Nat} (hi : i < l.length) (hj : j < 3) : (ocs 0 l)[i * 3 + j]? = (oc (atI l i) (l.getD i default))[j]?:=by
 have h1 : l = l.take i ++ l.drop i:=(List.take_append_drop i l).symm
 have h2 : l.drop i = l.getD i default :: l.drop (i + 1):=by
  rw [List.drop_eq_getElem_cons hi,List.getD_eq_getElem?_getD,List.getElem?_eq_getElem hi];rfl
 have h3 : ocs 0 l = ocs 0 (l.take i) ++ (oc (atI l i) (l.getD i default) ++ ocs (atI l i + (1 + (l.getD i default).1.f.length)) (l.drop (i + 1))):=by
  conv=>lhs;rw [h1,ocs_append,h2]
  simp only [ocs,Nat.zero_add]
  rfl
 have h4 : (ocs 0 (l.take i)).length = i * 3:=by rw [ocs_length,List.length_take,Nat.min_eq_left (by omega)]
 rw [h3,List.getElem?_append_right (by omega),h4,List.getElem?_append_left (by simp [oc];omega)]
 congr 1;omega
def uz (l : List Int) : List Value:=l.map (Value.int .u64)
theorem uz_append (a b : List Int) : uz (a ++ b) = uz a ++ uz b:=by simp [uz]
theorem uz_length (l : List Int) : (uz l).length = l.length:=by simp [uz]
theorem uz_get {l : List Int} {i : Nat} (h : i < l.length) : (uz l)[i]? = some (.int .u64 (l.getD i 0)):=by
 simp [uz,List.getElem?_map,List.getElem?_eq_getElem h,List.getD_eq_getElem?_getD]
structure Mod (F : Nat -> Prop) (w w' : World) : Prop where
 os : w'.os = w.os
 tape : w'.tape = w.tape
 output : w'.output = w.output
 size : w.heap.size <= w'.heap.size
 block : ∀ b,b < w.heap.size -> ¬ F b -> w'.heap[b]? = w.heap[b]?
section
variable {F G : Nat -> Prop} {w w1 w2 : World}
theorem Mod.refl (F : Nat -> Prop) (w : World) : Mod F w w:=⟨rfl,rfl,rfl,Nat.le_refl _,fun _ _ _=>rfl⟩
theorem Mod.of_below (F : Nat -> Prop) (h : Below w.heap.size w w1) : Mod F w w1:=⟨h.os,h.tape,h.output,h.size,fun b hb _=>h.block b hb⟩
theorem Mod.trans (h : Mod F w w1) (k : Mod G w1 w2) (hG : ∀ b,b < w.heap.size -> G b -> F b) : Mod F w w2 :=
 ⟨k.os.trans h.os,k.tape.trans h.tape,k.output.trans h.output,Nat.le_trans h.size k.size,fun b hb hF=>(k.block b (Nat.lt_of_lt_of_le hb h.size) (fun e=>hF (hG b hb e))).trans (h.block b hb hF)⟩
theorem Mod.mono (h : Mod F w w1) (hG : ∀ b,b < w.heap.size -> F b -> G b) : Mod G w w1:=⟨h.os,h.tape,h.output,h.size,fun b hb hg=>h.block b hb (fun e=>hg (hG b hb e))⟩
theorem Mod.below (h : Mod F w w1) {B : Nat} (hF : ∀ b,F b -> B <= b) (hB : B <= w.heap.size) : Below B w w1:=⟨h.os,h.tape,h.output,h.size,fun b hb=>h.block b (by omega) (fun e=>by have:=hF b e;omega)⟩
theorem Mod.setCell (h : Mod F w w1) {p : Addr} (hp : F p.block \/ w.heap.size <= p.block) (u : Value) : Mod F w (w1.setCell p u) :=
 ⟨h.os,h.tape,h.output,by have:=h.size;simp [World.setCell];omega,fun b hb hF=>(Below.heap_setCell _ _ _ _ (fun e=>by subst e;rcases hp with h' | h';exact hF h';omega)).trans (h.block b hb hF)⟩
theorem Mod.grown {row : Option Nat} (h : Mod F w w1) (hg : w1.grownBy w2 row) (hr : ∀ k,row = some k -> F k \/ w.heap.size <= k) : Mod F w w2 :=
 ⟨hg.os.trans h.os,hg.tape.trans h.tape,hg.output.trans h.output,Nat.le_trans h.size hg.size,fun b hb hF=>(hg.block b (Nat.lt_of_lt_of_le hb h.size) (fun e=>by rcases hr b e.symm with h' | h';exact hF h';omega)).trans (h.block b hb hF)⟩
end
structure RH (B g : Nat) (N : Int) (vL : Value) (ls : List (Ob × Sl)) (w : World) : Prop where
 box : w.heap[g]? = some (.cells #[.int .i64 N,vL] 101 (0,0))
 own : w.ownsRow B 98 3 vL ls.length (ocs 0 ls)
 rows : ∀ x∈ls,w.ownsRow B 44 1 (.slice x.2.1 x.2.2.1 x.2.2.2) x.1.f.length (uz x.1.f) /\ x.2.2.1 = x.1.f.length
 apart : ls.Pairwise (fun x y=>∀ a a',x.2.1 = some a -> y.2.1 = some a' -> a.block ≠ a'.block)
 ao : ∀ x∈ls,∀ a,x.2.1 = some a -> vL.ownBlock ≠ some a.block /\ a.block ≠ g
 gl : vL.ownBlock ≠ some g
 Bg : B <= g
 uf : ∀ x∈ls,∀ z∈x.1.f,U64 z
 kd : ∀ x∈ls,1 <= x.1.kind /\ x.1.kind <= 22
 room : (usedL (ls.map Prod.fst) : Int) <= N /\ N <= 1099511627776
def RF (g : Nat) (vL : Value) (ls : List (Ob × Sl)) : Nat -> Prop:=fun b=>b = g \/ vL.ownBlock = some b \/ ∃ x∈ls,∃ a,x.2.1 = some a /\ a.block = b
theorem RH.foot_ge {B g : Nat} {N : Int} {vL : Value} {ls : List (Ob × Sl)} {w : World} (h : RH B g N vL ls w) : ∀ b,RF g vL ls b -> B <= b /\ b < w.heap.size:=by
 rintro b (rfl | h1 | ⟨x,hx,a,ha,rfl⟩)
 ·exact ⟨h.Bg,(Array.getElem?_eq_some_iff.1 h.box).1⟩
 ·exact h.own.lt b h1
 ·exact (h.rows x hx).1.lt a.block (by rw [ha];rfl)
theorem own_at {w w' : World} {base : Nat} {e : TypeId} {k : Nat} {v : Value} {n : Nat} {xs : List Value} (h : w.ownsRow base e k v n xs) (hb : ∀ b,v.ownBlock = some b -> w'.heap[b]? = w.heap[b]?) : w'.ownsRow base e k v n xs:=by
 refine ⟨h.1,?_⟩
 rcases h.2 with h0 | ⟨g,cap,cur,h1,h2,h3,h4⟩
 ·exact .inl h0
 ·exact .inr ⟨g,cap,cur,h1,h2,(hb g (by rw [h1];rfl)).trans h3,h4⟩
theorem RH.keep {B g : Nat} {N : Int} {vL : Value} {ls : List (Ob × Sl)} {w w' : World} (h : RH B g N vL ls w) (hb : ∀ b,RF g vL ls b -> w'.heap[b]? = w.heap[b]?) : RH B g N vL ls w' :=
 { h with
  box:=(hb g (.inl rfl)).trans h.box
  own:=own_at h.own (fun b e=>hb b (.inr (.inl e)))
  rows:=fun x hx=>⟨own_at (h.rows x hx).1 (fun b e=>hb b (.inr (.inr ⟨x,hx,by
   cases e' : x.2.1 with
   | none=>rw [e'] at e;cases e
   | some a=>rw [e'] at e;exact ⟨a,rfl,by injection e⟩⟩))),(h.rows x hx).2⟩ }
theorem RH.mod {B g : Nat} {N : Int} {vL : Value} {ls : List (Ob × Sl)} {w w' : World} {F : Nat -> Prop} (h : RH B g N vL ls w) (hm : Mod F w w') (hF : ∀ b,RF g vL ls b -> ¬ F b) : RH B g N vL ls w' :=
 h.keep (fun b hb=>hm.block b (h.foot_ge b hb).2 (hF b hb))
theorem RH.on {B g : Nat} {N : Int} {vL : Value} {ls : List (Ob × Sl)} {w w' : World} (h : RH B g N vL ls w) (hb : Below w.heap.size w w') : RH B g N vL ls w' :=
 h.keep (fun b hf=>hb.block b (h.foot_ge b hf).2)
theorem RH.obj {B g : Nat} {N : Int} {vL : Value} {ls : List (Ob × Sl)} {w : World} (h : RH B g N vL ls w) {i : Nat} (hi : i < ls.length) {x : Ob × Sl} (hx : x = ls.getD i default) :
  ∃ gl cap,vL = .slice (some ⟨gl,0,none⟩) ls.length cap /\ ls.length <= cap /\ cap <= maxLen /\ w.cell? ⟨gl,i * 3,none⟩ = some (.int .i64 (atI ls i : Nat)) /\ w.cell? ⟨gl,i * 3 + 1,none⟩ = some (.int .i64 x.1.kind) /\ w.cell? ⟨gl,i * 3 + 2,none⟩ = some (.slice x.2.1 x.2.2.1 x.2.2.2):=by
 rcases h.own.2 with ⟨h0,h1⟩ | ⟨gl,cap,cur,h1,h2,h3,h4,h5,h6,h7⟩
 ·omega
 ·have key : ∀ j, j < 3 -> w.cell? ⟨gl, i * 3 + j, none⟩ = (oc (atI ls i) x)[j]? := fun j hj => by
   rw [blk_cell h3,hx,<- ocs_get hi hj,<- h7,List.getElem?_take,if_pos (by omega)];simp
  exact ⟨gl,cap,h1,h4,h5,key 0 (by omega),key 1 (by omega),key 2 (by omega)⟩
theorem getD_in_ob {l : List (Ob × Sl)} {i : Nat} (h : i < l.length) : l.getD i default∈l:=by
 rw [List.getD_eq_getElem?_getD,List.getElem?_eq_getElem h];exact List.getElem_mem h
set_option maxRecDepth 100000
def atO (os : List Ob) (i : Nat) : Nat:=usedL (os.take i)
theorem atI_eq (ls : List (Ob × Sl)) (i : Nat) : atI ls i = atO (ls.map Prod.fst) i:=by unfold atI atO;rw [List.map_take]
theorem getD_fst (ls : List (Ob × Sl)) (i : Nat) : (ls.getD i default).1 = (ls.map Prod.fst).getD i default:=by
 rw [List.getD_eq_getElem?_getD,List.getD_eq_getElem?_getD,List.getElem?_map]
 cases h : ls[i]? <;> rfl
theorem used_last {os : List Ob} (h : 0 < os.length) : atO os (os.length - 1) + 1 + (os.getD (os.length - 1) default).f.length = usedL os:=by
 have e : os = os.take (os.length - 1) ++ [os.getD (os.length - 1) default]:=by
  conv=>lhs;rw [<- List.take_append_drop (os.length - 1) os]
  congr 1
  rw [List.drop_eq_getElem_cons (by omega),List.getD_eq_getElem?_getD,List.getElem?_eq_getElem (by omega)]
  rw [List.drop_eq_nil_of_le (by omega)];rfl
 conv=>rhs;rw [e,usedL_append]
 simp [usedL,atO];omega
theorem len_le_used (os : List Ob) : os.length <= usedL os:=by
 induction os with
 | nil=>simp
 | cons x l ih=>simp only [List.length_cons,usedL];omega
theorem h2_on {w1 wx wy : World} {p : Nat} {a0 : Value} (h : wx.cell? ⟨p,0,none⟩ = some a0 /\ Below w1.heap.size w1 wx) (hb : Below wx.heap.size wx wy) : wy.cell? ⟨p,0,none⟩ = some a0 /\ Below w1.heap.size w1 wy:=⟨(hb.cell (p:=⟨p,0,none⟩) (cell_lt h.1)).trans h.1,Bt h.2 hb⟩
theorem h2_bel {w1 wx : World} {p : Nat} {a0 : Value} (h : wx.cell? ⟨p,0,none⟩ = some a0 /\ Below w1.heap.size w1 wx) : Below w1.heap.size w1 wx:=h.2
section
variable {B g : Nat} {N : Int} {vL : Value} {ls : List (Ob × Sl)}
set_option maxHeartbeats 4000000 in
theorem rused_any (w : World) (h : RH B g N vL ls w) : Calls Tryz.prog 90 #[.pointer (some ⟨g,0,none⟩)] w fun e w'=>e = .returned (.int .i64 (usedL (ls.map Prod.fst) : Nat)) /\ Below w.heap.size w w':=by
 have H:=hid h
 have c1 : w.cell? ⟨g,1,none⟩ = some vL:=blk_cell h.box 1
 have hrm:=h.room
 by_cases h0 : ls.length = 0
 ·rcases h.own.2 with ⟨rfl, _⟩ | ⟨gl, cap, cur, rfl, _⟩
  ·clear h
   have hl : ls = []:=List.length_eq_zero_iff.1 h0
   subst hl
   go_enter Tryz.func90,Tryz.ntmps90
   go_wp2
   go_ret
   exact ⟨rfl,Below.refl _ _⟩
  ·clear h
   have hl : ls = []:=List.length_eq_zero_iff.1 h0
   subst hl
   go_enter Tryz.func90,Tryz.ntmps90
   go_wp2
   go_ret
   exact ⟨rfl,Below.refl _ _⟩
 ·obtain ⟨x, hx⟩ : ∃ x, x = ls.getD (ls.length - 1) default := ⟨_, rfl⟩
  obtain ⟨gl,cap,rfl,hc1,hc2,j0,j1,j2⟩:=h.obj (i:=ls.length - 1) (by omega) hx
  have hmem : x∈ls:=by rw [hx];exact getD_in_ob (by omega)
  have hul:=used_last (os:=ls.map Prod.fst) (by rw [List.length_map];omega)
  rw [List.length_map,<- atI_eq,<- getD_fst,<- hx] at hul
  have hxn:=(h.rows x hmem).2
  obtain ⟨⟨xk,xf⟩,xa,xn,xc⟩:=x
  simp only at j0 j1 j2 hul hxn
  have hgl : g < w.heap.size:=(Array.getElem?_eq_some_iff.1 h.box).1
  have hgl2 : gl < w.heap.size:=cell_lt j0
  obtain ⟨m,hm⟩ : ∃ m,m = ls.length - 1:=⟨_,rfl⟩
  rw [<- hm] at j0 j1 j2 hul
  have hm' : ls.length = m + 1:=by omega
  have HLL:=hid hm'
  unfold maxLen at hc2
  obtain ⟨am,ham⟩ : ∃ a,a = atI ls m:=⟨_,rfl⟩
  rw [<- ham] at j0 hul
  obtain ⟨U,hU⟩ : ∃ u,u = usedL (ls.map Prod.fst):=⟨_,rfl⟩
  rw [<- hU] at hul hrm ⊢
  rw [hm'] at c1 hc1
  clear h H hx hmem hm ham hU h0
  generalize ls.length = LL at *
  have k0 : ∀ ob,(w.alloc ob).cell? ⟨g,1,none⟩ = some (.slice (some ⟨gl,0,none⟩) (m + 1) cap):=fun ob=>(cell_old _ _ _ _ hgl).trans c1
  have k1 : ∀ ob,(w.alloc ob).cell? ⟨gl,m * 3,none⟩ = some (.int .i64 (am : Nat)):=fun ob=>(cell_old _ _ _ _ hgl2).trans j0
  have k2 : ∀ ob,(w.alloc ob).cell? ⟨gl,m * 3 + 1,none⟩ = some (.int .i64 xk):=fun ob=>(cell_old _ _ _ _ hgl2).trans j1
  have k3 : ∀ ob,(w.alloc ob).cell? ⟨gl,m * 3 + 2,none⟩ = some (.slice xa xn xc):=fun ob=>(cell_old _ _ _ _ hgl2).trans j2
  go_enter Tryz.func90,Tryz.ntmps90
  go_wp2
  go_region
  go_wp2
  go_ret
  exact ⟨by rw [show ((U : Nat) : Int) = (am : Int) + 1 + xf.length by omega];rfl,Bt (Ba w _) (Bd _ 1)⟩
set_option maxHeartbeats 4000000 in
theorem rroom_any (w : World) (h : RH B g N vL ls w) : Calls Tryz.prog 69 #[.pointer (some ⟨g,0,none⟩)] w fun e w'=>e = .returned (.int .i64 (N - (usedL (ls.map Prod.fst) : Nat))) /\ Below w.heap.size w w':=by
 have H:=hid h
 have hrm:=h.room
 have c0 : w.cell? ⟨g,0,none⟩ = some (.int .i64 N):=blk_cell h.box 0
 have hgl : g < w.heap.size:=(Array.getElem?_eq_some_iff.1 h.box).1
 have C1 : Hid (∀ wx,Below w.heap.size w wx -> Calls Tryz.prog 90 #[.pointer (some ⟨g,0,none⟩)] wx fun e w'=>e = .returned (.int .i64 (usedL (ls.map Prod.fst) : Nat)) /\ Below wx.heap.size wx w'):=fun wx b=>rused_any wx (H.out.on b)
 obtain ⟨U,hU⟩ : ∃ u,u = usedL (ls.map Prod.fst):=⟨_,rfl⟩
 rw [<- hU] at C1 hrm ⊢
 clear h hU
 have HS0 : Hid (w.cell? ⟨g,0,none⟩ = some (.int .i64 N) /\ Below w.heap.size w w):=⟨c0,Below.refl _ _⟩
 have hw1 : IntKind.i64.wrap (N - (U : Nat)) = N - (U : Nat):=by rw [IntKind.wrap_i64];omega
 go_enter Tryz.func69,Tryz.ntmps69
 go_wp2_with fail
 go_region_held3 (fun wx=>wx.cell? ⟨g,0,none⟩ = some (.int .i64 N) /\ Below w.heap.size w wx)
  (first | exact h2_on HS0.out (Bd w 1) | exact h2_on (by assumption) (by assumption))
  (first | (go_at_call 90;with_reducible refine (C1.out _ ?_).mono ?_;(exact h2_bel (p:=g) (a0:=.int .i64 N) (by assumption));rintro e wa ⟨rfl,ba⟩))
 have HBE : Hid (Below w.heap.size w wa):=h2_bel (p:=g) (a0:=.int .i64 N) (by assumption)
 rename_i hHeld
 clear hHeld
 go_wp2
 go_ret
 exact ⟨rfl,HBE.out⟩
end
set_option maxHeartbeats 4000000 in
theorem ishead_any (x : Int) (hx : U64 x) (w : World) : Calls Tryz.prog 68 #[.int .u64 x] w fun e w'=>e = .returned (.bool (decide ((ofR x).1 = 8))) /\ Below w.heap.size w w':=by
 have C1:=hid (rof_any x hx)
 obtain ⟨o,ho⟩ : ∃ o,o = ofR x:=⟨_,rfl⟩
 rw [<- ho] at C1 ⊢
 obtain ⟨k,n,t⟩:=o
 simp only at C1 ⊢
 unfold SVal at C1
 clear ho
 have hfd : ∀ w,(Instr.field 161 (.agg #[.int .i64 k,.int .i64 n,.int .i64 t]) 0).run Tryz.prog w = .ok (.int .i64 k) w:=fun w=>rfl
 go_enter Tryz.func68,Tryz.ntmps68
 go_wp2_with (go_at_call 97;with_reducible refine (C1.out _).mono ?_;rintro e wa ⟨rfl,ba⟩)
 go_ret
 refine ⟨?_,ba⟩
 by_cases hk : k = 8
 ·subst hk;rfl
 ·have e1 : (k == 8) = false := by simpa using hk
  simp [e1,hk]
set_option maxHeartbeats 4000000 in
theorem rptr_any (n : Nat) (hn : n <= 1099511627776) (w : World) : Calls Tryz.prog 93 #[.int .i64 n] w fun e w'=>e = .returned (.int .u64 (wordR 2 n 0)) /\ Below w.heap.size w w':=by
 have C1:=hid (rword_any 2 n 0 (by unfold Z64;omega) (by unfold Z64;omega) (by unfold Z64;omega))
 unfold SVal at C1
 go_enter Tryz.func93,Tryz.ntmps93
 go_wp2_with (go_at_call 147;with_reducible refine (C1.out _).mono ?_;rintro e wa ⟨rfl,ba⟩)
 go_ret
 exact ⟨rfl,ba⟩
def fnd (os : List Ob) (n : Int) (i : Nat) : Option Nat:=if i < os.length then (if (atO os i : Int) = n then some i else fnd os n (i + 1)) else none
termination_by os.length - i
def findM (os : List Ob) (p : Int) : Option Nat:=if (ofR p).1 = 2 then fnd os (ofR p).2.1 0 else none
def optI : Option Nat -> Int
 | some i=>i
 | none=>-1
theorem fnd_lt {os : List Ob} {n : Int} {i j : Nat} (h : fnd os n i = some j) : j < os.length /\ (atO os j : Int) = n:=by
 induction hk : os.length - i generalizing i with
 | zero=>rw [fnd,if_neg (by omega)] at h;cases h
 | succ k ih =>
  rw [fnd,if_pos (by omega)] at h
  split at h
  ·injection h with h;subst h;exact ⟨by omega,by assumption⟩
  ·exact ih h (by omega)
section
variable {B g : Nat} {N : Int} {vL : Value} {ls : List (Ob × Sl)}
set_option maxHeartbeats 4000000 in
theorem rfind_any (p : Int) (hp : U64 p) (w : World) (h : RH B g N vL ls w) : Calls Tryz.prog 53 #[.pointer (some ⟨g,0,none⟩),.int .u64 p] w fun e w'=>e = .returned (.int .i64 (optI (findM (ls.map Prod.fst) p))) /\ Below w.heap.size w w':=by
 have H:=hid h
 have C1:=hid (rof_any p hp)
 have hlen : ls.length <= 1099511627776:=by have:=len_le_used (ls.map Prod.fst);have:=h.room;rw [List.length_map] at *;omega
 obtain ⟨o,ho⟩ : ∃ o,o = ofR p:=⟨_,rfl⟩
 have HF : Hid (findM (ls.map Prod.fst) p = if o.1 = 2 then fnd (ls.map Prod.fst) o.2.1 0 else none):=by unfold Hid findM;rw [ho]
 rw [<- ho] at C1
 obtain ⟨k,n,t⟩:=o
 simp only at C1 HF
 unfold SVal at C1
 clear ho h
 go_enter Tryz.func53,Tryz.ntmps53
 go_wp2_with (go_at_call 97;with_reducible refine (C1.out _).mono ?_;rintro e wa ⟨rfl,ba⟩;have HBA:=hid ba;clear ba)
 have bX:=Ba wa (.cells #[.int .i64 k,.int .i64 n,.int .i64 t] 161)
 have hx:=blk_new wa #[.int .i64 k,.int .i64 n,.int .i64 t] 161
 obtain ⟨gs,hgs⟩ : ∃ q,q = wa.heap.size:=⟨_,rfl⟩
 rw [<- hgs] at hx
 rw [<- hgs]
 clear hgs
 generalize wa.alloc (.cells #[.int .i64 k,.int .i64 n,.int .i64 t] 161) = W at *
 have HBW:=hid (Bt HBA.out bX)
 have HW:=hid (H.out.on (Bt HBA.out bX))
 have HX:=hid hx
 clear bX hx
 go_loopw [6] (fun i wr=>∃ q : Nat,q <= ls.length /\ i = .int .i64 q /\ Hid (Below W.heap.size W wr) /\ Hid (k = 2 -> fnd (ls.map Prod.fst) n 0 = fnd (ls.map Prod.fst) n q)) (fun i _=>ls.length - (intOf i).toNat)
 case atStart=>exact ⟨0,Nat.zero_le _,rfl,Below.refl _ _,fun _=>rfl⟩
 case round =>
  obtain ⟨q,hq,rfl,hb,hT⟩:=hrel
  have hx1:=(hb.out.block gs (Array.getElem?_eq_some_iff.1 HX.out).1).trans HX.out
  have d0 : wr.cell? ⟨gs,0,none⟩ = some (.int .i64 k):=blk_cell hx1 0
  have d1 : wr.cell? ⟨gs,1,none⟩ = some (.int .i64 n):=blk_cell hx1 1
  have hR:=HW.out.on hb.out
  have c1 : wr.cell? ⟨g,1,none⟩ = some vL:=blk_cell hR.box 1
  have HBR:=hid (Bt HBW.out hb.out)
  clear hx1
  by_cases h2 : k = 2
  ·have e2 : (k == 2) = true := by simpa using h2
   by_cases hlt : q < ls.length
   ·obtain ⟨x, hx⟩ : ∃ x, x = ls.getD q default := ⟨_, rfl⟩
    obtain ⟨gl,cap,hv,hc1,hc2,j0,j1,j2⟩:=hR.obj hlt hx
    obtain rfl:=hv
    have hfn : Hid (fnd (ls.map Prod.fst) n q = if (atO (ls.map Prod.fst) q : Int) = n then some q else fnd (ls.map Prod.fst) n (q + 1)):=by unfold Hid;rw [fnd,if_pos (by rw [List.length_map];omega)]
    rw [atI_eq] at j0
    obtain ⟨am,ham⟩ : ∃ a,a = atO (ls.map Prod.fst) q:=⟨_,rfl⟩
    rw [<- ham] at j0 hfn
    unfold maxLen at hc2
    clear hR hx j1 j2 ham
    by_cases hn : (am : Int) = n
    ·have en : ((am : Int) == n) = true := by simpa using hn
     go_wp2_with fail
     go_quiet (fail)
     go_wp2_with fail
     go_ret
     refine ⟨?_,Bt HBR.out (Bd wr _)⟩
     rw [HF.out,if_pos h2,hT.out h2,hfn.out,if_pos hn]
     rfl
    ·have en : ((am : Int) == n) = false := by simpa using hn
     go_wp2_with fail
     go_quiet (fail)
     go_wp2_with fail
     exact ⟨⟨q + 1,by omega,by go_num,Bt hb.out (Bd wr _),fun e=>(hT.out e).trans (hfn.out.trans (if_neg hn))⟩,by simp [intOf] <;> omega⟩
   ·obtain rfl : q = ls.length := by omega
    rcases hR.own.2 with ⟨rfl,_⟩ | ⟨gl,cap,cur,rfl,_⟩
    all_goals
     clear hR
     go_wp2_with fail
     go_ret
     refine ⟨?_,HBR.out⟩
     rw [HF.out,if_pos h2,hT.out h2,fnd,if_neg (by rw [List.length_map];omega)]
     rfl
  ·have e2 : (k == 2) = false := by simpa using h2
   clear hR
   go_wp2_with fail
   go_ret
   refine ⟨?_,HBR.out⟩
   rw [HF.out,if_neg h2]
   rfl
end
def fieldM (os : List Ob) (p kind i : Int) : Int × Int :=
 match findM os p with
 | none=>(0,70)
 | some n=>if kind ≠ 0 /\ (os.getD n default).kind ≠ kind then (0,70) else if i < 0 \/ ((os.getD n default).f.length : Int) <= i then (0,2) else ((n : Int),0)
def getM (os : List Ob) (p kind i : Int) : Int × Int :=
 if (fieldM os p kind i).2 = 0 then ((os.getD (fieldM os p kind i).1.toNat default).f.getD i.toNat 0,0) else (0,(fieldM os p kind i).2)
theorem findM_lt {os : List Ob} {p : Int} {n : Nat} (h : findM os p = some n) : n < os.length /\ (atO os n : Int) = (ofR p).2.1:=by
 unfold findM at h
 split at h
 ·exact fnd_lt h
 ·cases h
theorem fieldM_ok {os : List Ob} {p kind i : Int} (h : (fieldM os p kind i).2 = 0) : ∃ n : Nat,fieldM os p kind i = ((n : Int),0) /\ n < os.length /\ findM os p = some n /\ 0 <= i /\ i < (os.getD n default).f.length:=by
 unfold fieldM at h ⊢
 cases hf : findM os p with
 | none=>rw [hf] at h;simp at h
 | some n =>
  rw [hf] at h
  simp only at h ⊢
  split at h
  ·simp at h
  ·rename_i h1
   split at h
   ·simp at h
   ·rename_i h2
    exact ⟨n,by rw [if_neg h1,if_neg h2],(findM_lt hf).1,rfl,by omega,by omega⟩
def setF (x : Ob) (j : Nat) (z : Int) : Ob:={ x with f:=x.f.set j z }
def setM (os : List Ob) (p kind i z : Int) : List Ob × Int :=
 if (fieldM os p kind i).2 ≠ 0 then (os,(fieldM os p kind i).2)
 else if (ofR z).1 = 8 then (os,1)
 else (os.set (fieldM os p kind i).1.toNat (setF (os.getD (fieldM os p kind i).1.toNat default) i.toNat z),0)
end Go.Proofs.YticimejfjjmikaaGreatDoor
