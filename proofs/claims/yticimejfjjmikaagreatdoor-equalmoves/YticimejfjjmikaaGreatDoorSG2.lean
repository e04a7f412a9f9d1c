import Derived.Test.YticimejfjjmikaaGreatDoorV5
import Derived.Test.YticimejfjjmikaaGreatDoorW40
import Derived.Test.YticimejfjjmikaaGreatDoorSG1
set_option linter.unusedVariables false
set_option linter.unusedSimpArgs false
set_option maxRecDepth 100000
namespace Go.Proofs.YticimejfjjmikaaGreatDoor
open Go.RowKit
def zi : List Ob -> List Int
 | []=>[]
 | x :: l=>zj 8 (x.f.length : Nat) x.kind :: (x.f ++ zi l)
theorem vp (a b : List Ob) : zi (a ++ b) = zi a ++ zi b:=by
 induction a with
 | nil=>rfl
 | cons x l ih=>simp only [List.cons_append,zi,ih,List.append_assoc]
theorem zh (a : List Ob) : (zi a).length = zc a:=by
 induction a with
 | nil=>rfl
 | cons x l ih=>simp only [zi,zc,List.length_cons,List.length_append,ih];omega
structure OsOk (os : List Ob) : Prop where
 kd : ∀ x∈os,1 <= x.kind /\ x.kind <= 22
 uf : ∀ x∈os,∀ z∈x.f,U64 z
 nh : ∀ x∈os,∀ z∈x.f,isHd z = false
def zbn (os : List Ob) (p : Int) : Int × Int:=match zr os p with | none=>(0,70) | some n=>((os.getD n default).kind,0)
def zem (os : List Ob) (p : Int) : Int × Int:=match zr os p with | none=>(0,70) | some n=>((os.getD n default).f.length,0)
def zaj (os : List Ob) : List Int:=(List.range os.length).map (fun i=>zj 2 (atO os i : Nat) 0)
def sh (x : Ob) : Int × Nat:=(x.kind,x.f.length)
theorem znq : ∀ {a b : List Ob},a.map sh = b.map sh -> zc a = zc b
 | [],[],_=>rfl
 | [],_ :: _,h=>by cases h
 | _ :: _,[],h=>by cases h
 | x :: a,y :: b,h=>by
  simp only [List.map_cons,List.cons.injEq] at h
  have h1 : x.f.length = y.f.length:=congrArg Prod.snd h.1
  simp only [zc,znq h.2,h1]
theorem zcb1 {a b : List Ob} (h : a.map sh = b.map sh) : a.length = b.length:=by
 have:=congrArg List.length h;simpa using this
theorem zie1 {a b : List Ob} (h : a.map sh = b.map sh) (i : Nat) : atO a i = atO b i:=by
 unfold atO;exact znq (by rw [List.map_take,List.map_take,h])
theorem zgh1 {a b : List Ob} (h : a.map sh = b.map sh) (n : Int) (i : Nat) : fnd a n i = fnd b n i:=by
 induction hk : a.length - i generalizing i with
 | zero =>
  have:=zcb1 h
  have e1 : fnd a n i = none:=by rw [fnd,if_neg (by omega)]
  have e2 : fnd b n i = none:=by rw [fnd,if_neg (by omega)]
  rw [e1,e2]
 | succ k ih =>
  have:=zcb1 h
  have e1 : fnd a n i = if (atO a i : Int) = n then some i else fnd a n (i + 1):=by rw [fnd,if_pos (by omega)]
  have e2 : fnd b n i = if (atO b i : Int) = n then some i else fnd b n (i + 1):=by rw [fnd,if_pos (by omega)]
  rw [e1,e2,zie1 h,ih (i + 1) (by omega)]
theorem zdh1 {a b : List Ob} (h : a.map sh = b.map sh) (p : Int) : zr a p = zr b p:=by
 unfold zr;rw [zgh1 h]
theorem zbf {p : Int} (hp : U64 p) (h : (ofR p).1 = 2) : p = (ofR p).2.1 * 8 + 1:=by
 unfold ofR at h ⊢
 split at h
 ·rename_i hr
  rw [if_pos hr]
  unfold U64 at hp
  unfold jw at h ⊢
  split at h
  ·exact absurd h (by simp)
  rename_i h0
  split at h
  ·rename_i h1
   rw [if_neg h0,if_pos h1]
   show p = p / 8 * 8 + 1
   omega
  ·rename_i h1
   split at h
   ·split at h
    ·exact absurd h (by simp)
    split at h
    ·have h' : p / 8 % 32 - 2 = 2 := h
     omega
    ·exact absurd h (by simp)
   split at h
   ·exact absurd h (by simp)
   ·exact absurd h (by simp)
 ·exact absurd h (by simp)
theorem zlb {os : List Ob} {p q : Int} {n : Nat} (hp : U64 p) (hq : U64 q) (h1 : zr os p = some n) (h2 : zr os q = some n) : p = q:=by
 have e1:=yc h1
 have e2:=yc h2
 unfold zr at h1 h2
 split at h1
 ·rename_i k1
  split at h2
  ·rename_i k2
   have a1:=zbf hp k1
   have a2:=zbf hq k2
   omega
  ·cases h2
 ·cases h1
theorem zft {os : List Ob} {k : Nat} (h : k < os.length) : zi os = zi (os.take k) ++ (zj 8 ((os.getD k default).f.length : Nat) (os.getD k default).kind :: ((os.getD k default).f ++ zi (os.drop (k + 1)))):=by
 have h1 : os = os.take k ++ (os.getD k default :: os.drop (k + 1)):=by
  conv=>lhs;rw [<- List.take_append_drop k os,List.drop_eq_getElem_cons h]
  rw [List.getD_eq_getElem?_getD,List.getElem?_eq_getElem h];rfl
 conv=>lhs;rw [h1,vp]
 rfl
theorem zpf (os : List Ob) (k : Nat) : (zi (os.take k)).length = atO os k:=by rw [zh];rfl
theorem zak {os : List Ob} {k : Nat} (h : k < os.length) : (zi os).getD (atO os k) 0 = zj 8 ((os.getD k default).f.length : Nat) (os.getD k default).kind:=by
 rw [zft h,List.getD_eq_getElem?_getD,List.getElem?_append_right (by rw [zpf];exact Nat.le_refl _),zpf,Nat.sub_self];rfl
theorem xb {os : List Ob} {k j : Nat} (h : k < os.length) (hj : j < (os.getD k default).f.length) : (zi os).getD (atO os k + 1 + j) 0 = (os.getD k default).f.getD j 0:=by
 rw [zft h,List.getD_eq_getElem?_getD,List.getElem?_append_right (by rw [zpf];omega),zpf,show atO os k + 1 + j - atO os k = j + 1 by omega,List.getElem?_cons_succ,List.getElem?_append_left hj,<- List.getD_eq_getElem?_getD]
theorem zdu {os : List Ob} {k : Nat} (h : k < os.length) : atO os (k + 1) = atO os k + 1 + (os.getD k default).f.length:=by
 unfold atO
 rw [List.take_succ_eq_append_getElem h,y9,List.getD_eq_getElem?_getD,List.getElem?_eq_getElem h]
 simp only [zc,Option.getD_some];omega
theorem zpg (os : List Ob) : atO os os.length = zc os:=by unfold atO;rw [List.take_length]
theorem zfu {os : List Ob} {j k : Nat} (h : j <= k) (hk : k <= os.length) : atO os j + (k - j) <= atO os k:=by
 induction k with
 | zero => obtain rfl : j = 0 := by omega
           simp
 | succ k ih =>
  by_cases e : j = k + 1
  ·subst e;simp
  ·have := ih (by omega) (by omega)
   rw [zdu (by omega)];omega
theorem zcc1 {os : List Ob} {j k : Nat} (hj : j < os.length) (hk : k < os.length) (h : atO os j = atO os k) : j = k:=by
 rcases Nat.lt_trichotomy j k with h1 | h1 | h1
 ·have:=zfu (os:=os) (Nat.le_of_lt h1) (Nat.le_of_lt hk);omega
 ·exact h1
 ·have:=zfu (os:=os) (Nat.le_of_lt h1) (Nat.le_of_lt hj);omega
theorem kj {os : List Ob} {k : Nat} (h : k < os.length) : atO os k + 1 + (os.getD k default).f.length <= zc os:=by
 rw [<- zdu h,<- zpg]
 have:=zfu (os:=os) (j:=k + 1) (k:=os.length) h (Nat.le_refl _)
 omega
theorem zzh {os : List Ob} {i : Nat} (h : i < zc os) : ∃ k,k < os.length /\ (i = atO os k \/ ∃ j,j < (os.getD k default).f.length /\ i = atO os k + 1 + j):=by
 have key : ∀ n,n <= os.length -> i < atO os n -> ∃ k,k < n /\ atO os k <= i /\ i < atO os (k + 1):=fun n=>by
  induction n with
  | zero=>intro _ h;simp [atO,zc] at h
  | succ n ih =>
   intro hn hi
   by_cases e : i < atO os n
   ·obtain ⟨k,a,b⟩:=ih (by omega) e;exact ⟨k,by omega,b⟩
   ·exact ⟨n,by omega,by omega,hi⟩
 obtain ⟨k,h1,h2,h3⟩:=key os.length (Nat.le_refl _) (by rw [zpg];exact h)
 rw [zdu h1] at h3
 refine ⟨k,h1,?_⟩
 by_cases e : i = atO os k
 ·exact .inl e
 ·exact .inr ⟨i - atO os k - 1,by omega,by omega⟩
theorem zvj {os : List Ob} {k : Nat} (h : k < os.length) {i : Nat} (hi : i <= k) : fnd os (atO os k : Nat) i = some k:=by
 induction hk : k - i generalizing i with
 | zero =>
  obtain rfl : i = k:=by omega
  rw [fnd,if_pos h,if_pos rfl]
 | succ n ih =>
  rw [fnd,if_pos (by omega),if_neg (fun e=>by have:=zcc1 (os:=os) (j:=i) (k:=k) (by omega) h (by omega);omega),ih (by omega) (by omega)]
theorem zvk {n : Nat} (h : n <= 1099511627776) : ofR (zj 2 (n : Int) 0) = (2,(n : Int),0):=by
 have:=zfa (k:=2) (n:=n) (t:=0) (by unfold zm;simp;omega)
 simpa using this
theorem ziw {os : List Ob} {k : Nat} (h : k < os.length) (hu : zc os <= 1099511627776) : zr os (zj 2 (atO os k : Nat) 0) = some k:=by
 have hl:=kj h
 unfold zr
 rw [zvk (by omega)]
 simp only [if_true]
 exact zvj h (Nat.zero_le _)
theorem zix {x : Ob} (hk : 1 <= x.kind /\ x.kind <= 22) (hl : x.f.length <= 1099511627776) : ofR (zj 8 (x.f.length : Nat) x.kind) = (8,((x.f.length : Nat) : Int),x.kind):=by
 have:=zfa (k:=8) (n:=(x.f.length : Nat)) (t:=x.kind) (by unfold zm;simp;omega)
 simpa using this
theorem yi {l : List Ob} {i : Nat} (h : i < l.length) : l.getD i default∈l:=by
 rw [List.getD_eq_getElem?_getD,List.getElem?_eq_getElem h];exact List.getElem_mem h
theorem zq {l : List Int} {i : Nat} (h : i < l.length) : l.getD i 0∈l:=by
 rw [List.getD_eq_getElem?_getD,List.getElem?_eq_getElem h];exact List.getElem_mem h
theorem zzi {os : List Ob} (ho : OsOk os) (hu : zc os <= 1099511627776) {i : Nat} (h : i < zc os) : (ofR ((zi os).getD i 0)).1 = 8 ↔ ∃ k,k < os.length /\ i = atO os k:=by
 constructor
 ·intro e
  obtain ⟨k,hk,h1 | ⟨j,hj,h1⟩⟩:=zzh h
  ·exact ⟨k,hk,h1⟩
  ·rw [h1, xb hk hj] at e
   have:=ho.nh _ (yi hk) _ (zq hj)
   unfold isHd at this
   simp only [decide_eq_false_iff_not] at this
   exact absurd e this
 ·rintro ⟨k, hk, rfl⟩
  have hl:=kj hk
  rw [zak hk,zix (ho.kd _ (yi hk)) (by omega)]
inductive Lv (os : List Ob) (rs : List Int) : Nat -> Prop
 | root {r : Int} {i : Nat} : r∈rs -> zr os r = some i -> Lv os rs i
 | step {i j : Nat} {z : Int} : Lv os rs i -> z∈(os.getD i default).f -> zr os z = some j -> Lv os rs j
open Classical in
noncomputable def lvB (os : List Ob) (rs : List Int) (i : Nat) : Bool:=decide (Lv os rs i)
noncomputable def lvL (os : List Ob) (rs : List Int) : List Bool:=(List.range os.length).map (lvB os rs)
theorem zdi1 {os : List Ob} {rs : List Int} {i : Nat} : lvB os rs i = true ↔ Lv os rs i:=by unfold lvB;simp
theorem Lv.lt {os : List Ob} {rs : List Int} {i : Nat} (h : Lv os rs i) : i < os.length:=by
 cases h with
 | root _ h=>exact (yc h).1
 | step _ _ h=>exact (yc h).1
theorem qu (os : List Ob) (rs : List Int) : (lvL os rs).length = os.length:=by unfold lvL;simp
theorem zdj1 {os : List Ob} {rs : List Int} {i : Nat} (h : i < os.length) : (lvL os rs).getD i false = lvB os rs i:=by
 unfold lvL;rw [List.getD_eq_getElem?_getD,List.getElem?_map,List.getElem?_range h];rfl
theorem zfv {os : List Ob} {rs : List Int} {i : Nat} : (lvL os rs).getD i false = true ↔ Lv os rs i:=by
 by_cases h : i < os.length
 ·rw [zdj1 h,zdi1]
 ·constructor
  ·intro e
   rw [List.getD_eq_getElem?_getD,List.getElem?_eq_none (by rw [qu];omega)] at e;cases e
  ·intro e;exact absurd e.lt h
theorem zgi1 {os : List Ob} {rs : List Int} {l : List Bool} (hl : l.length = os.length) (hs : ∀ i,l.getD i false = true -> Lv os rs i) (hr : ∀ r∈rs,∀ i,zr os r = some i -> l.getD i false = true)
  (hc : ∀ i,l.getD i false = true -> ∀ z∈(os.getD i default).f,∀ j,zr os z = some j -> l.getD j false = true) : l = lvL os rs:=by
 have key : ∀ i,Lv os rs i -> l.getD i false = true:=fun i h=>by
  induction h with
  | root h1 h2=>exact hr _ h1 _ h2
  | step h1 h2 h3 ih=>exact hc _ ih _ h2 _ h3
 apply List.ext_getElem?
 intro i
 by_cases h : i < os.length
 ·have e : l.getD i false = (lvL os rs).getD i false := by
   cases e1 : l.getD i false
   ·cases e2 : (lvL os rs).getD i false
    ·rfl
    ·have:=key i (zfv.1 e2);rw [e1] at this;cases this
   ·rw [zfv.2 (hs i e1)]
  rw [List.getD_eq_getElem?_getD,List.getD_eq_getElem?_getD,List.getElem?_eq_getElem (by omega),List.getElem?_eq_getElem (by rw [qu];omega)] at e
  rw [List.getElem?_eq_getElem (by omega),List.getElem?_eq_getElem (by rw [qu];omega)]
  simpa using e
 ·rw [List.getElem?_eq_none (by omega),List.getElem?_eq_none (by rw [qu];omega)]
def km : List Ob -> List Bool -> List Ob
 | x :: os,b :: l=>if b then x :: km os l else km os l
 | _,_=>[]
theorem zal : ∀ (a : List Ob) (l : List Bool) (b : List Ob) (m : List Bool),a.length = l.length -> km (a ++ b) (l ++ m) = km a l ++ km b m
 | [],[],b,m,_=>rfl
 | [],_ :: _,_,_,h=>by simp at h
 | _ :: _,[],_,_,h=>by simp at h
 | x :: a,c :: l,b,m,h=>by
  have ih:=zal a l b m (by simpa using h)
  cases c <;> simp [km,ih]
def toM (os : List Ob) (l : List Bool) (i : Nat) : Nat:=zc (km (os.take i) (l.take i))
theorem zes (os : List Ob) (l : List Bool) : toM os l 0 = 0:=by simp [toM,km,zc]
theorem zlc {os : List Ob} {l : List Bool} {i : Nat} (h : i < os.length) (hl : l.length = os.length) : km (os.take (i + 1)) (l.take (i + 1)) = km (os.take i) (l.take i) ++ (if l.getD i false then [os.getD i default] else []):=by
 rw [List.take_succ_eq_append_getElem h,List.take_succ_eq_append_getElem (by omega),zal _ _ _ _ (by rw [List.length_take,List.length_take];omega)]
 congr 1
 rw [List.getD_eq_getElem?_getD,List.getD_eq_getElem?_getD,List.getElem?_eq_getElem h,List.getElem?_eq_getElem (by omega)]
 simp only [Option.getD_some,km]
theorem vu {os : List Ob} {l : List Bool} {i : Nat} (h : i < os.length) (hl : l.length = os.length) : toM os l (i + 1) = toM os l i + (if l.getD i false then 1 + (os.getD i default).f.length else 0):=by
 unfold toM
 rw [zlc h hl,y9]
 split <;> simp [zc]
theorem zph (os : List Ob) (l : List Bool) (hl : l.length = os.length) : km (os.take os.length) (l.take os.length) = km os l:=by
 rw [List.take_length,List.take_of_length_le (by omega)]
theorem zcx {os : List Ob} {l : List Bool} (hl : l.length = os.length) {i : Nat} (h : i <= os.length) : toM os l i <= atO os i:=by
 induction i with
 | zero=>rw [zes];exact Nat.zero_le _
 | succ i ih =>
  rw [vu (by omega) hl,zdu (by omega)]
  have:=ih (by omega)
  split <;> omega
def zo (os : List Ob) (l : List Bool) (z : Int) : Int :=
 match zr os z with
 | some k=>if l.getD k false then zj 2 (toM os l k : Nat) 0 else z
 | none=>z
def zcy (os : List Ob) (l : List Bool) (x : Ob) : Ob:={ x with f:=x.f.map (zo os l) }
def jc (os : List Ob) (l : List Bool) : List Ob:=(km os l).map (zcy os l)
def zvl (os : List Ob) (l : List Bool) (rs : List Int) : List Int:=rs.map (zo os l)
theorem xi {os : List Ob} {l : List Bool} {z : Int} (h : U64 z) : U64 (zo os l z):=by
 unfold zo
 split
 ·split
  ·exact z8 _ _ _
  ·exact h
 ·exact h
theorem zpi {os : List Ob} {g : Ob -> Ob} (h : ∀ x,(g x).f.length = x.f.length) : zc (os.map g) = zc os:=by
 induction os with
 | nil=>rfl
 | cons x l ih=>simp only [List.map_cons,zc,ih,h]
theorem zld (os : List Ob) (l : List Bool) : zc (jc os l) = zc (km os l):=zpi (fun x=>by simp [zcy])
theorem zbg : ∀ {os : List Ob} {l : List Bool} {x : Ob},x∈km os l -> x∈os
 | [],_,_,h=>by simp [km] at h
 | _ :: _,[],_,h=>by simp [km] at h
 | y :: os, b :: l, x, h => by
  cases b
  ·simp only [km] at h;exact List.mem_cons_of_mem _ (zbg h)
  ·simp only [km, if_true] at h
   rcases List.mem_cons.1 h with rfl | h
   ·exact List.mem_cons_self
   ·exact List.mem_cons_of_mem _ (zbg h)
theorem zrq {os : List Ob} {l : List Bool} (hu : zc os <= 1099511627776) (hl : l.length = os.length) {z : Int} (h : isHd z = false) : isHd (zo os l z) = false:=by
 unfold zo
 split
 ·rename_i k hk
  have hk':=yc hk
  split
  ·have h1 := zcx hl (i := k) (by omega)
   have h2:=kj hk'.1
   unfold isHd
   rw [zvk (by omega)];rfl
  ·exact h
 ·exact h
theorem zdk1 {os : List Ob} {l : List Bool} (ho : OsOk os) (hu : zc os <= 1099511627776) (hl : l.length = os.length) : OsOk (jc os l):=by
 unfold jc
 refine ⟨fun x hx=>?_,fun x hx z hz=>?_,fun x hx z hz=>?_⟩ <;> obtain ⟨y,hy,rfl⟩:=List.mem_map.1 hx
 ·exact ho.kd y (zbg hy)
 ·simp only [zcy] at hz
  obtain ⟨z',hz',rfl⟩:=List.mem_map.1 hz
  exact xi (ho.uf y (zbg hy) z' hz')
 ·simp only [zcy] at hz
  obtain ⟨z',hz',rfl⟩:=List.mem_map.1 hz
  exact zrq hu hl (ho.nh y (zbg hy) z' hz')
def cntB (l : List Bool) : Nat:=(l.filter (fun b=>!b)).length
theorem zvm : ∀ {l : List Bool} {i : Nat},i < l.length -> l.getD i false = false -> cntB (l.set i true) + 1 = cntB l
 | [],_,h,_=>by simp at h
 | b :: l,0,_,h=>by
  have : b = false:=h
  subst this
  simp [cntB]
 | b :: l,i + 1,h,h2=>by
  have ih:=zvm (l:=l) (i:=i) (by simpa using h) (by simpa using h2)
  unfold cntB at *
  cases b <;> simp_all
theorem zam {l : List Bool} {i j : Nat} (h : i < l.length) : (l.set i true).getD j false = if i = j then true else l.getD j false:=by
 rw [List.getD_eq_getElem?_getD,List.getD_eq_getElem?_getD,List.getElem?_set]
 split
 ·rename_i e;subst e;simp [h]
 ·rfl
structure Mk (os : List Ob) (rs : List Int) (l : List Bool) (s : List Int) : Prop where
 len : l.length = os.length
 sd : ∀ i,l.getD i false = true -> Lv os rs i
 ss : ∀ z∈s,∀ i,zr os z = some i -> Lv os rs i
 rt : ∀ r∈rs,∀ i,zr os r = some i -> l.getD i false = true \/ r∈s
 cl : ∀ i,l.getD i false = true -> ∀ z∈(os.getD i default).f,∀ j,zr os z = some j -> l.getD j false = true \/ z∈s
section
variable {os : List Ob} {rs : List Int} {l : List Bool} {s s' : List Int} {z : Int} {i : Nat}
theorem Mk.start (os : List Ob) (rs : List Int) : Mk os rs (List.replicate os.length false) rs:=by
 have h0 : ∀ i,(List.replicate os.length false).getD i false = false:=fun i=>by
  rw [List.getD_eq_getElem?_getD,List.getElem?_replicate];split <;> rfl
 exact ⟨by simp,fun i h=>(by rw [h0] at h;cases h),fun z hz i hi=>.root hz hi,fun r hr i _=>.inr hr,fun i h=>(by rw [h0] at h;cases h)⟩
theorem Mk.drop (h : Mk os rs l s) (h1 : ∀ y∈s,y = z \/ y∈s') (h2 : ∀ y∈s',y∈s) (h3 : ∀ i,zr os z = some i -> l.getD i false = true) : Mk os rs l s':=by
 refine ⟨h.len,h.sd,fun y hy=>h.ss y (h2 y hy),fun r hr i hi=>?_,fun i hb y hy j hj=>?_⟩
 ·rcases h.rt r hr i hi with e | e
  ·exact .inl e
  ·rcases h1 r e with e' | e'
   ·subst e';exact .inl (h3 i hi)
   ·exact .inr e'
 ·rcases h.cl i hb y hy j hj with e | e
  ·exact .inl e
  ·rcases h1 y e with e' | e'
   ·subst e';exact .inl (h3 j hj)
   ·exact .inr e'
theorem Mk.mark (h : Mk os rs l s) (hz : z∈s) (hi : zr os z = some i) (h1 : ∀ y∈s,y = z \/ y∈s') (h2 : ∀ y∈s',y∈s \/ y∈(os.getD i default).f)
  (h3 : ∀ y∈(os.getD i default).f,∀ j,zr os y = some j -> (l.set i true).getD j false = true \/ y∈s') : Mk os rs (l.set i true) s':=by
 have hil:=(yc hi).1
 have hlv : Lv os rs i:=h.ss z hz i hi
 have hset : ∀ j,(l.set i true).getD j false = true ↔ j = i \/ l.getD j false = true:=fun j=>by
  rw [zam (by rw [h.len];exact hil)]
  by_cases e : i = j
  ·subst e;simp
  ·rw [if_neg e]
   constructor
   ·exact fun h=>.inr h
   ·rintro (h | h)
    ·exact absurd h.symm e
    ·exact h
 refine ⟨by rw [List.length_set];exact h.len,fun j hj=>?_,fun y hy j hj=>?_,fun r hr j hj=>?_,fun j hb y hy k hk=>?_⟩
 ·rcases (hset j).1 hj with rfl | hj
  ·exact hlv
  ·exact h.sd j hj
 ·rcases h2 y hy with hy | hy
  ·exact h.ss y hy j hj
  ·exact .step hlv hy hj
 ·rcases h.rt r hr j hj with e | e
  ·exact .inl ((hset j).2 (.inr e))
  ·rcases h1 r e with e' | e'
   ·subst e'
    rw [hi] at hj
    cases hj
    exact .inl ((hset i).2 (.inl rfl))
   ·exact .inr e'
 ·rcases (hset j).1 hb with rfl | hb
  ·exact h3 y hy k hk
  ·rcases h.cl j hb y hy k hk with e | e
   ·exact .inl ((hset k).2 (.inr e))
   ·rcases h1 y e with e' | e'
    ·subst e'
     rw [hi] at hk
     cases hk
     exact .inl ((hset i).2 (.inl rfl))
    ·exact .inr e'
theorem Mk.done (h : Mk os rs l s) (hs : ∀ z∈s,∀ i,zr os z = some i -> l.getD i false = true) : l = lvL os rs:=by
 refine zgi1 h.len h.sd (fun r hr i hi=>?_) (fun i hb z hz j hj=>?_)
 ·rcases h.rt r hr i hi with e | e
  ·exact e
  ·exact hs r e i hi
 ·rcases h.cl i hb z hz j hj with e | e
  ·exact e
  ·exact hs z e j hj
end
def cntM (os : List Ob) (l : List Bool) (q : Nat) : Nat:=(km (os.take q) (l.take q)).length
theorem zrr {os : List Ob} {l : List Bool} {q : Nat} (h : q < os.length) (hl : l.length = os.length) (hb : l.getD q false = true) : ∃ rest,km os l = km (os.take q) (l.take q) ++ (os.getD q default :: rest):=by
 have h1 : os = os.take (q + 1) ++ os.drop (q + 1):=(List.take_append_drop _ _).symm
 have h2 : l = l.take (q + 1) ++ l.drop (q + 1):=(List.take_append_drop _ _).symm
 refine ⟨km (os.drop (q + 1)) (l.drop (q + 1)),?_⟩
 conv=>lhs;rw [h1,h2]
 rw [zal _ _ _ _ (by rw [List.length_take,List.length_take];omega),zlc h hl,hb,if_pos rfl,List.append_assoc];rfl
theorem znr {os : List Ob} {l : List Bool} {q : Nat} (h : q < os.length) (hl : l.length = os.length) (hb : l.getD q false = true) :
  cntM os l q < (jc os l).length /\ (jc os l).getD (cntM os l q) default = zcy os l (os.getD q default) /\ atO (jc os l) (cntM os l q) = toM os l q:=by
 obtain ⟨rest,e⟩:=zrr h hl hb
 have ec : jc os l = (km (os.take q) (l.take q)).map (zcy os l) ++ (zcy os l (os.getD q default) :: rest.map (zcy os l)):=by
  unfold jc;rw [e,List.map_append,List.map_cons]
 have hlen : ((km (os.take q) (l.take q)).map (zcy os l)).length = cntM os l q:=by rw [List.length_map];rfl
 refine ⟨?_,?_,?_⟩
 ·rw [ec,List.length_append,hlen,List.length_cons];omega
 ·rw [ec,List.getD_eq_getElem?_getD,List.getElem?_append_right (by omega),hlen,Nat.sub_self];rfl
 ·unfold atO toM
  rw [ec,List.take_append_of_le_length (by omega),List.take_of_length_le (by omega),zpi (fun x=>by simp [zcy])]
theorem xd {l : List Int} {i j : Nat} {z : Int} (h : i < l.length) : (l.set i z).getD j 0 = if i = j then z else l.getD j 0:=by
 rw [List.getD_eq_getElem?_getD,List.getD_eq_getElem?_getD,List.getElem?_set]
 split
 ·rename_i e;subst e;simp [h]
 ·rfl
structure Sld (C O : List Int) (p q : Nat) (ws : List Int) : Prop where
 len : ws.length = O.length
 le : p <= q
 lo : ∀ i,i < p -> ws.getD i 0 = C.getD i 0
 hi : ∀ i,q <= i -> ws.getD i 0 = O.getD i 0
theorem Sld.start (C O : List Int) : Sld C O 0 0 O:=⟨rfl,Nat.le_refl _,fun i hi=>by omega,fun i _=>rfl⟩
theorem Sld.put {C O ws : List Int} {p q : Nat} {z : Int} (h : Sld C O p q ws) (hq : q < O.length) (hz : z = C.getD p 0) : Sld C O (p + 1) (q + 1) (ws.set p z):=by
 have hl:=h.len
 have hle:=h.le
 refine ⟨by rw [List.length_set];exact hl,by omega,fun i hi=>?_,fun i hi=>?_⟩
 ·rw [xd (by omega)]
  split
  ·rename_i e;subst e;exact hz
  ·exact h.lo i (by omega)
 ·rw [xd (by omega), if_neg (by omega)]
  exact h.hi i (by omega)
theorem Sld.skip {C O ws : List Int} {p q r : Nat} (h : Sld C O p q ws) (hr : q <= r) : Sld C O p r ws:=⟨h.len,Nat.le_trans h.le hr,h.lo,fun i hi=>h.hi i (by omega)⟩
theorem Sld.done {C O ws : List Int} {q : Nat} (h : Sld C O C.length q ws) (hC : C.length <= O.length) : ws.take C.length = C:=by
 have hl:=h.len
 apply List.ext_getElem
 ·rw [List.length_take];omega
 ·intro i h1 h2
  have:=h.lo i h2
  rw [List.getD_eq_getElem?_getD,List.getD_eq_getElem?_getD,List.getElem?_eq_getElem (by omega),List.getElem?_eq_getElem h2] at this
  rw [List.getElem_take]
  simpa using this
section
variable {os : List Ob} {l : List Bool}
theorem zvn {i : Nat} (h : i < os.length) (hl : l.length = os.length) (hb : l.getD i false = true) : (zi (jc os l)).getD (toM os l i) 0 = zj 8 ((os.getD i default).f.length : Nat) (os.getD i default).kind:=by
 obtain ⟨h1,h2,h3⟩:=znr h hl hb
 have:=zak h1
 rw [h3,h2] at this
 rw [this]
 simp [zcy]
theorem zrs {i j : Nat} (h : i < os.length) (hl : l.length = os.length) (hb : l.getD i false = true) (hj : j < (os.getD i default).f.length) : (zi (jc os l)).getD (toM os l i + 1 + j) 0 = zo os l ((os.getD i default).f.getD j 0):=by
 obtain ⟨h1,h2,h3⟩:=znr h hl hb
 have:=xb (j:=j) h1 (by rw [h2];simp [zcy];exact hj)
 rw [h3,h2] at this
 rw [this]
 generalize os.getD i default = x at hj ⊢
 simp only [zcy]
 rw [List.getD_eq_getElem?_getD,List.getElem?_map,List.getD_eq_getElem?_getD,List.getElem?_eq_getElem hj]
 rfl
theorem zpj (hl : l.length = os.length) : (zi (jc os l)).length = toM os l os.length:=by
 rw [zh,zld]
 unfold toM
 rw [zph os l hl]
theorem zdl1 (hl : l.length = os.length) : (zi (jc os l)).length <= (zi os).length:=by
 rw [zpj hl,zh,<- zpg]
 exact zcx hl (Nat.le_refl _)
theorem Sld.obj_no {O ws : List Int} {i : Nat} (h : i < os.length) (hl : l.length = os.length) (hb : l.getD i false = false) (hs : Sld (zi (jc os l)) O (toM os l i) (atO os i) ws) : Sld (zi (jc os l)) O (toM os l (i + 1)) (atO os (i + 1)) ws:=by
 have e : toM os l (i + 1) = toM os l i:=by rw [vu h hl,hb];simp
 rw [e]
 exact hs.skip (by rw [zdu h];omega)
theorem Sld.obj_yes {O ws : List Int} {i : Nat} (h : i < os.length) (hl : l.length = os.length) (hb : l.getD i false = true) (hs : Sld (zi (jc os l)) O (toM os l i + 1 + (os.getD i default).f.length) (atO os i + 1 + (os.getD i default).f.length) ws) : Sld (zi (jc os l)) O (toM os l (i + 1)) (atO os (i + 1)) ws:=by
 have e : toM os l (i + 1) = toM os l i + 1 + (os.getD i default).f.length:=by rw [vu h hl,hb];simp;omega
 rw [e,zdu h]
 exact hs
end
def jn (l : List Nat) : ByteArray:=⟨(l.map UInt8.ofNat).toArray⟩
theorem zle {l : List Nat} (h : ∀ x∈l,x < 256) : bs (jn l) = l:=by
 unfold bs jn
 rw [List.toList_toArray,List.map_map]
 conv=>rhs;rw [<- List.map_id l]
 refine List.map_congr_left (fun x hx=>?_)
 show (UInt8.ofNat x).toNat = x
 rw [UInt8.toNat_ofNat']
 exact Nat.mod_eq_of_lt (h x hx)
theorem zdm1 (s : ByteArray) : ∀ x∈bs s,x < 256:=fun x hx=>by
 unfold bs at hx
 obtain ⟨u,_,rfl⟩:=List.mem_map.1 hx
 exact UInt8.toNat_lt u
theorem zvo (s : ByteArray) : jn (bs s) = s:=by
 unfold bs jn
 rw [List.map_map]
 have : (UInt8.ofNat ∘ UInt8.toNat) = id:=by funext u;simp
 rw [this,List.map_id]
def symT (nm : List ByteArray) (x : Int) : ByteArray:=nm.getD (nN x).toNat ByteArray.empty
def symB (nm : List ByteArray) (x : Int) : Bool:=decide (nK x = 5) && (decide (nN x < nm.length) && qi 6 (symT nm x))
def namB (nm : List ByteArray) (x : Int) : Bool:=decide (nK x = 5) && (decide (nN x < nm.length) && qi 15 (symT nm x))
def zcd1 (nm : List ByteArray) (x : Int) : Nd :=
 if nK x = 1 then ⟨3,0,jn (qs (decide (nN x < 0)) (nN x).natAbs),[]⟩
 else if nK x = 3 then (if nN x = 0 then ⟨1,0,ByteArray.empty,[]⟩ else if nN x = 1 \/ nN x = 2 then ⟨2,nN x - 1,ByteArray.empty,[]⟩ else if nN x = 3 then ⟨10,0,ByteArray.empty,[]⟩ else vh)
 else if nK x = 4 then ⟨4,nN x,ByteArray.empty,[]⟩
 else if symB nm x = true then ⟨6,0,symT nm x,[]⟩
 else if nK x = 6 then ⟨12,0,ByteArray.empty,[]⟩ else vh
def recB (os : List Ob) (nm : List ByteArray) (x : Int) : Bool:=match zr os x with
 | some k=>decide ((os.getD k default).kind = 13) && (decide (0 < (os.getD k default).f.length) && namB nm ((os.getD k default).f.getD 0 0))
 | none=>false
def recT (os : List Ob) (nm : List ByteArray) (x : Int) : ByteArray:=match zr os x with
 | some k=>symT nm ((os.getD k default).f.getD 0 0)
 | none=>ByteArray.empty
def zns : ByteArray:=jn [114,101,99,111,114,100,45,116,121,112,101]
def zvp : ByteArray:=jn [116,97,98,108,101]
def zdn1 (f : List Int) : Bool:=decide (f.length = 3) && (decide (nK (f.getD 0 0) = 1) && (decide (0 <= nN (f.getD 0 0)) && decide (nN (f.getD 0 0) <= 2)))
def objD (os : List Ob) (nm : List ByteArray) (kd : Int) (f : List Int) : Nd :=
 if kd = 1 then (if f.length = 2 then ⟨7,0,ByteArray.empty,f⟩ else vh)
 else if kd = 2 then (if f.length <= 1024 then ⟨8,0,ByteArray.empty,f⟩ else vh)
 else if kd = 3 then (if (f.all lrB && decide (f.length <= 1024)) = true then ⟨5,0,jn (lrT f),[]⟩ else vh)
 else if kd = 4 then (if (f.all byB && decide (f.length <= 1024)) = true then ⟨9,0,jn (byT f),[]⟩ else vh)
 else if kd = 5 then (if bigB f = true then ⟨3,0,jn (qs (kt f) (val B32 (jp f))),[]⟩ else vh)
 else if kd = 12 then (if zdn1 f = true then ⟨13,nN (f.getD 0 0),ByteArray.empty,f.drop 1⟩ else vh)
 else if kd = 14 then (if (decide (0 < f.length) && recB os nm (f.getD 0 0)) = true then ⟨15,0,recT os nm (f.getD 0 0),f.drop 1⟩ else vh)
 else if kd = 11 then ⟨14,0,ByteArray.empty,[]⟩
 else if kd = 19 then ⟨17,0,ByteArray.empty,[]⟩
 else if kd = 18 then ⟨16,0,ByteArray.empty,f⟩
 else if kd = 13 then ⟨15,0,zns,[]⟩
 else if kd = 22 then ⟨15,0,zvp,[]⟩
 else if kd = 6 \/ kd = 17 \/ kd = 16 \/ kd = 15 then ⟨12,0,ByteArray.empty,[]⟩
 else vh
def zrt (os : List Ob) (nm : List ByteArray) (x : Int) : Nd:=match zr os x with
 | some k=>objD os nm (os.getD k default).kind (os.getD k default).f
 | none=>zcd1 nm x
theorem zdv {os : List Ob} {x : Int} {k : Nat} (h : zr os x = some k) : nK x = 2:=by
 unfold zr at h
 split at h
 ·assumption
 ·cases h
theorem zcz {os : List Ob} {x : Int} (h : nK x ≠ 2) : zr os x = none:=by
 cases e : zr os x with
 | none=>rfl
 | some k=>exact absurd (zdv e) h
section
variable {os : List Ob} {l : List Bool} {nm : List ByteArray}
theorem zan {x : Int} (h : nK x ≠ 2) : zo os l x = x:=by
 unfold zo;rw [zcz h]
theorem znt (hu : zc os <= 1099511627776) (hl : l.length = os.length) {x : Int} (h : nK x = 2) : nK (zo os l x) = 2:=by
 unfold zo
 split
 ·rename_i k hk
  have hk':=yc hk
  split
  ·have h1 := zcx hl (i := k) (by omega)
   have h2:=kj hk'.1
   unfold nK
   rw [zvk (by omega)]
  ·exact h
 ·exact h
theorem zgj1 (hu : zc os <= 1099511627776) (hl : l.length = os.length) {p : Int -> Bool} (hp : ∀ x,nK x = 2 -> p x = false) (f : List Int) : (f.map (zo os l)).all p = f.all p /\ (f.all p = true -> f.map (zo os l) = f):=by
 have h1 : ∀ x,p (zo os l x) = p x:=fun x=>by
  by_cases e : nK x = 2
  ·rw [hp x e,hp _ (znt hu hl e)]
  ·rw [zan e]
 refine ⟨by rw [List.all_map];congr 1;funext x;exact h1 x,fun h=>?_⟩
 conv=>rhs;rw [<- List.map_id f]
 refine List.map_congr_left (fun x hx=>?_)
 have:=List.all_eq_true.1 h x hx
 exact zan (fun e=>by rw [hp x e] at this;cases this)
theorem znu : nK 0 ≠ 2:=by unfold nK;decide
def Firm (os : List Ob) (l : List Bool) (x : Int) : Prop:=nK x = 2 -> ∃ k,zr os x = some k /\ l.getD k false = true
theorem zru (hu : zc os <= 1099511627776) (hl : l.length = os.length) {x : Int} {k : Nat} (hf : zr os x = some k) (hb : l.getD k false = true) : ∃ j,zr (jc os l) (zo os l x) = some j /\ (jc os l).getD j default = zcy os l (os.getD k default):=by
 have hk:=(yc hf).1
 obtain ⟨c1,c2,c3⟩:=znr hk hl hb
 have e : zo os l x = zj 2 (toM os l k : Nat) 0:=by unfold zo;rw [hf];simp only [hb,if_true]
 refine ⟨cntM os l k,?_,c2⟩
 rw [e,<- c3]
 exact ziw c1 (by
  have:=zld os l
  have h2 : zc (km os l) <= zc os:=by
   have:=zcx hl (Nat.le_refl os.length)
   unfold toM at this
   rw [zph os l hl,zpg] at this
   exact this
  omega)
section
variable {os : List Ob} {nm : List ByteArray} {f : List Int}
theorem zgk1 : objD os nm 1 f = if f.length = 2 then ⟨7,0,ByteArray.empty,f⟩ else vh:=rfl
theorem zgl1 : objD os nm 2 f = if f.length <= 1024 then ⟨8,0,ByteArray.empty,f⟩ else vh:=rfl
theorem zgm1 : objD os nm 3 f = if (f.all lrB && decide (f.length <= 1024)) = true then ⟨5,0,jn (lrT f),[]⟩ else vh:=rfl
theorem zgn1 : objD os nm 4 f = if (f.all byB && decide (f.length <= 1024)) = true then ⟨9,0,jn (byT f),[]⟩ else vh:=rfl
theorem zgo1 : objD os nm 5 f = if bigB f = true then ⟨3,0,jn (qs (kt f) (val B32 (jp f))),[]⟩ else vh:=rfl
theorem zdo1 : objD os nm 12 f = if zdn1 f = true then ⟨13,nN (f.getD 0 0),ByteArray.empty,f.drop 1⟩ else vh:=rfl
theorem zdp1 : objD os nm 14 f = if (decide (0 < f.length) && recB os nm (f.getD 0 0)) = true then ⟨15,0,recT os nm (f.getD 0 0),f.drop 1⟩ else vh:=rfl
theorem zgp1 {kd : Int} (k1 : kd ≠ 1) (k2 : kd ≠ 2) (k3 : kd ≠ 3) (k4 : kd ≠ 4) (k5 : kd ≠ 5) (k12 : kd ≠ 12) (k14 : kd ≠ 14) : objD os nm kd f =
  if kd = 11 then ⟨14,0,ByteArray.empty,[]⟩ else if kd = 19 then ⟨17,0,ByteArray.empty,[]⟩ else if kd = 18 then ⟨16,0,ByteArray.empty,f⟩ else if kd = 13 then ⟨15,0,zns,[]⟩ else if kd = 22 then ⟨15,0,zvp,[]⟩
  else if kd = 6 \/ kd = 17 \/ kd = 16 \/ kd = 15 then ⟨12,0,ByteArray.empty,[]⟩ else vh:=by
 unfold objD
 rw [if_neg k1,if_neg k2,if_neg k3,if_neg k4,if_neg k5,if_neg k12,if_neg k14]
end
end
end Go.Proofs.YticimejfjjmikaaGreatDoor
