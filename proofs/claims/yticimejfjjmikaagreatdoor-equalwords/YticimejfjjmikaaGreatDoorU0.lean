import Derived.Test.YticimejfjjmikaaGreatDoorV4
import Derived.Test.YticimejfjjmikaaGreatDoorQ1
import Derived.Test.YticimejfjjmikaaGreatDoorSG1
import Derived.Deep.AppendLies
set_option linter.unusedVariables false
set_option linter.unusedSimpArgs false
set_option maxRecDepth 100000
namespace Go.Proofs.YticimejfjjmikaaGreatDoor
open Go.RowKit
set_option maxHeartbeats 4000000 in
theorem rnew_any (n : Int) (hn : Z64 n) (w : World) :
  Calls Tryz.prog 30 #[.int .i64 n] w fun e w'=>if n < 1 \/ 4194304 < n then e = .returned (.tuple #[.pointer none,.int .i64 1]) /\ w' = w else ∃ g,e = .returned (.tuple #[.pointer (some ⟨g,0,none⟩),.int .i64 0]) /\ w.heap.size <= g /\ RH w.heap.size g n (.slice none 0 0) [] w' /\ Below w.heap.size w w':=by
 unfold Z64 at hn
 by_cases hb : n < 1 \/ 4194304 < n
 ·simp only [if_pos hb]
  go_enter Tryz.func30,Tryz.ntmps30
  go_wp2
  all_goals first
   | omega
   | (go_ret2;exact ⟨rfl,rfl⟩)
 ·simp only [if_neg hb]
  have HE : Hid (RH w.heap.size w.heap.size n (.slice none 0 0) [] (w.alloc (.cells #[.int .i64 n,.slice none 0 0] 101))) :=
   ⟨blk_new _ _ _,World.ownsRow_nil _ _ _ _,fun x hx=>(by cases hx),List.Pairwise.nil,fun x hx=>(by cases hx),(by intro e;cases e),Nat.le_refl _,fun x hx=>(by cases hx),fun x hx=>(by cases hx),⟨by simp [usedL];omega,by omega⟩⟩
  go_enter Tryz.func30,Tryz.ntmps30
  go_wp2
  all_goals first
   | omega
   | (go_ret2;exact ⟨_,rfl,Nat.le_refl _,HE.out,Ba _ _⟩)
theorem appU {P : Program} {w : World} {ops : Array Oper} {rest : List Oper} {o : Oper} {a : Act} {Q : Exit -> Act -> World -> Prop} (hgd : o.guard = none) (s x : Operand) (t : TypeId) (ho : o.op = .call { callee:=.builtin .append,args:=#[s,x],argTypes:=#[t,t] })
  (base : Nat) (e : TypeId) (ht : P.underlying t = some (.slice e)) (hi : (P.info? e).map (fun i=>(i.zero,i.size,i.bytes)) = some (some (.int .u64 0),1,8))
  (v : Value) (n : Nat) (l : List Int) (hs : a.eval s = v) (hown : w.ownsRow base e 1 v n (uz l))
  (ao : Option Addr) (m c : Nat) (r : List Int) (hx : a.eval x = .slice ao m c) (hr : URow w ao m c r) (hsm : n + m <= 1099511627776) (hbase : base <= w.heap.size)
  (h : ∀ v' w',w'.ownsRow base e 1 v' (n + m) (uz (l ++ r)) -> w.grownBy w' v.ownBlock -> wpList P ops Q rest (a.put o.dst v') w') : wpList P ops Q (o :: rest) a w :=
 wpList_plain hgd fun K hK=>by
  have:=stepU (P:=P) (w:=w) (ops:=ops) (o:=o) (a:=a) (K:=K) (Q:=Q) (E:=False) o.dst rfl hgd s x t ho base e ht hi v n l hs hown ao m c r hx hr hsm hbase (fun v' w' h1 h2=>hK _ _ (h v' w' h1 h2))
  have hw : Region.wanted o (yielded ops a.tmps) = true:=by simp [Region.wanted,hgd]
  rw [if_pos hw] at this
  exact this
theorem urow_one {w : World} {g : Nat} {z : Int} {t : TypeId} (h : w.heap[g]? = some (.cells #[.int .u64 z] t (0,0))) (hz : U64 z) : URow w (some ⟨g,0,none⟩) 1 1 [z] :=
 ⟨rfl,Nat.le_refl _,by unfold maxLen;omega,fun e=>(by cases e),fun y hy=>by simp at hy;rw [hy];exact hz,.inr ⟨g,0,rfl,(Array.getElem?_eq_some_iff.1 h).1,fun i hi=>by
  have : i = 0:=by simpa using hi
  subst this
  exact blk_cell h 0⟩⟩
theorem urow_own {w : World} {B : Nat} {e : TypeId} {v : Value} {l : List Int} (h : w.ownsRow B e 1 v l.length (uz l)) (hb : ∀ z∈l,U64 z) : ∃ ao cap,v = .slice ao l.length cap /\ URow w ao l.length cap l:=by
 rcases h.2 with ⟨rfl,h0⟩ | ⟨g,cap,cur,rfl,h2,h3,h4,h5,h6,h7⟩
 ·have : l = [] := List.length_eq_zero_iff.1 h0
  subst this
  exact ⟨none,0,rfl,rfl,Nat.le_refl _,by unfold maxLen;omega,fun _=>rfl,hb,.inl rfl⟩
 ·refine ⟨some ⟨g, 0, none⟩, cap, rfl, rfl, h4, h5, fun e => (by cases e), hb, .inr ⟨g, 0, rfl, (Array.getElem?_eq_some_iff.1 h3).1, fun i hi => ?_⟩⟩
  rw [Nat.zero_add,blk_cell h3]
  have : cur[i]? = (uz l)[i]?:=by rw [<- h7,List.getElem?_take,if_pos (by omega)];simp
  rw [this,uz_get hi]
def wordsL : List Ob -> List Int
 | []=>[]
 | x :: l=>wordR 8 (x.f.length : Nat) x.kind :: (x.f ++ wordsL l)
theorem wordsL_append (a b : List Ob) : wordsL (a ++ b) = wordsL a ++ wordsL b:=by
 induction a with
 | nil=>rfl
 | cons x l ih=>simp only [List.cons_append,wordsL,ih,List.append_assoc]
theorem wordsL_length (a : List Ob) : (wordsL a).length = usedL a:=by
 induction a with
 | nil=>rfl
 | cons x l ih=>simp only [wordsL,usedL,List.length_cons,List.length_append,ih];omega
structure OsOk (os : List Ob) : Prop where
 kd : ∀ x∈os,1 <= x.kind /\ x.kind <= 22
 uf : ∀ x∈os,∀ z∈x.f,U64 z
 nh : ∀ x∈os,∀ z∈x.f,isHd z = false
def kindM (os : List Ob) (p : Int) : Int × Int:=match findM os p with | none=>(0,70) | some n=>((os.getD n default).kind,0)
def sizeM (os : List Ob) (p : Int) : Int × Int:=match findM os p with | none=>(0,70) | some n=>((os.getD n default).f.length,0)
def ptrsL (os : List Ob) : List Int:=(List.range os.length).map (fun i=>wordR 2 (atO os i : Nat) 0)
def sh (x : Ob) : Int × Nat:=(x.kind,x.f.length)
theorem sh_used : ∀ {a b : List Ob},a.map sh = b.map sh -> usedL a = usedL b
 | [],[],_=>rfl
 | [],_ :: _,h=>by cases h
 | _ :: _,[],h=>by cases h
 | x :: a,y :: b,h=>by
  simp only [List.map_cons,List.cons.injEq] at h
  have h1 : x.f.length = y.f.length:=congrArg Prod.snd h.1
  simp only [usedL,sh_used h.2,h1]
theorem sh_len {a b : List Ob} (h : a.map sh = b.map sh) : a.length = b.length:=by
 have:=congrArg List.length h;simpa using this
theorem sh_at {a b : List Ob} (h : a.map sh = b.map sh) (i : Nat) : atO a i = atO b i:=by
 unfold atO;exact sh_used (by rw [List.map_take,List.map_take,h])
theorem sh_fnd {a b : List Ob} (h : a.map sh = b.map sh) (n : Int) (i : Nat) : fnd a n i = fnd b n i:=by
 induction hk : a.length - i generalizing i with
 | zero =>
  have:=sh_len h
  have e1 : fnd a n i = none:=by rw [fnd,if_neg (by omega)]
  have e2 : fnd b n i = none:=by rw [fnd,if_neg (by omega)]
  rw [e1,e2]
 | succ k ih =>
  have:=sh_len h
  have e1 : fnd a n i = if (atO a i : Int) = n then some i else fnd a n (i + 1):=by rw [fnd,if_pos (by omega)]
  have e2 : fnd b n i = if (atO b i : Int) = n then some i else fnd b n (i + 1):=by rw [fnd,if_pos (by omega)]
  rw [e1,e2,sh_at h,ih (i + 1) (by omega)]
theorem sh_find {a b : List Ob} (h : a.map sh = b.map sh) (p : Int) : findM a p = findM b p:=by
 unfold findM;rw [sh_fnd h]
theorem place_word {p : Int} (hp : U64 p) (h : (ofR p).1 = 2) : p = (ofR p).2.1 * 8 + 1:=by
 unfold ofR at h ⊢
 split at h
 ·rename_i hr
  rw [if_pos hr]
  unfold U64 at hp
  unfold ofRaw at h ⊢
  split at h
  ·exact absurd h (by simp)
  rename_i h0
  split at h
  ·rename_i h1
   rw [if_neg h0,if_pos h1]
   show p = p / 8 * 8 + 1
   omega
  ·rename_i h1
   split at h
   ·split at h
    ·exact absurd h (by simp)
    split at h
    ·have h' : p / 8 % 32 - 2 = 2 := h
     omega
    ·exact absurd h (by simp)
   split at h
   ·exact absurd h (by simp)
   ·exact absurd h (by simp)
 ·exact absurd h (by simp)
theorem find_same {os : List Ob} {p q : Int} {n : Nat} (hp : U64 p) (hq : U64 q) (h1 : findM os p = some n) (h2 : findM os q = some n) : p = q:=by
 have e1:=findM_lt h1
 have e2:=findM_lt h2
 unfold findM at h1 h2
 split at h1
 ·rename_i k1
  split at h2
  ·rename_i k2
   have a1:=place_word hp k1
   have a2:=place_word hq k2
   omega
  ·cases h2
 ·cases h1
theorem words_split {os : List Ob} {k : Nat} (h : k < os.length) : wordsL os = wordsL (os.take k) ++ (wordR 8 ((os.getD k default).f.length : Nat) (os.getD k default).kind :: ((os.getD k default).f ++ wordsL (os.drop (k + 1)))):=by
 have h1 : os = os.take k ++ (os.getD k default :: os.drop (k + 1)):=by
  conv=>lhs;rw [<- List.take_append_drop k os,List.drop_eq_getElem_cons h]
  rw [List.getD_eq_getElem?_getD,List.getElem?_eq_getElem h];rfl
 conv=>lhs;rw [h1,wordsL_append]
 rfl
theorem at_len (os : List Ob) (k : Nat) : (wordsL (os.take k)).length = atO os k:=by rw [wordsL_length];rfl
theorem word_head {os : List Ob} {k : Nat} (h : k < os.length) : (wordsL os).getD (atO os k) 0 = wordR 8 ((os.getD k default).f.length : Nat) (os.getD k default).kind:=by
 rw [words_split h,List.getD_eq_getElem?_getD,List.getElem?_append_right (by rw [at_len];exact Nat.le_refl _),at_len,Nat.sub_self];rfl
theorem word_field {os : List Ob} {k j : Nat} (h : k < os.length) (hj : j < (os.getD k default).f.length) : (wordsL os).getD (atO os k + 1 + j) 0 = (os.getD k default).f.getD j 0:=by
 rw [words_split h,List.getD_eq_getElem?_getD,List.getElem?_append_right (by rw [at_len];omega),at_len,show atO os k + 1 + j - atO os k = j + 1 by omega,List.getElem?_cons_succ,List.getElem?_append_left hj,<- List.getD_eq_getElem?_getD]
theorem at_succ {os : List Ob} {k : Nat} (h : k < os.length) : atO os (k + 1) = atO os k + 1 + (os.getD k default).f.length:=by
 unfold atO
 rw [List.take_succ_eq_append_getElem h,usedL_append,List.getD_eq_getElem?_getD,List.getElem?_eq_getElem h]
 simp only [usedL,Option.getD_some];omega
theorem at_all (os : List Ob) : atO os os.length = usedL os:=by unfold atO;rw [List.take_length]
theorem at_mono {os : List Ob} {j k : Nat} (h : j <= k) (hk : k <= os.length) : atO os j + (k - j) <= atO os k:=by
 induction k with
 | zero => obtain rfl : j = 0 := by omega
           simp
 | succ k ih =>
  by_cases e : j = k + 1
  ·subst e;simp
  ·have := ih (by omega) (by omega)
   rw [at_succ (by omega)];omega
theorem at_inj {os : List Ob} {j k : Nat} (hj : j < os.length) (hk : k < os.length) (h : atO os j = atO os k) : j = k:=by
 rcases Nat.lt_trichotomy j k with h1 | h1 | h1
 ·have:=at_mono (os:=os) (Nat.le_of_lt h1) (Nat.le_of_lt hk);omega
 ·exact h1
 ·have:=at_mono (os:=os) (Nat.le_of_lt h1) (Nat.le_of_lt hj);omega
theorem at_lt {os : List Ob} {k : Nat} (h : k < os.length) : atO os k + 1 + (os.getD k default).f.length <= usedL os:=by
 rw [<- at_succ h,<- at_all]
 have:=at_mono (os:=os) (j:=k + 1) (k:=os.length) h (Nat.le_refl _)
 omega
theorem place_of {os : List Ob} {i : Nat} (h : i < usedL os) : ∃ k,k < os.length /\ (i = atO os k \/ ∃ j,j < (os.getD k default).f.length /\ i = atO os k + 1 + j):=by
 have key : ∀ n,n <= os.length -> i < atO os n -> ∃ k,k < n /\ atO os k <= i /\ i < atO os (k + 1):=fun n=>by
  induction n with
  | zero=>intro _ h;simp [atO,usedL] at h
  | succ n ih =>
   intro hn hi
   by_cases e : i < atO os n
   ·obtain ⟨k,a,b⟩:=ih (by omega) e;exact ⟨k,by omega,b⟩
   ·exact ⟨n,by omega,by omega,hi⟩
 obtain ⟨k,h1,h2,h3⟩:=key os.length (Nat.le_refl _) (by rw [at_all];exact h)
 rw [at_succ h1] at h3
 refine ⟨k,h1,?_⟩
 by_cases e : i = atO os k
 ·exact .inl e
 ·exact .inr ⟨i - atO os k - 1,by omega,by omega⟩
theorem fnd_at {os : List Ob} {k : Nat} (h : k < os.length) {i : Nat} (hi : i <= k) : fnd os (atO os k : Nat) i = some k:=by
 induction hk : k - i generalizing i with
 | zero =>
  obtain rfl : i = k:=by omega
  rw [fnd,if_pos h,if_pos rfl]
 | succ n ih =>
  rw [fnd,if_pos (by omega),if_neg (fun e=>by have:=at_inj (os:=os) (j:=i) (k:=k) (by omega) h (by omega);omega),ih (by omega) (by omega)]
theorem ptr_of {n : Nat} (h : n <= 1099511627776) : ofR (wordR 2 (n : Int) 0) = (2,(n : Int),0):=by
 have:=word_back (k:=2) (n:=n) (t:=0) (by unfold rightB;simp;omega)
 simpa using this
theorem find_ptr {os : List Ob} {k : Nat} (h : k < os.length) (hu : usedL os <= 1099511627776) : findM os (wordR 2 (atO os k : Nat) 0) = some k:=by
 have hl:=at_lt h
 unfold findM
 rw [ptr_of (by omega)]
 simp only [if_true]
 exact fnd_at h (Nat.zero_le _)
theorem head_of {x : Ob} (hk : 1 <= x.kind /\ x.kind <= 22) (hl : x.f.length <= 1099511627776) : ofR (wordR 8 (x.f.length : Nat) x.kind) = (8,((x.f.length : Nat) : Int),x.kind):=by
 have:=word_back (k:=8) (n:=(x.f.length : Nat)) (t:=x.kind) (by unfold rightB;simp;omega)
 simpa using this
theorem getD_in_os {l : List Ob} {i : Nat} (h : i < l.length) : l.getD i default∈l:=by
 rw [List.getD_eq_getElem?_getD,List.getElem?_eq_getElem h];exact List.getElem_mem h
theorem getD_in_f {l : List Int} {i : Nat} (h : i < l.length) : l.getD i 0∈l:=by
 rw [List.getD_eq_getElem?_getD,List.getElem?_eq_getElem h];exact List.getElem_mem h
theorem head_iff {os : List Ob} (ho : OsOk os) (hu : usedL os <= 1099511627776) {i : Nat} (h : i < usedL os) : (ofR ((wordsL os).getD i 0)).1 = 8 ↔ ∃ k,k < os.length /\ i = atO os k:=by
 constructor
 ·intro e
  obtain ⟨k,hk,h1 | ⟨j,hj,h1⟩⟩:=place_of h
  ·exact ⟨k,hk,h1⟩
  ·rw [h1, word_field hk hj] at e
   have:=ho.nh _ (getD_in_os hk) _ (getD_in_f hj)
   unfold isHd at this
   simp only [decide_eq_false_iff_not] at this
   exact absurd e this
 ·rintro ⟨k, hk, rfl⟩
  have hl:=at_lt hk
  rw [word_head hk,head_of (ho.kd _ (getD_in_os hk)) (by omega)]
def cntB (l : List Bool) : Nat:=(l.filter (fun b=>!b)).length
def textOf (l : List Nat) : ByteArray:=⟨(l.map UInt8.ofNat).toArray⟩
theorem bs_textOf {l : List Nat} (h : ∀ x∈l,x < 256) : bs (textOf l) = l:=by
 unfold bs textOf
 rw [List.toList_toArray,List.map_map]
 conv=>rhs;rw [<- List.map_id l]
 refine List.map_congr_left (fun x hx=>?_)
 show (UInt8.ofNat x).toNat = x
 rw [UInt8.toNat_ofNat']
 exact Nat.mod_eq_of_lt (h x hx)
theorem bs_byte (s : ByteArray) : ∀ x∈bs s,x < 256:=fun x hx=>by
 unfold bs at hx
 obtain ⟨u,_,rfl⟩:=List.mem_map.1 hx
 exact UInt8.toNat_lt u
theorem textOf_bs (s : ByteArray) : textOf (bs s) = s:=by
 unfold bs textOf
 rw [List.map_map]
 have : (UInt8.ofNat ∘ UInt8.toNat) = id:=by funext u;simp
 rw [this,List.map_id]
def symT (nm : List ByteArray) (x : Int) : ByteArray:=nm.getD (nN x).toNat ByteArray.empty
def symB (nm : List ByteArray) (x : Int) : Bool:=decide (nK x = 5) && (decide (nN x < nm.length) && textB 6 (symT nm x))
def namB (nm : List ByteArray) (x : Int) : Bool:=decide (nK x = 5) && (decide (nN x < nm.length) && textB 15 (symT nm x))
def plainD (nm : List ByteArray) (x : Int) : Nd :=
 if nK x = 1 then ⟨3,0,textOf (printL (decide (nN x < 0)) (nN x).natAbs),[]⟩
 else if nK x = 3 then (if nN x = 0 then ⟨1,0,ByteArray.empty,[]⟩ else if nN x = 1 \/ nN x = 2 then ⟨2,nN x - 1,ByteArray.empty,[]⟩ else if nN x = 3 then ⟨10,0,ByteArray.empty,[]⟩ else voidN)
 else if nK x = 4 then ⟨4,nN x,ByteArray.empty,[]⟩
 else if symB nm x = true then ⟨6,0,symT nm x,[]⟩
 else if nK x = 6 then ⟨12,0,ByteArray.empty,[]⟩ else voidN
def recB (os : List Ob) (nm : List ByteArray) (x : Int) : Bool:=match findM os x with
 | some k=>decide ((os.getD k default).kind = 13) && (decide (0 < (os.getD k default).f.length) && namB nm ((os.getD k default).f.getD 0 0))
 | none=>false
def recT (os : List Ob) (nm : List ByteArray) (x : Int) : ByteArray:=match findM os x with
 | some k=>symT nm ((os.getD k default).f.getD 0 0)
 | none=>ByteArray.empty
def recordT : ByteArray:=textOf [114,101,99,111,114,100,45,116,121,112,101]
def tableT : ByteArray:=textOf [116,97,98,108,101]
def condB (f : List Int) : Bool:=decide (f.length = 3) && (decide (nK (f.getD 0 0) = 1) && (decide (0 <= nN (f.getD 0 0)) && decide (nN (f.getD 0 0) <= 2)))
def objD (os : List Ob) (nm : List ByteArray) (kd : Int) (f : List Int) : Nd :=
 if kd = 1 then (if f.length = 2 then ⟨7,0,ByteArray.empty,f⟩ else voidN)
 else if kd = 2 then (if f.length <= 1024 then ⟨8,0,ByteArray.empty,f⟩ else voidN)
 else if kd = 3 then (if (f.all lrB && decide (f.length <= 1024)) = true then ⟨5,0,textOf (lrT f),[]⟩ else voidN)
 else if kd = 4 then (if (f.all byB && decide (f.length <= 1024)) = true then ⟨9,0,textOf (byT f),[]⟩ else voidN)
 else if kd = 5 then (if bigB f = true then ⟨3,0,textOf (printL (numNeg f) (val B32 (numMag f))),[]⟩ else voidN)
 else if kd = 12 then (if condB f = true then ⟨13,nN (f.getD 0 0),ByteArray.empty,f.drop 1⟩ else voidN)
 else if kd = 14 then (if (decide (0 < f.length) && recB os nm (f.getD 0 0)) = true then ⟨15,0,recT os nm (f.getD 0 0),f.drop 1⟩ else voidN)
 else if kd = 11 then ⟨14,0,ByteArray.empty,[]⟩
 else if kd = 19 then ⟨17,0,ByteArray.empty,[]⟩
 else if kd = 18 then ⟨16,0,ByteArray.empty,f⟩
 else if kd = 13 then ⟨15,0,recordT,[]⟩
 else if kd = 22 then ⟨15,0,tableT,[]⟩
 else if kd = 6 \/ kd = 17 \/ kd = 16 \/ kd = 15 then ⟨12,0,ByteArray.empty,[]⟩
 else voidN
def wordD (os : List Ob) (nm : List ByteArray) (x : Int) : Nd:=match findM os x with
 | some k=>objD os nm (os.getD k default).kind (os.getD k default).f
 | none=>plainD nm x
theorem find_place {os : List Ob} {x : Int} {k : Nat} (h : findM os x = some k) : nK x = 2:=by
 unfold findM at h
 split at h
 ·assumption
 ·cases h
theorem find_not {os : List Ob} {x : Int} (h : nK x ≠ 2) : findM os x = none:=by
 cases e : findM os x with
 | none=>rfl
 | some k=>exact absurd (find_place e) h
section
variable {os : List Ob} {l : List Bool} {nm : List ByteArray}
theorem nK_zero : nK 0 ≠ 2:=by unfold nK;decide
section
variable {os : List Ob} {nm : List ByteArray} {f : List Int}
theorem objD_1 : objD os nm 1 f = if f.length = 2 then ⟨7,0,ByteArray.empty,f⟩ else voidN:=rfl
theorem objD_2 : objD os nm 2 f = if f.length <= 1024 then ⟨8,0,ByteArray.empty,f⟩ else voidN:=rfl
theorem objD_3 : objD os nm 3 f = if (f.all lrB && decide (f.length <= 1024)) = true then ⟨5,0,textOf (lrT f),[]⟩ else voidN:=rfl
theorem objD_4 : objD os nm 4 f = if (f.all byB && decide (f.length <= 1024)) = true then ⟨9,0,textOf (byT f),[]⟩ else voidN:=rfl
theorem objD_5 : objD os nm 5 f = if bigB f = true then ⟨3,0,textOf (printL (numNeg f) (val B32 (numMag f))),[]⟩ else voidN:=rfl
theorem objD_12 : objD os nm 12 f = if condB f = true then ⟨13,nN (f.getD 0 0),ByteArray.empty,f.drop 1⟩ else voidN:=rfl
theorem objD_14 : objD os nm 14 f = if (decide (0 < f.length) && recB os nm (f.getD 0 0)) = true then ⟨15,0,recT os nm (f.getD 0 0),f.drop 1⟩ else voidN:=rfl
theorem objD_o {kd : Int} (k1 : kd ≠ 1) (k2 : kd ≠ 2) (k3 : kd ≠ 3) (k4 : kd ≠ 4) (k5 : kd ≠ 5) (k12 : kd ≠ 12) (k14 : kd ≠ 14) : objD os nm kd f =
  if kd = 11 then ⟨14,0,ByteArray.empty,[]⟩ else if kd = 19 then ⟨17,0,ByteArray.empty,[]⟩ else if kd = 18 then ⟨16,0,ByteArray.empty,f⟩ else if kd = 13 then ⟨15,0,recordT,[]⟩ else if kd = 22 then ⟨15,0,tableT,[]⟩
  else if kd = 6 \/ kd = 17 \/ kd = 16 \/ kd = 15 then ⟨12,0,ByteArray.empty,[]⟩ else voidN:=by
 unfold objD
 rw [if_neg k1,if_neg k2,if_neg k3,if_neg k4,if_neg k5,if_neg k12,if_neg k14]
end
end
def hpO (os : List Ob) : Hp:=fun x=>(findM os x).map (fun k=>((os.getD k default).kind,(os.getD k default).f))
theorem hp_some {os : List Ob} {x : Int} {k : Nat} (h : findM os x = some k) : hpO os x = some ((os.getD k default).kind,(os.getD k default).f):=by unfold hpO;rw [h];rfl
theorem hp_none {os : List Ob} {x : Int} (h : findM os x = none) : hpO os x = none:=by unfold hpO;rw [h];rfl
theorem hp_inv {os : List Ob} {x kd : Int} {f : List Int} (h : hpO os x = some (kd,f)) : ∃ k,findM os x = some k /\ (os.getD k default).kind = kd /\ (os.getD k default).f = f:=by
 unfold hpO at h
 cases e : findM os x with
 | none=>rw [e] at h;cases h
 | some k =>
  rw [e] at h
  injection h with h
  injection h with h1 h2
  exact ⟨k,rfl,h1,h2⟩
section
variable {os : List Ob}
def bigEq (os : List Ob) (i k : Nat) : Bool:=decide ((os.getD i default).kind = 5) && (decide ((os.getD k default).kind = 5) && (decide ((os.getD i default).f = (os.getD k default).f) && bigB (os.getD i default).f))
def sameIB (os : List Ob) (x y : Int) : Bool:=match findM os x,findM os y with | some i,some k=>bigEq os i k | _,_=>false
def eqvB (os : List Ob) (x y : Int) : Bool:=decide (x = y) || sameIB os x y
def candB (os : List Ob) (i k : Nat) : Bool:=decide ((os.getD i default).kind = (os.getD k default).kind) && (decide (1 <= (os.getD i default).kind /\ (os.getD i default).kind <= 4) && decide ((os.getD i default).f.length = (os.getD k default).f.length))
def matchB (os : List Ob) (x y : Int) : Bool:=match findM os x,findM os y with | some i,some k=>candB os i k | _,_=>false
theorem eqvB_iff (x y : Int) : eqvB os x y = true ↔ Eqv (hpO os) x y:=by
 unfold eqvB sameIB Eqv
 rw [Bool.or_eq_true,decide_eq_true_eq]
 refine or_congr Iff.rfl ?_
 constructor
 ·intro h
  cases e1 : findM os x with
  | none=>rw [e1] at h;simp at h
  | some i =>
   cases e2 : findM os y with
   | none=>rw [e1,e2] at h;simp at h
   | some k =>
    rw [e1,e2] at h
    simp only [bigEq,Bool.and_eq_true,decide_eq_true_eq] at h
    obtain ⟨h1,h2,h3,h4⟩:=h
    exact ⟨_,by rw [hp_some e1,h1],by rw [hp_some e2,h2,h3],h4⟩
 ·rintro ⟨f, h1, h2, h3⟩
  obtain ⟨i,a1,a2,a3⟩:=hp_inv h1
  obtain ⟨k,b1,b2,b3⟩:=hp_inv h2
  rw [a1,b1]
  simp only [bigEq,Bool.and_eq_true,decide_eq_true_eq]
  exact ⟨a2,b2,a3.trans b3.symm,by rw [a3];exact h3⟩
theorem matchB_some {x y : Int} (h : matchB os x y = true) : ∃ i k,findM os x = some i /\ findM os y = some k /\ candB os i k = true:=by
 unfold matchB at h
 cases e1 : findM os x with
 | none=>rw [e1] at h;simp at h
 | some i =>
  cases e2 : findM os y with
  | none=>rw [e1,e2] at h;simp at h
  | some k=>rw [e1,e2] at h;exact ⟨i,k,rfl,rfl,h⟩
theorem cand_parts {i k : Nat} (h : candB os i k = true) : (os.getD i default).kind = (os.getD k default).kind /\ (1 <= (os.getD i default).kind /\ (os.getD i default).kind <= 4) /\ (os.getD i default).f.length = (os.getD k default).f.length:=by
 unfold candB at h
 simpa [Bool.and_eq_true] using h
def prI (os : List Ob) (i k : Nat) : Nat:=i * os.length + k
def prB (os : List Ob) (x y : Int) : Nat:=match findM os x,findM os y with | some i,some k=>prI os i k | _,_=>0
def toldB (os : List Ob) (A : List Bool) (x y : Int) : Bool:=!eqvB os x y && (!matchB os x y || A.getD (prB os x y) false)
def Snd (os : List Ob) (A : List Bool) : Prop:=∀ x y i k,findM os x = some i -> findM os y = some k -> A.getD (prI os i k) false = true -> ¬ Alike (hpO os) x y
theorem Snd.told {A : List Bool} (h : Snd os A) {x y : Int} (ht : toldB os A x y = true) : ¬ Alike (hpO os) x y:=by
 unfold toldB at ht
 simp only [Bool.and_eq_true,Bool.or_eq_true,Bool.not_eq_true'] at ht
 obtain ⟨h1,h2⟩:=ht
 have hne : ¬ Eqv (hpO os) x y:=fun e=>by rw [(eqvB_iff x y).2 e] at h1;cases h1
 intro ha
 rcases alike_bis x y ha with e | ⟨kd,f,g,e1,e2,e3,e4,e5⟩
 ·exact hne e
 obtain ⟨i,a1,a2,a3⟩:=hp_inv e1
 obtain ⟨k,b1,b2,b3⟩:=hp_inv e2
 rcases h2 with h2 | h2
 ·have : matchB os x y = true := by
   unfold matchB candB
   rw [a1,b1]
   simp only [Bool.and_eq_true,decide_eq_true_eq]
   refine ⟨a2.trans b2.symm,by rw [a2];exact e3,by rw [a3,b3];exact e4⟩
  rw [this] at h2;cases h2
 ·unfold prB at h2
  rw [a1,b1] at h2
  exact h x y i k a1 b1 h2 ha
def Stl (os : List Ob) (A : List Bool) (i k : Nat) : Prop:=A.getD (prI os i k) false = true \/ candB os i k = false \/ ∀ j,j < (os.getD i default).f.length -> toldB os A ((os.getD i default).f.getD j 0) ((os.getD k default).f.getD j 0) = false
theorem settled_alike {A : List Bool} (hs : Snd os A) (h : ∀ i k,i < os.length -> k < os.length -> Stl os A i k) (hf : ∀ x k,findM os x = some k -> k < os.length) (a b : Int) : (!toldB os A a b) = true ↔ Alike (hpO os) a b:=by
 constructor
 ·intro e
  refine ⟨fun x y=>toldB os A x y = false,fun x y hxy=>?_,by simpa using e⟩
  by_cases he : Eqv (hpO os) x y
  ·exact .inl he
  right
  have h1 : eqvB os x y = false:=by
   cases e1 : eqvB os x y
   ·rfl
   ·exact absurd ((eqvB_iff x y).1 e1) he
  have hxy : toldB os A x y = false:=hxy
  unfold toldB at hxy
  rw [h1] at hxy
  simp only [Bool.not_false,Bool.true_and,Bool.or_eq_false_iff,Bool.not_eq_false'] at hxy
  obtain ⟨h2,h3⟩:=hxy
  obtain ⟨i,k,e1,e2,e3⟩:=matchB_some h2
  obtain ⟨c1,c2,c3⟩:=cand_parts e3
  unfold prB at h3
  rw [e1,e2] at h3
  refine ⟨(os.getD i default).kind,(os.getD i default).f,(os.getD k default).f,hp_some e1,by rw [hp_some e2,c1],c2,c3,?_⟩
  rcases h i k (hf x i e1) (hf y k e2) with d | d | d
  ·exact absurd d (by rw [h3];decide)
  ·rw [e3] at d;cases d
  ·exact d
 ·intro ha
  cases e : toldB os A a b
  ·rfl
  ·exact absurd ha (hs.told e)
theorem Snd.set {A : List Bool} (h : Snd os A) {i k j : Nat} (hk : k < os.length) (hb : ∀ x k,findM os x = some k -> k < os.length) (hc : candB os i k = true) (hj : j < (os.getD i default).f.length) (ht : toldB os A ((os.getD i default).f.getD j 0) ((os.getD k default).f.getD j 0) = true) : Snd os (A.set (prI os i k) true):=by
 intro x y i' k' e1 e2 e3 ha
 by_cases e : prI os i' k' = prI os i k
 ·have hk' := hb y k' e2
  have hik : i' = i /\ k' = k:=by
   unfold prI at e
   have h0 : 0 < os.length:=by omega
   have a1 : (i' * os.length + k') / os.length = i':=by rw [Nat.mul_comm,Nat.mul_add_div h0,Nat.div_eq_of_lt hk',Nat.add_zero]
   have a2 : (i * os.length + k) / os.length = i:=by rw [Nat.mul_comm,Nat.mul_add_div h0,Nat.div_eq_of_lt hk,Nat.add_zero]
   have : i' = i:=by rw [<- a1,e,a2]
   subst this
   omega
  obtain ⟨rfl,rfl⟩:=hik
  have hnt:=h.told ht
  obtain ⟨c1,c2,c3⟩:=cand_parts hc
  rcases alike_bis x y ha with (e4 | ⟨f,d1,d2,d3⟩) | ⟨kd,f,g,d1,d2,d3,d4,d5⟩
  ·subst e4
   rw [e1] at e2
   injection e2 with e2
   subst e2
   exact hnt (Alike.refl _)
  ·rw [hp_some e1] at d1
   injection d1 with d1
   injection d1 with d1 _
   omega
  ·rw [hp_some e1] at d1
   rw [hp_some e2] at d2
   injection d1 with d1
   injection d1 with _ d1
   injection d2 with d2
   injection d2 with _ d2
   subst d1 d2
   exact hnt (d5 j hj)
 ·rw [List.getD_eq_getElem?_getD, List.getElem?_set_ne (by omega), <- List.getD_eq_getElem?_getD] at e3
  exact h x y i' k' e1 e2 e3 ha
def cntF (A : List Bool) : Nat:=A.countP (fun b=>!b)
theorem cntF_set : ∀ {A : List Bool} {p : Nat},p < A.length -> A.getD p false = false -> cntF (A.set p true) + 1 = cntF A
 | [],_,h,_=>by simp at h
 | a :: A,0,_,h=>by
  have : a = false:=h
  subst this
  simp [cntF]
 | a :: A,p + 1,h,e=>by
  have:=cntF_set (A:=A) (p:=p) (by simpa using h) e
  unfold cntF at this ⊢
  rw [List.set_cons_succ,List.countP_cons,List.countP_cons]
  omega
theorem set_same {A : List Bool} {p : Nat} (e : A.getD p false = true) : A.set p true = A:=by
 apply List.ext_getElem?
 intro i
 rw [List.getElem?_set]
 split
 ·rename_i h
  subst h
  split
  ·rename_i h2
   rw [List.getD_eq_getElem?_getD,List.getElem?_eq_getElem h2] at e
   rw [List.getElem?_eq_getElem h2]
   exact congrArg some e.symm
  ·rename_i h2
   rw [List.getElem?_eq_none (by omega)]
 ·rfl
structure RQ (os : List Ob) (A0 A : List Bool) (more : Bool) (i k j : Nat) : Prop where
 len : A.length = os.length * os.length
 snd : Snd os A
 no : more = false -> A = A0 /\ (∀ i' k',i' < os.length -> k' < os.length -> i' < i \/ i' = i /\ k' < k -> Stl os A i' k') /\ ∀ j',j' < j -> toldB os A ((os.getD i default).f.getD j' 0) ((os.getD k default).f.getD j' 0) = false
 yes : more = true -> cntF A < cntF A0
 le : cntF A <= cntF A0
theorem RQ.start {A : List Bool} (h : A.length = os.length * os.length) (hs : Snd os A) : RQ os A A false 0 0 0 :=
 ⟨h,hs,fun _=>⟨rfl,fun i' k' _ _ h=>by omega,fun j' h=>by omega⟩,fun e=>(by cases e),Nat.le_refl _⟩
theorem pr_lt {i k : Nat} (hi : i < os.length) (hk : k < os.length) : prI os i k < os.length * os.length:=by
 unfold prI
 have : (i + 1) * os.length <= os.length * os.length:=Nat.mul_le_mul_right _ hi
 rw [Nat.add_mul] at this
 omega
theorem RQ.skip {A0 A : List Bool} {more : Bool} {i k : Nat} (h : RQ os A0 A more i k 0) (hs : Stl os A i k) : RQ os A0 A more i (k + 1) 0 :=
 ⟨h.len,h.snd,fun e=>⟨(h.no e).1,fun i' k' h1 h2 h3=>by
  by_cases e1 : i' = i /\ k' = k
  ·obtain ⟨rfl,rfl⟩:=e1;exact hs
  ·exact (h.no e).2.1 i' k' h1 h2 (by omega),fun j' hj=>by omega⟩,h.yes,h.le⟩
theorem RQ.next {A0 A : List Bool} {more : Bool} {i k : Nat} (h : RQ os A0 A more i k (os.getD i default).f.length) : RQ os A0 A more i (k + 1) 0 :=
 ⟨h.len,h.snd,fun e=>⟨(h.no e).1,fun i' k' h1 h2 h3=>by
  by_cases e1 : i' = i /\ k' = k
  ·obtain ⟨rfl,rfl⟩:=e1;exact .inr (.inr (h.no e).2.2)
  ·exact (h.no e).2.1 i' k' h1 h2 (by omega),fun j' hj=>by omega⟩,h.yes,h.le⟩
theorem RQ.row {A0 A : List Bool} {more : Bool} {i : Nat} (h : RQ os A0 A more i os.length 0) : RQ os A0 A more (i + 1) 0 0 :=
 ⟨h.len,h.snd,fun e=>⟨(h.no e).1,fun i' k' h1 h2 h3=>(h.no e).2.1 i' k' h1 h2 (by omega),fun j' hj=>by omega⟩,h.yes,h.le⟩
theorem RQ.stay {A0 A : List Bool} {more : Bool} {i k j : Nat} (h : RQ os A0 A more i k j) (ht : toldB os A ((os.getD i default).f.getD j 0) ((os.getD k default).f.getD j 0) = false) : RQ os A0 A more i k (j + 1) :=
 ⟨h.len,h.snd,fun e=>⟨(h.no e).1,(h.no e).2.1,fun j' hj=>by
  by_cases e1 : j' = j
  ·subst e1;exact ht
  ·exact (h.no e).2.2 j' (by omega)⟩,h.yes,h.le⟩
theorem RQ.tell {A0 A : List Bool} {more : Bool} {i k j : Nat} (h : RQ os A0 A more i k j) (hi : i < os.length) (hk : k < os.length) (hb : ∀ x k,findM os x = some k -> k < os.length) (hc : candB os i k = true) (hj : j < (os.getD i default).f.length) (hm : more = true \/ A.getD (prI os i k) false = false) (ht : toldB os A ((os.getD i default).f.getD j 0) ((os.getD k default).f.getD j 0) = true) : RQ os A0 (A.set (prI os i k) true) true i k (j + 1):=by
 have hp:=pr_lt (os:=os) hi hk
 have hle : cntF (A.set (prI os i k) true) < cntF A0:=by
  by_cases e : A.getD (prI os i k) false = true
  ·rw [set_same e]
   rcases hm with e1 | e1
   ·exact h.yes e1
   ·rw [e] at e1;cases e1
  ·have := cntF_set (A := A) (p := prI os i k) (by rw [h.len]; exact hp) (by simpa using e)
   have:=h.le
   omega
 exact ⟨by rw [List.length_set];exact h.len,h.snd.set hk hb hc hj ht,fun e=>(by cases e),fun _=>hle,Nat.le_of_lt hle⟩
theorem RQ.done {A0 A : List Bool} (h : RQ os A0 A false os.length 0 0) (hf : ∀ x k,findM os x = some k -> k < os.length) (a b : Int) : (!toldB os A a b) = true ↔ Alike (hpO os) a b :=
 settled_alike h.snd (fun i k hi hk=>(h.no rfl).2.1 i k hi hk (.inl hi)) hf a b
theorem snd_start (n : Nat) : Snd os (List.replicate n false):=fun x y i k _ _ e=>by
 rw [List.getD_eq_getElem?_getD,List.getElem?_replicate] at e
 split at e <;> simp at e
end
def iz (l : List Int) : List Value:=l.map (Value.int .i64)
theorem iz_length (l : List Int) : (iz l).length = l.length:=by simp [iz]
theorem iz_append (l r : List Int) : iz (l ++ r) = iz l ++ iz r:=by simp [iz]
theorem info_iz : (Tryz.prog.info? 3).map (fun i=>(i.zero,i.size,i.bytes)) = some (some (.int .i64 0),1,8):=by kernel_rfl
theorem appi {P : Program} {w : World} {ops : Array Oper} {rest : List Oper} {o : Oper} {a : Act} {Q : Exit -> Act -> World -> Prop} (hgd : o.guard = none) (s x : Operand) (t : TypeId) (ho : o.op = .call { callee:=.builtin .append,args:=#[s,x],argTypes:=#[t,t] })
  (base : Nat) (e : TypeId) (ht : P.underlying t = some (.slice e)) (hi : (P.info? e).map (fun i=>(i.zero,i.size,i.bytes)) = some (some (.int .i64 0),1,8))
  (v : Value) (n : Nat) (l : List Int) (hs : a.eval s = v) (hown : w.ownsRow base e 1 v n (iz l))
  (ad : Addr) (c : Nat) (d : Int) (hx : a.eval x = .slice (some ad) 1 c) (hd : w.cell? ad = some (.int .i64 d)) (hsm : n <= 10000000) (hbase : base <= w.heap.size)
  (h : ∀ g cap w',w'.ownsRow base e 1 (.slice (some ⟨g,0,none⟩) (n + 1) cap) (n + 1) (iz (l ++ [d])) -> w.grownBy w' v.ownBlock -> (v.ownBlock = some g \/ g = w.heap.size) -> g < w'.heap.size -> wpList P ops Q rest (a.put o.dst (.slice (some ⟨g,0,none⟩) (n + 1) cap)) w') :
  wpList P ops Q (o :: rest) a w:=by
 obtain ⟨i0,hi0,hz0,hz1,hz2⟩ : ∃ i0,P.info? e = some i0 /\ i0.zero = some (.int .i64 0) /\ i0.size = 1 /\ i0.bytes = 8:=by
  cases h : P.info? e with
  | none=>rw [h] at hi;cases hi
  | some i=>rw [h] at hi;simp at hi;exact ⟨i,rfl,hi.1,hi.2.1,hi.2.2⟩
 refine wpList_append_lies w hgd s x t ho base e i0 (.int .i64 0) 1 8 ht hi0 hz0 hz1 hz2 rfl (by decide) v n (iz l) hs hown ad 1 c [.int .i64 d] hx rfl ?_ ?_ (by decide) (by unfold maxLen;omega) (by omega) hbase w.heap.size rfl ?_
 ·intro j u hj
  match j,hj with
  | 0,hj=>simp at hj;subst hj;simpa [Addr.add] using hd
 ·intro u hu;simp at hu;subst hu;rfl
 ·intro g cap w' h1 h2 h3 h4
  refine h g cap w' ?_ h2 h3 h4
  rw [iz_append];exact h1
end Go.Proofs.YticimejfjjmikaaGreatDoor
