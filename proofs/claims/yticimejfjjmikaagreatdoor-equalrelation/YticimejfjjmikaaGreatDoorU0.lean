import Derived.Test.YticimejfjjmikaaGreatDoorV4
import Derived.Test.YticimejfjjmikaaGreatDoorSG0
import Derived.Test.YticimejfjjmikaaGreatDoorSG1
import Derived.Test.YticimejfjjmikaaGreatDoorW40
import Derived.Deep.AppendLies
set_option linter.unusedVariables false
set_option linter.unusedSimpArgs false
set_option maxRecDepth 100000
namespace Go.Proofs.YticimejfjjmikaaGreatDoor
open Go.RowKit
set_option maxHeartbeats 4000000 in
theorem zwj (n : Int) (hn : Z64 n) (w : World) :
  Calls Tryz.prog 30 #[.int .i64 n] w fun e w' => if n < 1 \/ 4194304 < n then e = .returned (.tuple #[.pointer none, .int .i64 1]) /\ w' = w else ∃ g, e = .returned (.tuple #[.pointer (some ⟨g, 0, none⟩), .int .i64 0]) /\ w.heap.size <= g /\ RH w.heap.size g n (.slice none 0 0) [] w' /\ Below w.heap.size w w' := by
 unfold Z64 at hn
 by_cases hb : n < 1 \/ 4194304 < n
 ·simp only [if_pos hb]
  go_enter Tryz.func30, Tryz.ntmps30
  go_wp2
  all_goals first
   | omega
   | (go_ret2; exact ⟨rfl, rfl⟩)
 ·simp only [if_neg hb]
  have HE : Hid (RH w.heap.size w.heap.size n (.slice none 0 0) [] (w.alloc (.cells #[.int .i64 n, .slice none 0 0] 101))) :=
   ⟨ze _ _ _, World.ownsRow_nil _ _ _ _, fun x hx => (by cases hx), List.Pairwise.nil, fun x hx => (by cases hx), (by intro e; cases e), Nat.le_refl _, fun x hx => (by cases hx), fun x hx => (by cases hx), ⟨by simp [zg]; omega, by omega⟩⟩
  go_enter Tryz.func30, Tryz.ntmps30
  go_wp2
  all_goals first
   | omega
   | (go_ret2; exact ⟨_, rfl, Nat.le_refl _, HE.out, Ba _ _⟩)
theorem appU {P : Program} {w : World} {ops : Array Oper} {rest : List Oper} {o : Oper} {a : Act} {Q : Exit -> Act -> World -> Prop} (hgd : o.guard = none) (s x : Operand) (t : TypeId) (ho : o.op = .call { callee := .builtin .append, args := #[s, x], argTypes := #[t, t] })
  (base : Nat) (e : TypeId) (ht : P.underlying t = some (.slice e)) (hi : (P.info? e).map (fun i => (i.zero, i.size, i.bytes)) = some (some (.int .u64 0), 1, 8))
  (v : Value) (n : Nat) (l : List Int) (hs : a.eval s = v) (hown : w.ownsRow base e 1 v n (uz l))
  (ao : Option Addr) (m c : Nat) (r : List Int) (hx : a.eval x = .slice ao m c) (hr : URow w ao m c r) (hsm : n + m <= 1099511627776) (hbase : base <= w.heap.size)
  (h : ∀ v' w', w'.ownsRow base e 1 v' (n + m) (uz (l ++ r)) -> w.grownBy w' v.ownBlock -> wpList P ops Q rest (a.put o.dst v') w') : wpList P ops Q (o :: rest) a w :=
 wpList_plain hgd fun K hK => by
  have := zah1 (P := P) (w := w) (ops := ops) (o := o) (a := a) (K := K) (Q := Q) (E := False) o.dst rfl hgd s x t ho base e ht hi v n l hs hown ao m c r hx hr hsm hbase (fun v' w' h1 h2 => hK _ _ (h v' w' h1 h2))
  have hw : Region.wanted o (yielded ops a.tmps) = true := by simp [Region.wanted, hgd]
  rw [if_pos hw] at this
  exact this
theorem qk {w : World} {g : Nat} {z : Int} {t : TypeId} (h : w.heap[g]? = some (.cells #[.int .u64 z] t (0, 0))) (hz : U64 z) : URow w (some ⟨g, 0, none⟩) 1 1 [z] :=
 ⟨rfl, Nat.le_refl _, by unfold maxLen; omega, fun e => (by cases e), fun y hy => by simp at hy; rw [hy]; exact hz, .inr ⟨g, 0, rfl, (Array.getElem?_eq_some_iff.1 h).1, fun i hi => by
  have : i = 0 := by simpa using hi
  subst this
  exact za h 0⟩⟩
theorem xe {w : World} {B : Nat} {e : TypeId} {v : Value} {l : List Int} (h : w.ownsRow B e 1 v l.length (uz l)) (hb : ∀ z ∈ l, U64 z) : ∃ ao cap, v = .slice ao l.length cap /\ URow w ao l.length cap l := by
 rcases h.2 with ⟨rfl, h0⟩ | ⟨g, cap, cur, rfl, h2, h3, h4, h5, h6, h7⟩
 ·have : l = [] := List.length_eq_zero_iff.1 h0
  subst this
  exact ⟨none, 0, rfl, rfl, Nat.le_refl _, by unfold maxLen; omega, fun _ => rfl, hb, .inl rfl⟩
 ·refine ⟨some ⟨g, 0, none⟩, cap, rfl, rfl, h4, h5, fun e => (by cases e), hb, .inr ⟨g, 0, rfl, (Array.getElem?_eq_some_iff.1 h3).1, fun i hi => ?_⟩⟩
  rw [Nat.zero_add, za h3]
  have : cur[i]? = (uz l)[i]? := by rw [<- h7, List.getElem?_take, if_pos (by omega)]; simp
  rw [this, zed hi]
def zr : List Ob -> List Int
 | [] => []
 | x :: l => zj 8 (x.f.length : Nat) x.kind :: (x.f ++ zr l)
theorem vc (a b : List Ob) : zr (a ++ b) = zr a ++ zr b := by
 induction a with
 | nil => rfl
 | cons x l ih => simp only [List.cons_append, zr, ih, List.append_assoc]
theorem zi (a : List Ob) : (zr a).length = zg a := by
 induction a with
 | nil => rfl
 | cons x l ih => simp only [zr, zg, List.length_cons, List.length_append, ih]; omega
structure OsOk (os : List Ob) : Prop where
 kd : ∀ x ∈ os, 1 <= x.kind /\ x.kind <= 22
 uf : ∀ x ∈ os, ∀ z ∈ x.f, U64 z
 nh : ∀ x ∈ os, ∀ z ∈ x.f, isHd z = false
def zai (os : List Ob) (p : Int) : Int × Int := match yf os p with | none => (0, 70) | some n => ((os.getD n default).kind, 0)
def zda (os : List Ob) (p : Int) : Int × Int := match yf os p with | none => (0, 70) | some n => ((os.getD n default).f.length, 0)
def fh (os : List Ob) : List Int := (List.range os.length).map (fun i => zj 2 (atO os i : Nat) 0)
def sh (x : Ob) : Int × Nat := (x.kind, x.f.length)
theorem zln : ∀ {a b : List Ob}, a.map sh = b.map sh -> zg a = zg b
 | [], [], _ => rfl
 | [], _ :: _, h => by cases h
 | _ :: _, [], h => by cases h
 | x :: a, y :: b, h => by
  simp only [List.map_cons, List.cons.injEq] at h
  have h1 : x.f.length = y.f.length := congrArg Prod.snd h.1
  simp only [zg, zln h.2, h1]
theorem zza {a b : List Ob} (h : a.map sh = b.map sh) : a.length = b.length := by
 have := congrArg List.length h; simpa using this
theorem zev1 {a b : List Ob} (h : a.map sh = b.map sh) (i : Nat) : atO a i = atO b i := by
 unfold atO; exact zln (by rw [List.map_take, List.map_take, h])
theorem zdb1 {a b : List Ob} (h : a.map sh = b.map sh) (n : Int) (i : Nat) : fnd a n i = fnd b n i := by
 induction hk : a.length - i generalizing i with
 | zero =>
  have := zza h
  have e1 : fnd a n i = none := by rw [fnd, if_neg (by omega)]
  have e2 : fnd b n i = none := by rw [fnd, if_neg (by omega)]
  rw [e1, e2]
 | succ k ih =>
  have := zza h
  have e1 : fnd a n i = if (atO a i : Int) = n then some i else fnd a n (i + 1) := by rw [fnd, if_pos (by omega)]
  have e2 : fnd b n i = if (atO b i : Int) = n then some i else fnd b n (i + 1) := by rw [fnd, if_pos (by omega)]
  rw [e1, e2, zev1 h, ih (i + 1) (by omega)]
theorem zai1 {a b : List Ob} (h : a.map sh = b.map sh) (p : Int) : yf a p = yf b p := by
 unfold yf; rw [zdb1 h]
theorem zcl {p : Int} (hp : U64 p) (h : (ofR p).1 = 2) : p = (ofR p).2.1 * 8 + 1 := by
 unfold ofR at h ⊢
 split at h
 ·rename_i hr
  rw [if_pos hr]
  unfold U64 at hp
  unfold jt at h ⊢
  split at h
  ·exact absurd h (by simp)
  rename_i h0
  split at h
  ·rename_i h1
   rw [if_neg h0, if_pos h1]
   show p = p / 8 * 8 + 1
   omega
  ·rename_i h1
   split at h
   ·split at h
    ·exact absurd h (by simp)
    split at h
    ·have h' : p / 8 % 32 - 2 = 2 := h
     omega
    ·exact absurd h (by simp)
   split at h
   ·exact absurd h (by simp)
   ·exact absurd h (by simp)
 ·exact absurd h (by simp)
theorem zsn {os : List Ob} {p q : Int} {n : Nat} (hp : U64 p) (hq : U64 q) (h1 : yf os p = some n) (h2 : yf os q = some n) : p = q := by
 have e1 := jg h1
 have e2 := jg h2
 unfold yf at h1 h2
 split at h1
 ·rename_i k1
  split at h2
  ·rename_i k2
   have a1 := zcl hp k1
   have a2 := zcl hq k2
   omega
  ·cases h2
 ·cases h1
theorem zef {os : List Ob} {k : Nat} (h : k < os.length) : zr os = zr (os.take k) ++ (zj 8 ((os.getD k default).f.length : Nat) (os.getD k default).kind :: ((os.getD k default).f ++ zr (os.drop (k + 1)))) := by
 have h1 : os = os.take k ++ (os.getD k default :: os.drop (k + 1)) := by
  conv => lhs; rw [<- List.take_append_drop k os, List.drop_eq_getElem_cons h]
  rw [List.getD_eq_getElem?_getD, List.getElem?_eq_getElem h]; rfl
 conv => lhs; rw [h1, vc]
 rfl
theorem zmy (os : List Ob) (k : Nat) : (zr (os.take k)).length = atO os k := by rw [zi]; rfl
theorem zjh {os : List Ob} {k : Nat} (h : k < os.length) : (zr os).getD (atO os k) 0 = zj 8 ((os.getD k default).f.length : Nat) (os.getD k default).kind := by
 rw [zef h, List.getD_eq_getElem?_getD, List.getElem?_append_right (by rw [zmy]; exact Nat.le_refl _), zmy, Nat.sub_self]; rfl
theorem zfv {os : List Ob} {k j : Nat} (h : k < os.length) (hj : j < (os.getD k default).f.length) : (zr os).getD (atO os k + 1 + j) 0 = (os.getD k default).f.getD j 0 := by
 rw [zef h, List.getD_eq_getElem?_getD, List.getElem?_append_right (by rw [zmy]; omega), zmy, show atO os k + 1 + j - atO os k = j + 1 by omega, List.getElem?_cons_succ, List.getElem?_append_left hj, <- List.getD_eq_getElem?_getD]
theorem zlo {os : List Ob} {k : Nat} (h : k < os.length) : atO os (k + 1) = atO os k + 1 + (os.getD k default).f.length := by
 unfold atO
 rw [List.take_succ_eq_append_getElem h, jn, List.getD_eq_getElem?_getD, List.getElem?_eq_getElem h]
 simp only [zg, Option.getD_some]; omega
theorem zzb (os : List Ob) : atO os os.length = zg os := by unfold atO; rw [List.take_length]
theorem zlp {os : List Ob} {j k : Nat} (h : j <= k) (hk : k <= os.length) : atO os j + (k - j) <= atO os k := by
 induction k with
 | zero => obtain rfl : j = 0 := by omega
           simp
 | succ k ih =>
  by_cases e : j = k + 1
  ·subst e; simp
  ·have := ih (by omega) (by omega)
   rw [zlo (by omega)]; omega
theorem zdc1 {os : List Ob} {j k : Nat} (hj : j < os.length) (hk : k < os.length) (h : atO os j = atO os k) : j = k := by
 rcases Nat.lt_trichotomy j k with h1 | h1 | h1
 ·have := zlp (os := os) (Nat.le_of_lt h1) (Nat.le_of_lt hk); omega
 ·exact h1
 ·have := zlp (os := os) (Nat.le_of_lt h1) (Nat.le_of_lt hj); omega
theorem zdb {os : List Ob} {k : Nat} (h : k < os.length) : atO os k + 1 + (os.getD k default).f.length <= zg os := by
 rw [<- zlo h, <- zzb]
 have := zlp (os := os) (j := k + 1) (k := os.length) h (Nat.le_refl _)
 omega
theorem zwk {os : List Ob} {i : Nat} (h : i < zg os) : ∃ k, k < os.length /\ (i = atO os k \/ ∃ j, j < (os.getD k default).f.length /\ i = atO os k + 1 + j) := by
 have key : ∀ n, n <= os.length -> i < atO os n -> ∃ k, k < n /\ atO os k <= i /\ i < atO os (k + 1) := fun n => by
  induction n with
  | zero => intro _ h; simp [atO, zg] at h
  | succ n ih =>
   intro hn hi
   by_cases e : i < atO os n
   ·obtain ⟨k, a, b⟩ := ih (by omega) e; exact ⟨k, by omega, b⟩
   ·exact ⟨n, by omega, by omega, hi⟩
 obtain ⟨k, h1, h2, h3⟩ := key os.length (Nat.le_refl _) (by rw [zzb]; exact h)
 rw [zlo h1] at h3
 refine ⟨k, h1, ?_⟩
 by_cases e : i = atO os k
 ·exact .inl e
 ·exact .inr ⟨i - atO os k - 1, by omega, by omega⟩
theorem zzc {os : List Ob} {k : Nat} (h : k < os.length) {i : Nat} (hi : i <= k) : fnd os (atO os k : Nat) i = some k := by
 induction hk : k - i generalizing i with
 | zero =>
  obtain rfl : i = k := by omega
  rw [fnd, if_pos h, if_pos rfl]
 | succ n ih =>
  rw [fnd, if_pos (by omega), if_neg (fun e => by have := zdc1 (os := os) (j := i) (k := k) (by omega) h (by omega); omega), ih (by omega) (by omega)]
theorem zdd1 {n : Nat} (h : n <= 1099511627776) : ofR (zj 2 (n : Int) 0) = (2, (n : Int), 0) := by
 have := zdm (k := 2) (n := n) (t := 0) (by unfold zl; simp; omega)
 simpa using this
theorem zmz {os : List Ob} {k : Nat} (h : k < os.length) (hu : zg os <= 1099511627776) : yf os (zj 2 (atO os k : Nat) 0) = some k := by
 have hl := zdb h
 unfold yf
 rw [zdd1 (by omega)]
 simp only [if_true]
 exact zzc h (Nat.zero_le _)
theorem zso {x : Ob} (hk : 1 <= x.kind /\ x.kind <= 22) (hl : x.f.length <= 1099511627776) : ofR (zj 8 (x.f.length : Nat) x.kind) = (8, ((x.f.length : Nat) : Int), x.kind) := by
 have := zdm (k := 8) (n := (x.f.length : Nat)) (t := x.kind) (by unfold zl; simp; omega)
 simpa using this
theorem y7 {l : List Ob} {i : Nat} (h : i < l.length) : l.getD i default ∈ l := by
 rw [List.getD_eq_getElem?_getD, List.getElem?_eq_getElem h]; exact List.getElem_mem h
theorem z8 {l : List Int} {i : Nat} (h : i < l.length) : l.getD i 0 ∈ l := by
 rw [List.getD_eq_getElem?_getD, List.getElem?_eq_getElem h]; exact List.getElem_mem h
theorem zwl {os : List Ob} (ho : OsOk os) (hu : zg os <= 1099511627776) {i : Nat} (h : i < zg os) : (ofR ((zr os).getD i 0)).1 = 8 ↔ ∃ k, k < os.length /\ i = atO os k := by
 constructor
 ·intro e
  obtain ⟨k, hk, h1 | ⟨j, hj, h1⟩⟩ := zwk h
  ·exact ⟨k, hk, h1⟩
  ·rw [h1, zfv hk hj] at e
   have := ho.nh _ (y7 hk) _ (z8 hj)
   unfold isHd at this
   simp only [decide_eq_false_iff_not] at this
   exact absurd e this
 ·rintro ⟨k, hk, rfl⟩
  have hl := zdb hk
  rw [zjh hk, zso (ho.kd _ (y7 hk)) (by omega)]
def jj (l : List Nat) : ByteArray := ⟨(l.map UInt8.ofNat).toArray⟩
theorem zji {l : List Nat} (h : ∀ x ∈ l, x < 256) : bs (jj l) = l := by
 unfold bs jj
 rw [List.toList_toArray, List.map_map]
 conv => rhs; rw [<- List.map_id l]
 refine List.map_congr_left (fun x hx => ?_)
 show (UInt8.ofNat x).toNat = x
 rw [UInt8.toNat_ofNat']
 exact Nat.mod_eq_of_lt (h x hx)
theorem zaj1 (s : ByteArray) : ∀ x ∈ bs s, x < 256 := fun x hx => by
 unfold bs at hx
 obtain ⟨u, _, rfl⟩ := List.mem_map.1 hx
 exact UInt8.toNat_lt u
theorem zsp (s : ByteArray) : jj (bs s) = s := by
 unfold bs jj
 rw [List.map_map]
 have : (UInt8.ofNat ∘ UInt8.toNat) = id := by funext u; simp
 rw [this, List.map_id]
def symT (nm : List ByteArray) (x : Int) : ByteArray := nm.getD (nN x).toNat ByteArray.empty
def symB (nm : List ByteArray) (x : Int) : Bool := decide (nK x = 5) && (decide (nN x < nm.length) && qf 6 (symT nm x))
def namB (nm : List ByteArray) (x : Int) : Bool := decide (nK x = 5) && (decide (nN x < nm.length) && qf 15 (symT nm x))
def zzd (nm : List ByteArray) (x : Int) : Nd :=
 if nK x = 1 then ⟨3, 0, jj (qp (decide (nN x < 0)) (nN x).natAbs), []⟩
 else if nK x = 3 then (if nN x = 0 then ⟨1, 0, ByteArray.empty, []⟩ else if nN x = 1 \/ nN x = 2 then ⟨2, nN x - 1, ByteArray.empty, []⟩ else if nN x = 3 then ⟨10, 0, ByteArray.empty, []⟩ else ks)
 else if nK x = 4 then ⟨4, nN x, ByteArray.empty, []⟩
 else if symB nm x = true then ⟨6, 0, symT nm x, []⟩
 else if nK x = 6 then ⟨12, 0, ByteArray.empty, []⟩ else ks
def recB (os : List Ob) (nm : List ByteArray) (x : Int) : Bool := match yf os x with
 | some k => decide ((os.getD k default).kind = 13) && (decide (0 < (os.getD k default).f.length) && namB nm ((os.getD k default).f.getD 0 0))
 | none => false
def recT (os : List Ob) (nm : List ByteArray) (x : Int) : ByteArray := match yf os x with
 | some k => symT nm ((os.getD k default).f.getD 0 0)
 | none => ByteArray.empty
def zlq : ByteArray := jj [114, 101, 99, 111, 114, 100, 45, 116, 121, 112, 101]
def zsq : ByteArray := jj [116, 97, 98, 108, 101]
def zak1 (f : List Int) : Bool := decide (f.length = 3) && (decide (nK (f.getD 0 0) = 1) && (decide (0 <= nN (f.getD 0 0)) && decide (nN (f.getD 0 0) <= 2)))
def objD (os : List Ob) (nm : List ByteArray) (kd : Int) (f : List Int) : Nd :=
 if kd = 1 then (if f.length = 2 then ⟨7, 0, ByteArray.empty, f⟩ else ks)
 else if kd = 2 then (if f.length <= 1024 then ⟨8, 0, ByteArray.empty, f⟩ else ks)
 else if kd = 3 then (if (f.all lrB && decide (f.length <= 1024)) = true then ⟨5, 0, jj (lrT f), []⟩ else ks)
 else if kd = 4 then (if (f.all byB && decide (f.length <= 1024)) = true then ⟨9, 0, jj (byT f), []⟩ else ks)
 else if kd = 5 then (if bigB f = true then ⟨3, 0, jj (qp (ki f) (val B32 (jl f))), []⟩ else ks)
 else if kd = 12 then (if zak1 f = true then ⟨13, nN (f.getD 0 0), ByteArray.empty, f.drop 1⟩ else ks)
 else if kd = 14 then (if (decide (0 < f.length) && recB os nm (f.getD 0 0)) = true then ⟨15, 0, recT os nm (f.getD 0 0), f.drop 1⟩ else ks)
 else if kd = 11 then ⟨14, 0, ByteArray.empty, []⟩
 else if kd = 19 then ⟨17, 0, ByteArray.empty, []⟩
 else if kd = 18 then ⟨16, 0, ByteArray.empty, f⟩
 else if kd = 13 then ⟨15, 0, zlq, []⟩
 else if kd = 22 then ⟨15, 0, zsq, []⟩
 else if kd = 6 \/ kd = 17 \/ kd = 16 \/ kd = 15 then ⟨12, 0, ByteArray.empty, []⟩
 else ks
def zpb (os : List Ob) (nm : List ByteArray) (x : Int) : Nd := match yf os x with
 | some k => objD os nm (os.getD k default).kind (os.getD k default).f
 | none => zzd nm x
theorem zpc {os : List Ob} {x : Int} {k : Nat} (h : yf os x = some k) : nK x = 2 := by
 unfold yf at h
 split at h
 ·assumption
 ·cases h
theorem zna {os : List Ob} {x : Int} (h : nK x ≠ 2) : yf os x = none := by
 cases e : yf os x with
 | none => rfl
 | some k => exact absurd (zpc e) h
section
variable {os : List Ob} {l : List Bool} {nm : List ByteArray}
theorem zal1 : nK 0 ≠ 2 := by unfold nK; decide
section
variable {os : List Ob} {nm : List ByteArray} {f : List Int}
theorem zde1 : objD os nm 1 f = if f.length = 2 then ⟨7, 0, ByteArray.empty, f⟩ else ks := rfl
theorem zdf1 : objD os nm 2 f = if f.length <= 1024 then ⟨8, 0, ByteArray.empty, f⟩ else ks := rfl
theorem zdg1 : objD os nm 3 f = if (f.all lrB && decide (f.length <= 1024)) = true then ⟨5, 0, jj (lrT f), []⟩ else ks := rfl
theorem zdh1 : objD os nm 4 f = if (f.all byB && decide (f.length <= 1024)) = true then ⟨9, 0, jj (byT f), []⟩ else ks := rfl
theorem zdi1 : objD os nm 5 f = if bigB f = true then ⟨3, 0, jj (qp (ki f) (val B32 (jl f))), []⟩ else ks := rfl
theorem zam1 : objD os nm 12 f = if zak1 f = true then ⟨13, nN (f.getD 0 0), ByteArray.empty, f.drop 1⟩ else ks := rfl
theorem zan1 : objD os nm 14 f = if (decide (0 < f.length) && recB os nm (f.getD 0 0)) = true then ⟨15, 0, recT os nm (f.getD 0 0), f.drop 1⟩ else ks := rfl
theorem zdj1 {kd : Int} (k1 : kd ≠ 1) (k2 : kd ≠ 2) (k3 : kd ≠ 3) (k4 : kd ≠ 4) (k5 : kd ≠ 5) (k12 : kd ≠ 12) (k14 : kd ≠ 14) : objD os nm kd f =
  if kd = 11 then ⟨14, 0, ByteArray.empty, []⟩ else if kd = 19 then ⟨17, 0, ByteArray.empty, []⟩ else if kd = 18 then ⟨16, 0, ByteArray.empty, f⟩ else if kd = 13 then ⟨15, 0, zlq, []⟩ else if kd = 22 then ⟨15, 0, zsq, []⟩
  else if kd = 6 \/ kd = 17 \/ kd = 16 \/ kd = 15 then ⟨12, 0, ByteArray.empty, []⟩ else ks := by
 unfold objD
 rw [if_neg k1, if_neg k2, if_neg k3, if_neg k4, if_neg k5, if_neg k12, if_neg k14]
end
end
def hpO (os : List Ob) : Hp := fun x => (yf os x).map (fun k => ((os.getD k default).kind, (os.getD k default).f))
theorem kf {os : List Ob} {x : Int} {k : Nat} (h : yf os x = some k) : hpO os x = some ((os.getD k default).kind, (os.getD k default).f) := by unfold hpO; rw [h]; rfl
theorem zeg {os : List Ob} {x : Int} (h : yf os x = none) : hpO os x = none := by unfold hpO; rw [h]; rfl
theorem znb {os : List Ob} {x kd : Int} {f : List Int} (h : hpO os x = some (kd, f)) : ∃ k, yf os x = some k /\ (os.getD k default).kind = kd /\ (os.getD k default).f = f := by
 unfold hpO at h
 cases e : yf os x with
 | none => rw [e] at h; cases h
 | some k =>
  rw [e] at h
  injection h with h
  injection h with h1 h2
  exact ⟨k, rfl, h1, h2⟩
section
variable {os : List Ob}
def zdc (os : List Ob) (i k : Nat) : Bool := decide ((os.getD i default).kind = 5) && (decide ((os.getD k default).kind = 5) && (decide ((os.getD i default).f = (os.getD k default).f) && bigB (os.getD i default).f))
def zao (os : List Ob) (x y : Int) : Bool := match yf os x, yf os y with | some i, some k => zdc os i k | _, _ => false
def eqvB (os : List Ob) (x y : Int) : Bool := decide (x = y) || zao os x y
theorem vd (x y : Int) : eqvB os x y = true ↔ Eqv (hpO os) x y := by
 unfold eqvB zao Eqv
 rw [Bool.or_eq_true, decide_eq_true_eq]
 refine or_congr Iff.rfl ?_
 constructor
 ·intro h
  cases e1 : yf os x with
  | none => rw [e1] at h; simp at h
  | some i =>
   cases e2 : yf os y with
   | none => rw [e1, e2] at h; simp at h
   | some k =>
    rw [e1, e2] at h
    simp only [zdc, Bool.and_eq_true, decide_eq_true_eq] at h
    obtain ⟨h1, h2, h3, h4⟩ := h
    exact ⟨_, by rw [kf e1, h1], by rw [kf e2, h2, h3], h4⟩
 ·rintro ⟨f, h1, h2, h3⟩
  obtain ⟨i, a1, a2, a3⟩ := znb h1
  obtain ⟨k, b1, b2, b3⟩ := znb h2
  rw [a1, b1]
  simp only [zdc, Bool.and_eq_true, decide_eq_true_eq]
  exact ⟨a2, b2, a3.trans b3.symm, by rw [a3]; exact h3⟩
end
def iz (l : List Int) : List Value := l.map (Value.int .i64)
theorem zsr (l : List Int) : (iz l).length = l.length := by simp [iz]
theorem zss (l r : List Int) : iz (l ++ r) = iz l ++ iz r := by simp [iz]
theorem zeh : (Tryz.prog.info? 3).map (fun i => (i.zero, i.size, i.bytes)) = some (some (.int .i64 0), 1, 8) := by kernel_rfl
theorem appi {P : Program} {w : World} {ops : Array Oper} {rest : List Oper} {o : Oper} {a : Act} {Q : Exit -> Act -> World -> Prop} (hgd : o.guard = none) (s x : Operand) (t : TypeId) (ho : o.op = .call { callee := .builtin .append, args := #[s, x], argTypes := #[t, t] })
  (base : Nat) (e : TypeId) (ht : P.underlying t = some (.slice e)) (hi : (P.info? e).map (fun i => (i.zero, i.size, i.bytes)) = some (some (.int .i64 0), 1, 8))
  (v : Value) (n : Nat) (l : List Int) (hs : a.eval s = v) (hown : w.ownsRow base e 1 v n (iz l))
  (ad : Addr) (c : Nat) (d : Int) (hx : a.eval x = .slice (some ad) 1 c) (hd : w.cell? ad = some (.int .i64 d)) (hsm : n <= 10000000) (hbase : base <= w.heap.size)
  (h : ∀ g cap w', w'.ownsRow base e 1 (.slice (some ⟨g, 0, none⟩) (n + 1) cap) (n + 1) (iz (l ++ [d])) -> w.grownBy w' v.ownBlock -> (v.ownBlock = some g \/ g = w.heap.size) -> g < w'.heap.size -> wpList P ops Q rest (a.put o.dst (.slice (some ⟨g, 0, none⟩) (n + 1) cap)) w') :
  wpList P ops Q (o :: rest) a w := by
 obtain ⟨i0, hi0, hz0, hz1, hz2⟩ : ∃ i0, P.info? e = some i0 /\ i0.zero = some (.int .i64 0) /\ i0.size = 1 /\ i0.bytes = 8 := by
  cases h : P.info? e with
  | none => rw [h] at hi; cases hi
  | some i => rw [h] at hi; simp at hi; exact ⟨i, rfl, hi.1, hi.2.1, hi.2.2⟩
 refine wpList_append_lies w hgd s x t ho base e i0 (.int .i64 0) 1 8 ht hi0 hz0 hz1 hz2 rfl (by decide) v n (iz l) hs hown ad 1 c [.int .i64 d] hx rfl ?_ ?_ (by decide) (by unfold maxLen; omega) (by omega) hbase w.heap.size rfl ?_
 ·intro j u hj
  match j, hj with
  | 0, hj => simp at hj; subst hj; simpa [Addr.add] using hd
 ·intro u hu; simp at hu; subst hu; rfl
 ·intro g cap w' h1 h2 h3 h4
  refine h g cap w' ?_ h2 h3 h4
  rw [zss]; exact h1
end Go.Proofs.YticimejfjjmikaaGreatDoor
