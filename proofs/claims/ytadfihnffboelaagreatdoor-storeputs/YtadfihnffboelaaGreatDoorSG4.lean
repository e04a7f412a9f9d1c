import Derived.Test.YtadfihnffboelaaGreatDoorV6
import Derived.Test.YtadfihnffboelaaGreatDoorST4
import Derived.Test.YtadfihnffboelaaGreatDoorX1
import Derived.Test.YtadfihnffboelaaGreatDoorW40
import Derived.Lib.MapLaws
import Derived.Lib.QuoteLoop
import Derived.Test.YtadfihnffboelaaGreatDoorW43
import Derived.Test.YtadfihnffboelaaGreatDoorW13
import Derived.Test.YtadfihnffboelaaGreatDoorG7
set_option linter.unusedVariables false
set_option linter.unusedSimpArgs false
namespace Go.Proofs.YtadfihnffboelaaGreatDoor
open Go.RowKit
structure OsOk (os : List Ob) : Prop where
 kd : ∀ x ∈ os, 1 <= x.kind /\ x.kind <= 22
 uf : ∀ x ∈ os, ∀ z ∈ x.f, U64 z
 nh : ∀ x ∈ os, ∀ z ∈ x.f, isHd z = false
def zpo (os : List Ob) (p : Int) : Int × Int := match qm os p with | none => (0, 70) | some n => ((os.getD n default).kind, 0)
def zmh (os : List Ob) (p : Int) : Int × Int := match qm os p with | none => (0, 70) | some n => ((os.getD n default).f.length, 0)
def sh (x : Ob) : Int × Nat := (x.kind, x.f.length)
theorem zmi : ∀ {a b : List Ob}, a.map sh = b.map sh -> zg a = zg b
 | [], [], _ => rfl
 | [], _ :: _, h => by cases h
 | _ :: _, [], h => by cases h
 | x :: a, y :: b, h => by
  simp only [List.map_cons, List.cons.injEq] at h
  have h1 : x.f.length = y.f.length := congrArg Prod.snd h.1
  simp only [zg, zmi h.2, h1]
theorem zyz {a b : List Ob} (h : a.map sh = b.map sh) : a.length = b.length := by
 have := congrArg List.length h; simpa using this
theorem zel1 {a b : List Ob} (h : a.map sh = b.map sh) (i : Nat) : atO a i = atO b i := by
 unfold atO; exact zmi (by rw [List.map_take, List.map_take, h])
theorem zct1 {a b : List Ob} (h : a.map sh = b.map sh) (n : Int) (i : Nat) : fnd a n i = fnd b n i := by
 induction hk : a.length - i generalizing i with
 | zero =>
  have := zyz h
  have e1 : fnd a n i = none := by rw [fnd, if_neg (by omega)]
  have e2 : fnd b n i = none := by rw [fnd, if_neg (by omega)]
  rw [e1, e2]
 | succ k ih =>
  have := zyz h
  have e1 : fnd a n i = if (atO a i : Int) = n then some i else fnd a n (i + 1) := by rw [fnd, if_pos (by omega)]
  have e2 : fnd b n i = if (atO b i : Int) = n then some i else fnd b n (i + 1) := by rw [fnd, if_pos (by omega)]
  rw [e1, e2, zel1 h, ih (i + 1) (by omega)]
theorem zag1 {a b : List Ob} (h : a.map sh = b.map sh) (p : Int) : qm a p = qm b p := by
 unfold qm; rw [zct1 h]
theorem zpp {p : Int} (hp : U64 p) (h : (ofR p).1 = 2) : p = (ofR p).2.1 * 8 + 1 := by
 unfold ofR at h ⊢
 split at h
 ·rename_i hr
  rw [if_pos hr]
  unfold U64 at hp
  unfold jj at h ⊢
  split at h
  ·exact absurd h (by simp)
  rename_i h0
  split at h
  ·rename_i h1
   rw [if_neg h0, if_pos h1]
   show p = p / 8 * 8 + 1
   omega
  ·rename_i h1
   split at h
   ·split at h
    ·exact absurd h (by simp)
    split at h
    ·have h' : p / 8 % 32 - 2 = 2 := h
     omega
    ·exact absurd h (by simp)
   split at h
   ·exact absurd h (by simp)
   ·exact absurd h (by simp)
 ·exact absurd h (by simp)
theorem zez {os : List Ob} {k : Nat} (h : k < os.length) : zo os = zo (os.take k) ++ (zj 8 ((os.getD k default).f.length : Nat) (os.getD k default).kind :: ((os.getD k default).f ++ zo (os.drop (k + 1)))) := by
 have h1 : os = os.take k ++ (os.getD k default :: os.drop (k + 1)) := by
  conv => lhs; rw [<- List.take_append_drop k os, List.drop_eq_getElem_cons h]
  rw [List.getD_eq_getElem?_getD, List.getElem?_eq_getElem h]; rfl
 conv => lhs; rw [h1, kf]
 rfl
theorem zns (os : List Ob) (k : Nat) : (zo (os.take k)).length = atO os k := by rw [zh]; rfl
theorem zkh {os : List Ob} {k : Nat} (h : k < os.length) : (zo os).getD (atO os k) 0 = zj 8 ((os.getD k default).f.length : Nat) (os.getD k default).kind := by
 rw [zez h, List.getD_eq_getElem?_getD, List.getElem?_append_right (by rw [zns]; exact Nat.le_refl _), zns, Nat.sub_self]; rfl
theorem zgj {os : List Ob} {k j : Nat} (h : k < os.length) (hj : j < (os.getD k default).f.length) : (zo os).getD (atO os k + 1 + j) 0 = (os.getD k default).f.getD j 0 := by
 rw [zez h, List.getD_eq_getElem?_getD, List.getElem?_append_right (by rw [zns]; omega), zns, show atO os k + 1 + j - atO os k = j + 1 by omega, List.getElem?_cons_succ, List.getElem?_append_left hj, <- List.getD_eq_getElem?_getD]
theorem zmj {os : List Ob} {k : Nat} (h : k < os.length) : atO os (k + 1) = atO os k + 1 + (os.getD k default).f.length := by
 unfold atO
 rw [List.take_succ_eq_append_getElem h, jf, List.getD_eq_getElem?_getD, List.getElem?_eq_getElem h]
 simp only [zg, Option.getD_some]; omega
theorem zza (os : List Ob) : atO os os.length = zg os := by unfold atO; rw [List.take_length]
theorem zmk {os : List Ob} {j k : Nat} (h : j <= k) (hk : k <= os.length) : atO os j + (k - j) <= atO os k := by
 induction k with
 | zero => obtain rfl : j = 0 := by omega
           simp
 | succ k ih =>
  by_cases e : j = k + 1
  ·subst e; simp
  ·have := ih (by omega) (by omega)
   rw [zmj (by omega)]; omega
theorem zcu1 {os : List Ob} {j k : Nat} (hj : j < os.length) (hk : k < os.length) (h : atO os j = atO os k) : j = k := by
 rcases Nat.lt_trichotomy j k with h1 | h1 | h1
 ·have := zmk (os := os) (Nat.le_of_lt h1) (Nat.le_of_lt hk); omega
 ·exact h1
 ·have := zmk (os := os) (Nat.le_of_lt h1) (Nat.le_of_lt hj); omega
theorem zhw {os : List Ob} {k : Nat} (h : k < os.length) : atO os k + 1 + (os.getD k default).f.length <= zg os := by
 rw [<- zmj h, <- zza]
 have := zmk (os := os) (j := k + 1) (k := os.length) h (Nat.le_refl _)
 omega
theorem zww {os : List Ob} {i : Nat} (h : i < zg os) : ∃ k, k < os.length /\ (i = atO os k \/ ∃ j, j < (os.getD k default).f.length /\ i = atO os k + 1 + j) := by
 have key : ∀ n, n <= os.length -> i < atO os n -> ∃ k, k < n /\ atO os k <= i /\ i < atO os (k + 1) := fun n => by
  induction n with
  | zero => intro _ h; simp [atO, zg] at h
  | succ n ih =>
   intro hn hi
   by_cases e : i < atO os n
   ·obtain ⟨k, a, b⟩ := ih (by omega) e; exact ⟨k, by omega, b⟩
   ·exact ⟨n, by omega, by omega, hi⟩
 obtain ⟨k, h1, h2, h3⟩ := key os.length (Nat.le_refl _) (by rw [zza]; exact h)
 rw [zmj h1] at h3
 refine ⟨k, h1, ?_⟩
 by_cases e : i = atO os k
 ·exact .inl e
 ·exact .inr ⟨i - atO os k - 1, by omega, by omega⟩
theorem zzb {os : List Ob} {k : Nat} (h : k < os.length) {i : Nat} (hi : i <= k) : fnd os (atO os k : Nat) i = some k := by
 induction hk : k - i generalizing i with
 | zero =>
  obtain rfl : i = k := by omega
  rw [fnd, if_pos h, if_pos rfl]
 | succ n ih =>
  rw [fnd, if_pos (by omega), if_neg (fun e => by have := zcu1 (os := os) (j := i) (k := k) (by omega) h (by omega); omega), ih (by omega) (by omega)]
theorem zcv1 {n : Nat} (h : n <= 1099511627776) : ofR (zj 2 (n : Int) 0) = (2, (n : Int), 0) := by
 have := zee (k := 2) (n := n) (t := 0) (by unfold zk; simp; omega)
 simpa using this
theorem zwx {os : List Ob} {k : Nat} (h : k < os.length) (hu : zg os <= 1099511627776) : qm os (zj 2 (atO os k : Nat) 0) = some k := by
 have hl := zhw h
 unfold qm
 rw [zcv1 (by omega)]
 simp only [if_true]
 exact zzb h (Nat.zero_le _)
theorem zsz {x : Ob} (hk : 1 <= x.kind /\ x.kind <= 22) (hl : x.f.length <= 1099511627776) : ofR (zj 8 (x.f.length : Nat) x.kind) = (8, ((x.f.length : Nat) : Int), x.kind) := by
 have := zee (k := 8) (n := (x.f.length : Nat)) (t := x.kind) (by unfold zk; simp; omega)
 simpa using this
theorem km {l : List Ob} {i : Nat} (h : i < l.length) : l.getD i default ∈ l := by
 rw [List.getD_eq_getElem?_getD, List.getElem?_eq_getElem h]; exact List.getElem_mem h
theorem ya {l : List Int} {i : Nat} (h : i < l.length) : l.getD i 0 ∈ l := by
 rw [List.getD_eq_getElem?_getD, List.getElem?_eq_getElem h]; exact List.getElem_mem h
theorem zwy {os : List Ob} (ho : OsOk os) (hu : zg os <= 1099511627776) {i : Nat} (h : i < zg os) : (ofR ((zo os).getD i 0)).1 = 8 ↔ ∃ k, k < os.length /\ i = atO os k := by
 constructor
 ·intro e
  obtain ⟨k, hk, h1 | ⟨j, hj, h1⟩⟩ := zww h
  ·exact ⟨k, hk, h1⟩
  ·rw [h1, zgj hk hj] at e
   have := ho.nh _ (km hk) _ (ya hj)
   unfold isHd at this
   simp only [decide_eq_false_iff_not] at this
   exact absurd e this
 ·rintro ⟨k, hk, rfl⟩
  have hl := zhw hk
  rw [zkh hk, zsz (ho.kd _ (km hk)) (by omega)]
def yn (l : List Nat) : ByteArray := ⟨(l.map UInt8.ofNat).toArray⟩
theorem zki {l : List Nat} (h : ∀ x ∈ l, x < 256) : bs (yn l) = l := by
 unfold bs yn
 rw [List.toList_toArray, List.map_map]
 conv => rhs; rw [<- List.map_id l]
 refine List.map_congr_left (fun x hx => ?_)
 show (UInt8.ofNat x).toNat = x
 rw [UInt8.toNat_ofNat']
 exact Nat.mod_eq_of_lt (h x hx)
theorem zah1 (s : ByteArray) : ∀ x ∈ bs s, x < 256 := fun x hx => by
 unfold bs at hx
 obtain ⟨u, _, rfl⟩ := List.mem_map.1 hx
 exact UInt8.toNat_lt u
theorem zkj (s : ByteArray) : yn (bs s) = s := by
 unfold bs yn
 rw [List.map_map]
 have : (UInt8.ofNat ∘ UInt8.toNat) = id := by funext u; simp
 rw [this, List.map_id]
def symT (nm : List ByteArray) (x : Int) : ByteArray := nm.getD (nN x).toNat ByteArray.empty
def symB (nm : List ByteArray) (x : Int) : Bool := decide (nK x = 5) && (decide (nN x < nm.length) && j8 6 (symT nm x))
def namB (nm : List ByteArray) (x : Int) : Bool := decide (nK x = 5) && (decide (nN x < nm.length) && j8 15 (symT nm x))
def xj (nm : List ByteArray) (x : Int) : Nd :=
 if nK x = 1 then ⟨3, 0, yn (j7 (decide (nN x < 0)) (nN x).natAbs), []⟩
 else if nK x = 3 then (if nN x = 0 then ⟨1, 0, ByteArray.empty, []⟩ else if nN x = 1 \/ nN x = 2 then ⟨2, nN x - 1, ByteArray.empty, []⟩ else if nN x = 3 then ⟨10, 0, ByteArray.empty, []⟩ else yj)
 else if nK x = 4 then ⟨4, nN x, ByteArray.empty, []⟩
 else if symB nm x = true then ⟨6, 0, symT nm x, []⟩
 else if nK x = 6 then ⟨12, 0, ByteArray.empty, []⟩ else yj
def recB (os : List Ob) (nm : List ByteArray) (x : Int) : Bool := match qm os x with
 | some k => decide ((os.getD k default).kind = 13) && (decide (0 < (os.getD k default).f.length) && namB nm ((os.getD k default).f.getD 0 0))
 | none => false
def recT (os : List Ob) (nm : List ByteArray) (x : Int) : ByteArray := match qm os x with
 | some k => symT nm ((os.getD k default).f.getD 0 0)
 | none => ByteArray.empty
def zml : ByteArray := yn [114, 101, 99, 111, 114, 100, 45, 116, 121, 112, 101]
def zta : ByteArray := yn [116, 97, 98, 108, 101]
def zkk (f : List Int) : Bool := decide (f.length = 3) && (decide (nK (f.getD 0 0) = 1) && (decide (0 <= nN (f.getD 0 0)) && decide (nN (f.getD 0 0) <= 2)))
def objD (os : List Ob) (nm : List ByteArray) (kd : Int) (f : List Int) : Nd :=
 if kd = 1 then (if f.length = 2 then ⟨7, 0, ByteArray.empty, f⟩ else yj)
 else if kd = 2 then (if f.length <= 1024 then ⟨8, 0, ByteArray.empty, f⟩ else yj)
 else if kd = 3 then (if (f.all lrB && decide (f.length <= 1024)) = true then ⟨5, 0, yn (lrT f), []⟩ else yj)
 else if kd = 4 then (if (f.all byB && decide (f.length <= 1024)) = true then ⟨9, 0, yn (byT f), []⟩ else yj)
 else if kd = 5 then (if bigB f = true then ⟨3, 0, yn (j7 (vv f) (val B32 (qt f))), []⟩ else yj)
 else if kd = 12 then (if zkk f = true then ⟨13, nN (f.getD 0 0), ByteArray.empty, f.drop 1⟩ else yj)
 else if kd = 14 then (if (decide (0 < f.length) && recB os nm (f.getD 0 0)) = true then ⟨15, 0, recT os nm (f.getD 0 0), f.drop 1⟩ else yj)
 else if kd = 11 then ⟨14, 0, ByteArray.empty, []⟩
 else if kd = 19 then ⟨17, 0, ByteArray.empty, []⟩
 else if kd = 18 then ⟨16, 0, ByteArray.empty, f⟩
 else if kd = 13 then ⟨15, 0, zml, []⟩
 else if kd = 22 then ⟨15, 0, zta, []⟩
 else if kd = 6 \/ kd = 17 \/ kd = 16 \/ kd = 15 then ⟨12, 0, ByteArray.empty, []⟩
 else yj
def qd (os : List Ob) (nm : List ByteArray) (x : Int) : Nd := match qm os x with
 | some k => objD os nm (os.getD k default).kind (os.getD k default).f
 | none => xj nm x
section
variable {os : List Ob} {l : List Bool} {nm : List ByteArray}
section
variable {os : List Ob} {nm : List ByteArray} {f : List Int}
theorem zcw1 : objD os nm 1 f = if f.length = 2 then ⟨7, 0, ByteArray.empty, f⟩ else yj := rfl
theorem zcx1 : objD os nm 2 f = if f.length <= 1024 then ⟨8, 0, ByteArray.empty, f⟩ else yj := rfl
theorem zcy1 : objD os nm 3 f = if (f.all lrB && decide (f.length <= 1024)) = true then ⟨5, 0, yn (lrT f), []⟩ else yj := rfl
theorem zcz1 : objD os nm 4 f = if (f.all byB && decide (f.length <= 1024)) = true then ⟨9, 0, yn (byT f), []⟩ else yj := rfl
theorem zda1 : objD os nm 5 f = if bigB f = true then ⟨3, 0, yn (j7 (vv f) (val B32 (qt f))), []⟩ else yj := rfl
theorem zai1 : objD os nm 12 f = if zkk f = true then ⟨13, nN (f.getD 0 0), ByteArray.empty, f.drop 1⟩ else yj := rfl
theorem zaj1 : objD os nm 14 f = if (decide (0 < f.length) && recB os nm (f.getD 0 0)) = true then ⟨15, 0, recT os nm (f.getD 0 0), f.drop 1⟩ else yj := rfl
theorem zzc {kd : Int} (k1 : kd ≠ 1) (k2 : kd ≠ 2) (k3 : kd ≠ 3) (k4 : kd ≠ 4) (k5 : kd ≠ 5) (k12 : kd ≠ 12) (k14 : kd ≠ 14) : objD os nm kd f =
  if kd = 11 then ⟨14, 0, ByteArray.empty, []⟩ else if kd = 19 then ⟨17, 0, ByteArray.empty, []⟩ else if kd = 18 then ⟨16, 0, ByteArray.empty, f⟩ else if kd = 13 then ⟨15, 0, zml, []⟩ else if kd = 22 then ⟨15, 0, zta, []⟩
  else if kd = 6 \/ kd = 17 \/ kd = 16 \/ kd = 15 then ⟨12, 0, ByteArray.empty, []⟩ else yj := by
 unfold objD
 rw [if_neg k1, if_neg k2, if_neg k3, if_neg k4, if_neg k5, if_neg k12, if_neg k14]
end
end
theorem u8n {n : Nat} (h : n < 256) : (UInt8.ofNat n).toNat = n := by rw [UInt8.toNat_ofNat']; exact Nat.mod_eq_of_lt h
theorem znt {c : Nat} (h : letB (c : Int) = true) : c <= 1114111 /\ (c < 55296 \/ 57343 < c) := by
 unfold letB at h
 simp only [Bool.and_eq_true, Bool.or_eq_true, decide_eq_true_eq] at h
 omega
theorem zak1 {c : Nat} (h : letB (c : Int) = true) (h1 : c < 128) : (Utf8.encode (c : Int)).data.toList = [UInt8.ofNat c] := by
 have hv : Utf8.valid (c : Int) = true := by rw [<- vl]; exact h
 unfold Utf8.encode
 simp only [hv, if_true, Int.toNat_natCast]
 rw [if_pos h1]
theorem zal1 {c : Nat} (h : letB (c : Int) = true) (h1 : 128 <= c) (h2 : c < 2048) : (Utf8.encode (c : Int)).data.toList = [UInt8.ofNat (192 + c / 64), UInt8.ofNat (128 + c % 64)] := by
 have hv : Utf8.valid (c : Int) = true := by rw [<- vl]; exact h
 unfold Utf8.encode
 simp only [hv, if_true, Int.toNat_natCast]
 rw [if_neg (by omega), if_pos h2]
theorem zwz {c : Nat} (h : letB (c : Int) = true) (h1 : 2048 <= c) (h2 : c < 65536) : (Utf8.encode (c : Int)).data.toList = [UInt8.ofNat (224 + c / 4096), UInt8.ofNat (128 + c / 64 % 64), UInt8.ofNat (128 + c % 64)] := by
 have hv : Utf8.valid (c : Int) = true := by rw [<- vl]; exact h
 unfold Utf8.encode
 simp only [hv, if_true, Int.toNat_natCast]
 rw [if_neg (by omega), if_neg (by omega), if_pos h2]
theorem zam1 {c : Nat} (h : letB (c : Int) = true) (h1 : 65536 <= c) : (Utf8.encode (c : Int)).data.toList = [UInt8.ofNat (240 + c / 262144), UInt8.ofNat (128 + c / 4096 % 64), UInt8.ofNat (128 + c / 64 % 64), UInt8.ofNat (128 + c % 64)] := by
 have hv : Utf8.valid (c : Int) = true := by rw [<- vl]; exact h
 unfold Utf8.encode
 simp only [hv, if_true, Int.toNat_natCast]
 rw [if_neg (by omega), if_neg (by omega), if_neg (by omega)]
theorem ztb {c : Nat} (h : letB (c : Int) = true) (rest : List UInt8) : Lib.decodeL ((Utf8.encode (c : Int)).data.toList ++ rest) = (c, (Utf8.encode (c : Int)).data.toList.length) := by
 have hb := znt h
 rw [Lib.decodeL_N]
 by_cases h1 : c < 128
 ·rw [zak1 h h1]
  show Lib.decodeN _ (UInt8.ofNat c).toNat _ _ _ = (c, 1)
  rw [u8n (by omega)]
  unfold Lib.decodeN
  rw [if_pos h1]
 by_cases h2 : c < 2048
 ·rw [zal1 h (by omega) h2]
  show Lib.decodeN _ (UInt8.ofNat (192 + c / 64)).toNat (UInt8.ofNat (128 + c % 64)).toNat _ _ = (c, 2)
  rw [u8n (by omega), u8n (by omega)]
  unfold Lib.decodeN
  rw [if_neg (by omega), if_pos ⟨by omega, by simp, by omega⟩, if_pos (by omega)]
  congr 1; omega
 by_cases h3 : c < 65536
 ·rw [zwz h (by omega) h3]
  show Lib.decodeN _ (UInt8.ofNat (224 + c / 4096)).toNat (UInt8.ofNat (128 + c / 64 % 64)).toNat (UInt8.ofNat (128 + c % 64)).toNat _ = (c, 3)
  rw [u8n (by omega), u8n (by omega), u8n (by omega)]
  unfold Lib.decodeN
  rw [if_neg (by omega), if_neg (by omega), if_pos ⟨by omega, ⟨by simp, by omega⟩, by simp, by omega⟩, if_pos (by omega)]
  congr 1; omega
 ·rw [zam1 h (by omega)]
  show Lib.decodeN _ (UInt8.ofNat (240 + c / 262144)).toNat (UInt8.ofNat (128 + c / 4096 % 64)).toNat (UInt8.ofNat (128 + c / 64 % 64)).toNat (UInt8.ofNat (128 + c % 64)).toNat = (c, 4)
  rw [u8n (by omega), u8n (by omega), u8n (by omega), u8n (by omega)]
  unfold Lib.decodeN
  rw [if_neg (by omega), if_neg (by omega), if_neg (by omega), if_pos ⟨by omega, ⟨by simp, by omega⟩, ⟨by simp, by omega⟩, by simp, by omega⟩, if_pos (by omega)]
  congr 1; omega
theorem zmm {c : Nat} (h : letB (c : Int) = true) : 1 <= (Utf8.encode (c : Int)).data.toList.length /\ (Utf8.encode (c : Int)).data.toList.length <= 4 := by
 by_cases h1 : c < 128
 ·rw [zak1 h h1]; simp
 by_cases h2 : c < 2048
 ·rw [zal1 h (by omega) h2]; simp
 by_cases h3 : c < 65536
 ·rw [zwz h (by omega) h3]; simp
 ·rw [zam1 h (by omega)]; simp
theorem zdb1 {c : Nat} (h : letB (c : Int) = true) : (Utf8.encode (c : Int)).data.toList = Lib.encodeRune (c : Int) := by
 have hb := znt h
 unfold Lib.encodeRune
 by_cases h1 : c < 128
 ·rw [zak1 h h1, Lib.encodeRuneZ_one (by omega) (by omega)]; simp
 by_cases h2 : c < 2048
 ·rw [zal1 h (by omega) h2, Lib.encodeRuneZ_two (by omega) (by omega)]
  simp only [List.map_cons, List.map_nil]
  rw [show (192 + (c : Int) / 64).toNat = 192 + c / 64 by omega, show (128 + (c : Int) % 64).toNat = 128 + c % 64 by omega]
 by_cases h3 : c < 65536
 ·rw [zwz h (by omega) h3, Lib.encodeRuneZ_three (by omega)]
  simp only [List.map_cons, List.map_nil]
  rw [show (224 + (c : Int) / 4096).toNat = 224 + c / 4096 by omega, show (128 + (c : Int) / 64 % 64).toNat = 128 + c / 64 % 64 by omega, show (128 + (c : Int) % 64).toNat = 128 + c % 64 by omega]
 ·rw [zam1 h (by omega), Lib.encodeRuneZ_four (by omega) (by omega)]
  simp only [List.map_cons, List.map_nil]
  rw [show (240 + (c : Int) / 262144).toNat = 240 + c / 262144 by omega, show (128 + (c : Int) / 4096 % 64).toNat = 128 + c / 4096 % 64 by omega, show (128 + (c : Int) / 64 % 64).toNat = 128 + c / 64 % 64 by omega, show (128 + (c : Int) % 64).toNat = 128 + c % 64 by omega]
def fe (l : List Nat) : List UInt8 := l.flatMap (fun c : Nat => (Utf8.encode (c : Int)).data.toList)
theorem zfa : ∀ {l : List Nat}, (∀ c ∈ l, letB (c : Int) = true) -> Lib.validD (fe l) = true
 | [], _ => Lib.validD_nil
 | c :: l, h => by
  have hc := h c List.mem_cons_self
  have hl := zmm hc
  have ih := zfa (l := l) (fun x hx => h x (List.mem_cons_of_mem _ hx))
  have e : fe (c :: l) = (Utf8.encode (c : Int)).data.toList ++ fe l := rfl
  rw [e, Lib.validD_step _ (by intro e2; have := congrArg List.length e2; simp only [List.length_append, List.length_nil] at this; omega), ztb hc, if_neg, List.drop_left]
  ·exact ih
  ·rintro ⟨e1, e2⟩
   simp only at e1 e2
   subst e1
   rw [zwz hc (by omega) (by omega)] at e2
   simp at e2
theorem zpq (s : ByteArray) (f p : Nat) : Lib.runeCountFrom s (f + 1) p = if p < s.size then 1 + Lib.runeCountFrom s f (p + (Utf8.decode s p).2) else 0 := rfl
theorem zgk {s : ByteArray} : ∀ {l : List Nat} {p f : Nat}, (∀ c ∈ l, letB (c : Int) = true) -> s.data.toList.drop p = fe l -> l.length <= f -> Lib.runeCountFrom s f p = l.length
 | [], p, f, _, e, _ => by
  refine Lib.runeCountFrom_end s f p (fun h => ?_)
  have := congrArg List.length e
  rw [List.length_drop] at this
  have h2 : s.data.toList.length = s.size := rfl
  simp [fe] at this
  omega
 | c :: l, p, 0, _, _, h => by simp at h
 | c :: l, p, f + 1, h, e, hf => by
  have hc := h c List.mem_cons_self
  have hl := zmm hc
  have e2 : fe (c :: l) = (Utf8.encode (c : Int)).data.toList ++ fe l := rfl
  rw [e2] at e
  have h2 : s.data.toList.length = s.size := rfl
  have hlen := congrArg List.length e
  rw [List.length_drop, List.length_append] at hlen
  have hd : Utf8.decode s p = (c, (Utf8.encode (c : Int)).data.toList.length) := by
   rw [<- Lib.decodeL_drop, e, ztb hc]
  rw [zpq, if_pos (by omega), hd]
  have ih := zgk (s := s) (l := l) (p := p + (Utf8.encode (c : Int)).data.toList.length) (f := f) (fun x hx => h x (List.mem_cons_of_mem _ hx)) (by
   rw [<- List.drop_drop, e, List.drop_left]) (by simpa using hf)
  rw [ih, List.length_cons]; omega
theorem zkl : ∀ {l : List Nat}, (∀ c ∈ l, letB (c : Int) = true) -> l.length <= (fe l).length
 | [], _ => Nat.le_refl _
 | c :: l, h => by
  have hl := zmm (h c List.mem_cons_self)
  have ih := zkl (l := l) (fun x hx => h x (List.mem_cons_of_mem _ hx))
  have e2 : fe (c :: l) = (Utf8.encode (c : Int)).data.toList ++ fe l := rfl
  rw [e2, List.length_append, List.length_cons]; omega
theorem zfb {s : ByteArray} {l : List Nat} (h : ∀ c ∈ l, letB (c : Int) = true) (e : s.data.toList = fe l) : Lib.runeCount s = l.length :=
 zgk (s := s) (p := 0) h (by rw [List.drop_zero]; exact e) (by
  have h2 : s.data.toList.length = s.size := rfl
  have := zkl h
  rw [<- e] at this; omega)
theorem zgl {s : ByteArray} : ∀ {f p : Nat}, Lib.validD (s.data.toList.drop p) = true -> s.size <= p + f ->
  ∃ l : List Nat, ltF s f p = l.map (fun c : Nat => (c : Int)) /\ (∀ c ∈ l, letB (c : Int) = true) /\ s.data.toList.drop p = fe l
 | 0, p, _, hs => ⟨[], rfl, fun c hc => (by cases hc), (by
   have h2 : s.data.toList.length = s.size := rfl
   rw [List.drop_eq_nil_of_le (by omega)]; rfl)⟩
 | f + 1, p, hv, hs => by
  have h2 : s.data.toList.length = s.size := rfl
  by_cases hp : p < s.size
  ·have hne : s.data.toList.drop p ≠ [] := by
    intro e; have := congrArg List.length e; rw [List.length_drop] at this; simp only [List.length_nil] at this; omega
   rw [Lib.validD_step _ hne, Lib.decodeL_drop] at hv
   by_cases hb : (Utf8.decode s p).1 = 65533 /\ (Utf8.decode s p).2 = 1
   ·rw [if_pos hb] at hv; cases hv
   ·rw [if_neg hb] at hv
    have hne2 : ¬ Utf8.decode s p = (65533, 1) := fun e => hb (by rw [e]; exact ⟨rfl, rfl⟩)
    have er : yt s p = Utf8.decode s p := by unfold yt; rw [if_neg hne2]
    have hw := fs s p
    rw [List.drop_drop] at hv
    obtain ⟨l, e1, e2, e3⟩ := zgl (s := s) (f := f) (p := p + (Utf8.decode s p).2) hv (by omega)
    have hlet : letB ((Utf8.decode s p).1 : Int) = true := by
     have hd : Utf8.decode s p = Lib.decodeL (s.data.toList.drop p) := (Lib.decodeL_drop s p).symm
     have := Lib.decodeN_valid (s.data.toList.drop p).length ((s.data.toList.drop p).getD 0 0).toNat ((s.data.toList.drop p).getD 1 0).toNat ((s.data.toList.drop p).getD 2 0).toNat ((s.data.toList.drop p).getD 3 0).toNat (UInt8.toNat_lt _)
     rw [<- Lib.decodeL_N, <- hd] at this
     unfold letB
     simp only [Bool.and_eq_true, Bool.or_eq_true, decide_eq_true_eq]
     omega
    refine ⟨(Utf8.decode s p).1 :: l, ?_, ?_, ?_⟩
    ·unfold ltF
     rw [if_pos hp, er, show max 1 (Utf8.decode s p).2 = (Utf8.decode s p).2 by omega, e1]; rfl
    ·intro c hc
     rcases List.mem_cons.1 hc with rfl | hc
     ·exact hlet
     ·exact e2 c hc
    ·have e4 : fe ((Utf8.decode s p).1 :: l) = (Utf8.encode ((Utf8.decode s p).1 : Int)).data.toList ++ fe l := rfl
     rw [e4, <- e3]
     have h5 := Lib.encode_decode (s.data.toList.drop p) hne (by rw [Lib.decodeL_drop]; exact hb)
     rw [Lib.decodeL_drop] at h5
     have h6 : (Utf8.encode ((Utf8.decode s p).1 : Int)).data.toList = Lib.encodeRune ((Utf8.decode s p).1 : Int) := zdb1 hlet
     rw [h6, h5, <- List.drop_drop, List.take_append_drop]
  ·refine ⟨[], ?_, fun c hc => (by cases hc), ?_⟩
   ·unfold ltF; rw [if_neg hp]; rfl
   ·rw [List.drop_eq_nil_of_le (by omega)]; rfl
theorem ztc {d : Nat} (h : d < 36) : dgt (chr d) = d := by
 unfold dgt chr
 by_cases h1 : d < 10
 ·rw [if_pos h1, if_pos (by omega)]; omega
 ·rw [if_neg h1, if_neg (by omega), if_pos (by omega)]; omega
theorem zzd (radix : Nat) : ∀ {D : List Nat}, (∀ x ∈ D, x < 36) -> hv radix ((D.map chr).reverse) = val radix D
 | [], _ => rfl
 | d :: D, h => by
  rw [List.map_cons, List.reverse_cons, zrj, zzd radix (fun x hx => h x (by simp [hx])), ztc (h d (by simp)), qw, Nat.mul_comm]
  omega
def body (D : List Nat) : List Nat := if D = [] then [48] else (D.map chr).reverse
theorem zxa {radix : Nat} {D : List Nat} (h : Dg radix D) (hr : radix <= 36) : hv radix (body D) = val radix D := by
 unfold body
 by_cases hD : D = []
 ·subst hD; simp [hv, dgt, val]
 ·rw [if_neg hD]; exact zzd radix (fun x hx => by have := h x hx; omega)
theorem zfc {radix : Nat} {D : List Nat} (h : Dg radix D) (h2 : 2 <= radix) (hr : radix <= 36) : ∀ c ∈ body D, dgt c < radix := by
 unfold body
 by_cases hD : D = []
 ·subst hD
  intro c hc
  simp at hc
  subst hc
  simp [dgt]; omega
 ·rw [if_neg hD]
  intro c hc
  rw [List.mem_reverse] at hc
  obtain ⟨d, hd, rfl⟩ := List.mem_map.1 hc
  have := h d hd
  rw [ztc (by omega)]; exact this
theorem zan1 (D : List Nat) : body D ≠ [] := by
 unfold body
 by_cases hD : D = []
 ·simp [hD]
 ·simp [hD]
theorem zao1 {l : List Nat} {c : Nat} {r : List Nat} (h : l = c :: r) (hc : c = 43 \/ c = 45) : cutS l = (decide (c = 45), r) := by
 subst h; simp [cutS, hc]
theorem ztd {radix : Nat} {l : List Nat} (h : ∀ c ∈ l, dgt c < radix) (hr : radix <= 36) : cutS l = (false, l) := by
 cases l with
 | nil => rfl
 | cons c r =>
  have hc := h c (by simp)
  have : ¬ (c = 43 \/ c = 45) := by
   rintro (rfl | rfl) <;> simp [dgt] at hc <;> omega
  simp [cutS, this]
theorem zpr {neg : Bool} {l : List Nat} (hd : Dg B32 l) (hg : qa neg l = true) : ¬ Big (val B32 l) := by
 unfold Big
 have h1 := zau hd
 have h2 : B32 ^ l.length <= B32 ^ 40 := Nat.pow_le_pow_right (by decide) (zdt hg)
 omega
theorem zxb {v : Nat} (h : digs v v = []) : v = 0 := by
 have := (fx v v (Nat.le_refl _)).2.2.2
 exact Classical.byContradiction (fun e => this e h)
theorem zmn (neg : Bool) (v : Nat) (hn : neg = true -> v ≠ 0) : j7 neg v = (if neg then [45] else []) ++ body (digs v v) := by
 unfold j7 body
 by_cases e : digs v v = []
 ·rw [if_pos e, if_pos e]
  cases neg
  ·rfl
  ·exact absurd (zxb e) (hn rfl)
 ·rw [if_neg e, if_neg e]
theorem zps (neg : Bool) (v : Nat) (hn : neg = true -> v ≠ 0) : cutS (j7 neg v) = (neg, body (digs v v)) := by
 have hd := (fx v v (Nat.le_refl _)).1
 rw [zmn neg v hn]
 cases neg
 ·exact ztd (radix := 10) (zfc hd (by omega) (by omega)) (by omega)
 ·exact zao1 (c := 45) rfl (.inr rfl)
theorem zte (neg : Bool) (v : Nat) : ∀ x ∈ j7 neg v, x < 256 := by
 have hd := (fx v v (Nat.le_refl _)).1
 intro x hx
 unfold j7 at hx
 split at hx
 ·rw [List.mem_singleton.1 hx]; omega
 ·rcases List.mem_append.1 hx with hx | hx
  ·cases neg
   ·cases hx
   ·rw [List.mem_singleton.1 hx]; omega
  ·rw [List.mem_reverse] at hx
   obtain ⟨d, hd', rfl⟩ := List.mem_map.1 hx
   exact zrl (Nat.lt_of_lt_of_le (hd d hd') (by omega))
theorem zgm {neg : Bool} {v : Nat} (hn : neg = true -> v ≠ 0) (hv40 : v < B32 ^ 40) : zz (yn (j7 neg v)) = true := by
 obtain ⟨hd, ht, hval, _⟩ := fx v v (Nat.le_refl _)
 have h10 : ∀ c ∈ body (digs v v), dgt c < 10 := zfc hd (by omega) (by omega)
 have hbv : hv 10 (body (digs v v)) = v := by rw [zxa hd (by omega), hval]
 unfold zz
 rw [zki (zte neg v), zps neg v hn]
 simp only
 rw [hbv]
 have e1 : jl 10 (body (digs v v)) = true := by
  have := zal (rx := 10) (l := body (digs v v)) (List.length_pos_iff.2 (zan1 _)) (fun j hj => h10 _ (by
   rw [List.getD_eq_getElem?_getD, List.getElem?_eq_getElem hj]; exact List.getElem_mem hj))
  exact this
 have e2 : (neg && decide (v ≠ 0)) = neg := by
  cases neg
  ·rfl
  ·rw [decide_eq_true (hn rfl)]; rfl
 rw [e1, e2, decide_eq_true hv40, decide_eq_true rfl]; rfl
theorem ztf {x : Int} (h : nK x ≠ 0) : zk (nK x) (nN x) (ofR x).2.2 = true := by
 unfold nK nN at *
 unfold ofR at *
 split
 ·assumption
 ·rename_i hr
  rw [if_neg hr] at h
  exact absurd rfl h
theorem ztg {x : Int} (h : nK x = 4) : letB (nN x) = true := by
 have := ztf (x := x) (by omega)
 rw [h] at this
 have e : ltrB (nN x) = true := by
  unfold zk at this
  simp only [show ¬ ((4 : Int) = 1) by decide, show ¬ ((4 : Int) = 2) by decide, show ¬ ((4 : Int) = 3) by decide, if_false, if_true, Bool.and_eq_true] at this
  exact this.2
 exact e
theorem zth {x : Int} (h : nK x = 1) : fixB (nN x) = true := by
 have := ztf (x := x) (by omega)
 rw [h] at this
 exact this
theorem zdc1 {z : Int} (h : fixB z = true) : z.natAbs < B32 ^ 40 := by
 unfold fixB at h
 rw [Bool.and_eq_true, decide_eq_true_eq, decide_eq_true_eq] at h
 have h1 : z.natAbs < B32 ^ 2 := by
  have : B32 ^ 2 = 18446744073709551616 := by decide
  omega
 exact Nat.lt_of_lt_of_le h1 (Nat.pow_le_pow_right (by decide) (by omega))
theorem zdd1 {z : Int} : decide (z < 0) = true -> z.natAbs ≠ 0 := fun h => by have := of_decide_eq_true h; omega
theorem ve {d : Nd} (h1 : 1 <= d.kind /\ d.kind <= 17) (h2 : numB d.kind d.num = true) (h3 : j8 d.kind d.text = true) (h4 : qg d.kind d.kids.length = true) : okD d = true := by
 unfold okD
 rw [decide_eq_true h1.1, decide_eq_true h1.2, h2, h3, h4]; rfl
theorem xp : okD yj = true := ve (by unfold yj; simp) rfl rfl rfl
theorem zcv {k : Int} (h : k = 1 \/ k = 10 \/ k = 12 \/ k = 14 \/ k = 17) : okD ⟨k, 0, ByteArray.empty, []⟩ = true := by
 rcases h with rfl | rfl | rfl | rfl | rfl <;> exact ve (by simp) rfl (by first | rfl | decide) rfl
theorem zti {f : List Int} (h : f.all lrB = true) : ∃ l : List Nat, l.length = f.length /\ (∀ c ∈ l, letB (c : Int) = true) /\ (yn (lrT f)).data.toList = fe l := by
 have hall : ∀ x ∈ f, letB (nN x) = true := fun x hx => ztg (by
  have := List.all_eq_true.1 h x hx
  unfold lrB at this
  exact of_decide_eq_true this)
 have hnn : ∀ x ∈ f, ((nN x).toNat : Int) = nN x := fun x hx => by
  have := hall x hx
  unfold letB at this
  simp only [Bool.and_eq_true, decide_eq_true_eq] at this
  omega
 refine ⟨f.map (fun x => (nN x).toNat), by rw [List.length_map], fun c hc => ?_, ?_⟩
 ·obtain ⟨x, hx, rfl⟩ := List.mem_map.1 hc
  rw [hnn x hx]; exact hall x hx
 ·have e1 : bs (yn (lrT f)) = lrT f := zki (fun y hy => by
   unfold lrT at hy
   obtain ⟨x, _, hx⟩ := List.mem_flatMap.1 hy
   exact zah1 _ y hx)
  have e2 : (fe (f.map (fun x => (nN x).toNat))).map UInt8.toNat = lrT f := by
   unfold fe lrT bs
   rw [List.flatMap_map, List.map_flatMap]
   rw [List.flatMap_def, List.flatMap_def]
   refine congrArg List.flatten (List.map_congr_left (fun x hx => ?_))
   show ((Utf8.encode (((nN x).toNat : Nat) : Int)).data.toList).map UInt8.toNat = ((Utf8.encode (nN x)).data.toList).map UInt8.toNat
   rw [hnn x hx]
  have e3 : (yn (lrT f)).data.toList.map UInt8.toNat = (fe (f.map (fun x => (nN x).toNat))).map UInt8.toNat := e1.trans e2.symm
  exact List.map_inj_right (fun a b e => UInt8.toNat_inj.1 e) |>.1 e3
theorem zhx (os : List Ob) (nm : List ByteArray) (x : Int) : okD (qd os nm x) = true := by
 have hsym : ∀ y, symB nm y = true -> j8 6 (symT nm y) = true := fun y h => by
  unfold symB at h
  rw [Bool.and_eq_true, Bool.and_eq_true] at h
  exact h.2.2
 unfold qd
 split
 ·rename_i k hk
  generalize (os.getD k default).kind = kd
  generalize (os.getD k default).f = f
  by_cases k1 : kd = 1
  ·subst k1
   rw [zcw1]
   split
   ·rename_i h; exact ve (by simp) rfl rfl (by show qg 7 f.length = true; rw [zan _ (.inl rfl)]; exact decide_eq_true h)
   ·exact xp
  by_cases k2 : kd = 2
  ·subst k2
   rw [zcx1]
   split
   ·rename_i h; exact ve (by simp) rfl rfl (by show qg 8 f.length = true; rw [zho]; exact decide_eq_true h)
   ·exact xp
  by_cases k3 : kd = 3
  ·subst k3
   rw [zcy1]
   split
   ·rename_i h
    rw [Bool.and_eq_true, decide_eq_true_eq] at h
    obtain ⟨l, hl, hlet, hsp⟩ := zti h.1
    refine ve (by simp) rfl ?_ rfl
    show j8 5 (yn (lrT f)) = true
    rw [zhs, hsp, zfa hlet, zfb hlet hsp, hl, decide_eq_true h.2]; rfl
   ·exact xp
  by_cases k4 : kd = 4
  ·subst k4
   rw [zcz1]
   split
   ·rename_i h
    rw [Bool.and_eq_true, decide_eq_true_eq] at h
    refine ve (by simp) rfl ?_ rfl
    show j8 9 (yn (byT f)) = true
    rw [zma]
    have : (yn (byT f)).size = f.length := by
     show ((byT f).map UInt8.ofNat).toArray.size = f.length
     simp [byT]
    rw [this]; exact decide_eq_true h.2
   ·exact xp
  by_cases k5 : kd = 5
  ·subst k5
   rw [zda1]
   split
   ·rename_i h
    refine ve (by simp) rfl ?_ rfl
    show j8 3 _ = true
    rw [zhr]
    unfold bigB at h
    simp only [Bool.and_eq_true] at h
    obtain ⟨h1, h2, h3, h4, h5⟩ := h
    have hdg : Dg B32 (qt f) := fun y hy => by
     unfold qt at hy
     obtain ⟨z, hz, rfl⟩ := List.mem_map.1 hy
     have := List.all_eq_true.1 h2 z (List.mem_of_mem_drop hz)
     unfold xo at this
     simp only [Bool.and_eq_true, decide_eq_true_eq] at this
     show (nN z).toNat < B32
     unfold B32; omega
    have hb := zpr hdg h4
    refine zgm (fun hn => ?_) (by unfold Big at hb; omega)
    have h0 : qt f ≠ [] := fun e => by have := zix h4 (by rw [e]; rfl); rw [hn] at this; cases this
    exact (xh h4).ne_zero (B := B32) (by decide) h0
   ·exact xp
  by_cases k12 : kd = 12
  ·subst k12
   rw [zai1]
   split
   ·rename_i h
    unfold zkk at h
    simp only [Bool.and_eq_true, decide_eq_true_eq] at h
    refine ve (by simp) ?_ rfl ?_
    ·show numB 13 _ = true
     rw [zlx, decide_eq_true h.2.2.1, decide_eq_true h.2.2.2]; rfl
    ·show qg 13 (f.drop 1).length = true
     rw [zan _ (.inr rfl), List.length_drop, h.1]; rfl
   ·exact xp
  by_cases k14 : kd = 14
  ·subst k14
   rw [zaj1]
   split
   ·rename_i h
    refine ve (by simp) rfl ?_ (zao _ (.inl rfl))
    show j8 15 (recT os nm (f.getD 0 0)) = true
    rw [Bool.and_eq_true] at h
    have h2 := h.2
    unfold recB at h2
    unfold recT
    split at h2
    ·rename_i k' hk'
     rw [Bool.and_eq_true, Bool.and_eq_true] at h2
     have := h2.2.2
     unfold namB at this
     rw [Bool.and_eq_true, Bool.and_eq_true] at this
     exact this.2.2
    ·cases h2
   ·exact xp
  rw [zzc k1 k2 k3 k4 k5 k12 k14]
  split
  ·exact zcv (by omega)
  split
  ·exact zcv (by omega)
  split
  ·exact ve (by simp) rfl rfl (zao _ (.inr rfl))
  split
  ·exact ve (by simp) rfl (by show j8 15 zml = true; rw [zbg _ (.inr rfl)]; decide) rfl
  split
  ·exact ve (by simp) rfl (by show j8 15 zta = true; rw [zbg _ (.inr rfl)]; decide) rfl
  split
  ·exact zcv (by omega)
  ·exact xp
 ·unfold xj
  split
  ·rename_i h
   refine ve (by simp) rfl ?_ rfl
   show j8 3 _ = true
   rw [zhr]
   exact zgm zdd1 (zdc1 (zth h))
  split
  ·split
   ·exact zcv (by omega)
   split
   ·rename_i h
    refine ve (by simp) ?_ rfl rfl
    show numB 2 (nN x - 1) = true
    rw [znn]
    rcases h with h | h <;> rw [h] <;> rfl
   split
   ·exact zcv (by omega)
   ·exact xp
  split
  ·rename_i h
   refine ve (by simp) ?_ rfl rfl
   show numB 4 (nN x) = true
   rw [zno]; exact ztg h
  split
  ·rename_i h
   exact ve (by simp) rfl (hsym x h) rfl
  split
  ·exact zcv (by omega)
  ·exact xp
end Go.Proofs.YtadfihnffboelaaGreatDoor
