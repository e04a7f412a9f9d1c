import Derived.Test.YtadfihnffboelaaGreatDoorV4
import Derived.Deep.AppendLies
import Derived.Test.YtadfihnffboelaaGreatDoorX1
import Derived.Test.YtadfihnffboelaaGreatDoorV1
import Derived.Test.YtadfihnffboelaaGreatDoorW13
import Derived.Test.YtadfihnffboelaaGreatDoorW7
import Derived.Laws.Bits128
set_option linter.unusedVariables false
set_option linter.unusedSimpArgs false
set_option maxRecDepth 100000
namespace Go.Proofs.YtadfihnffboelaaGreatDoor
open Go.RowKit
def iz (l : List Int) : List Value := l.map (Value.int .i64)
theorem zsa (l : List Int) : (iz l).length = l.length := by simp [iz]
theorem zsb (l r : List Int) : iz (l ++ r) = iz l ++ iz r := by simp [iz]
theorem zhd : (Tryz.prog.info? 3).map (fun i => (i.zero, i.size, i.bytes)) = some (some (.int .i64 0), 1, 8) := by kernel_rfl
theorem appi {P : Program} {w : World} {ops : Array Oper} {rest : List Oper} {o : Oper} {a : Act} {Q : Exit -> Act -> World -> Prop} (hgd : o.guard = none) (s x : Operand) (t : TypeId) (ho : o.op = .call { callee := .builtin .append, args := #[s, x], argTypes := #[t, t] })
  (base : Nat) (e : TypeId) (ht : P.underlying t = some (.slice e)) (hi : (P.info? e).map (fun i => (i.zero, i.size, i.bytes)) = some (some (.int .i64 0), 1, 8))
  (v : Value) (n : Nat) (l : List Int) (hs : a.eval s = v) (hown : w.ownsRow base e 1 v n (iz l))
  (ad : Addr) (c : Nat) (d : Int) (hx : a.eval x = .slice (some ad) 1 c) (hd : w.cell? ad = some (.int .i64 d)) (hsm : n <= 10000000) (hbase : base <= w.heap.size)
  (h : ∀ g cap w', w'.ownsRow base e 1 (.slice (some ⟨g, 0, none⟩) (n + 1) cap) (n + 1) (iz (l ++ [d])) -> w.grownBy w' v.ownBlock -> (v.ownBlock = some g \/ g = w.heap.size) -> g < w'.heap.size -> wpList P ops Q rest (a.put o.dst (.slice (some ⟨g, 0, none⟩) (n + 1) cap)) w') :
  wpList P ops Q (o :: rest) a w := by
 obtain ⟨i0, hi0, hz0, hz1, hz2⟩ : ∃ i0, P.info? e = some i0 /\ i0.zero = some (.int .i64 0) /\ i0.size = 1 /\ i0.bytes = 8 := by
  cases h : P.info? e with
  | none => rw [h] at hi; cases hi
  | some i => rw [h] at hi; simp at hi; exact ⟨i, rfl, hi.1, hi.2.1, hi.2.2⟩
 refine wpList_append_lies w hgd s x t ho base e i0 (.int .i64 0) 1 8 ht hi0 hz0 hz1 hz2 rfl (by decide) v n (iz l) hs hown ad 1 c [.int .i64 d] hx rfl ?_ ?_ (by decide) (by unfold maxLen; omega) (by omega) hbase w.heap.size rfl ?_
 ·intro j u hj
  match j, hj with
  | 0, hj => simp at hj; subst hj; simpa [Addr.add] using hd
 ·intro u hu; simp at hu; subst hu; rfl
 ·intro g cap w' h1 h2 h3 h4
  refine h g cap w' ?_ h2 h3 h4
  rw [zsb]; exact h1
theorem qn (k n : Int) (hk : Z64 k) (hn : Z64 n) (w : World) : Calls Tryz.prog 80 #[.int .i64 k, .int .i64 n] w fun e w' => e = .returned (.int .u64 (zj k n 0)) /\ Below w.heap.size w w' := by
 have C := hid (zef k n 0 hk hn (by unfold Z64; omega) w)
 unfold SVal at C
 obtain ⟨x, hx⟩ : ∃ x, x = zj k n 0 := ⟨_, rfl⟩
 obtain ⟨b, hb⟩ : ∃ x, x = zk k n 0 := ⟨_, rfl⟩
 rw [<- hx, <- hb] at C
 rw [<- hx]
 clear hx hb
 go_enter Tryz.func80, Tryz.ntmps80
 go_wp2_with (go_at_call 81; (with_reducible refine C.out.mono ?_); rintro e W1 ⟨rfl, b1⟩)
 go_ret
 exact ⟨rfl, b1⟩
def ltF (s : ByteArray) : Nat -> Nat -> List Int
 | 0, _ => []
 | f + 1, i => if i < s.size then ((yt s i).1 : Int) :: ltF s f (i + max 1 (yt s i).2) else []
def ltrs (s : ByteArray) : List Int := ltF s s.size 0
theorem zsc (s : ByteArray) : ∀ f i, (ltF s f i).length <= f
 | 0, _ => Nat.le_refl _
 | f + 1, i => by
  unfold ltF
  split
  ·have := zsc s f (i + max 1 (yt s i).2); simp; omega
  ·simp
theorem zbz (s : ByteArray) : (ltrs s).length <= s.size := zsc s _ _
set_option maxHeartbeats 4000000 in
theorem zej (s : ByteArray) (hs : s.size <= 1000000) (w : World) : Calls Tryz.prog 79 #[.string s] w fun e w' => ∃ v, e = .returned v /\ w'.ownsRow w.heap.size 3 1 v (ltrs s).length (iz (ltrs s)) /\ Below w.heap.size w w' := by
 go_enter Tryz.func79, Tryz.ntmps79
 go_wp2_with fail
 go_loopw [3, 4] (fun v i wr => ∃ p : Nat, i = .int .i64 p /\ p <= s.size + 4 /\ Hid (∃ ls f, wr.ownsRow w.heap.size 3 1 v ls.length (iz ls) /\ Below w.heap.size w wr /\ ltrs s = ls ++ ltF s f p /\ (s.size - p <= f) /\ ls.length <= p)) (fun _ i _ => s.size + 5 - (intOf i).toNat)
 case atStart => exact ⟨0, rfl, by omega, [], s.size, World.ownsRow_nil _ _ _ _, Below.refl _ _, rfl, by omega, by simp⟩
 case round =>
  obtain ⟨p, rfl, hp, hI⟩ := hrel
  obtain ⟨ls, f, ho, hb, hl, hf, hlp⟩ := hI.out
  have HO := hid ho
  have HB := hid hb
  have HL := hid hl
  clear hI ho hb hl
  by_cases hlt : p < s.size
  ·have C := hid (znb s p wr hlt hs)
   unfold yl at C
   have hd := fs s p
   have hk4 : (yt s p).2 <= 4 := by
    unfold yt
    split
    ·exact Nat.zero_le _
    ·exact hd.2
   have HLT : Hid (ltF s f p = ((yt s p).1 : Int) :: ltF s (f - 1) (p + max 1 (yt s p).2)) := by
    unfold Hid
    obtain ⟨g, rfl⟩ : ∃ g, f = g + 1 := ⟨f - 1, by omega⟩
    rw [ltF, if_pos hlt]; rfl
   obtain ⟨⟨c, k⟩, hck⟩ : ∃ x, x = yt s p := ⟨_, rfl⟩
   rw [<- hck] at C hk4 HLT
   simp only at C hk4 HLT
   obtain ⟨n, hn⟩ : ∃ n, n = ls.length := ⟨_, rfl⟩
   rw [<- hn] at HO hlp
   have HN := hid hn
   clear hck hd hn
   have arm : Hid (∀ wq : World, Below w.heap.size w wq -> wq.heap.size = wr.heap.size -> wq.ownsRow w.heap.size 3 1 u3 n (iz ls) -> (wq.alloc (.cells #[.int .i64 (c : Nat)] 3)).ownsRow w.heap.size 3 1 u3 n (iz ls) /\ (wq.alloc (.cells #[.int .i64 (c : Nat)] 3)).cell? ⟨wq.heap.size, 0, none⟩ = some (.int .i64 (c : Nat)) /\ w.heap.size <= (wq.alloc (.cells #[.int .i64 (c : Nat)] 3)).heap.size) := fun wq hb hsz h => ⟨ja h (fun b e => (Ba wq _).block b (h.lt b e).2), za (zd wq #[.int .i64 (c : Nat)] 3) 0, by have := hb.size; rw [zb]; omega⟩
   by_cases hk : k = 0
   ·subst hk
    go_wp2_with (first
     | (go_at_call 127; (with_reducible refine C.out.mono ?_); rintro e W1 ⟨rfl, kd, hw1⟩; have b1 : Below wr.heap.size wr W1 := (by rw [hw1]; exact Bd wr kd); have HB1 := hid (Bt HB.out b1); have HO1 := hid (ja HO.out (fun b e => b1.block b (HO.out.lt b e).2)); obtain ⟨a1, a2, a3⟩ := arm.out W1 HB1.out (by rw [hw1]; rfl) HO1.out; have A1 := hid a1; have A2 := hid a2; have A3 := hid a3; have HBA := hid (Bt HB1.out (Ba W1 (.cells #[.int .i64 (c : Nat)] 3))); clear b1 hw1 a1 a2 a3)
     | (at_builtin; refine appi rfl _ _ 39 rfl w.heap.size 3 Tryz.underlying39 zhd _ n ls rfl A1.out ⟨W1.heap.size, 0, none⟩ 1 (c : Nat) rfl A2.out (by omega) A3.out ?_; intro g cap w3 ho3 hg3 hl3 hlt3))
    have HE : Hid (Below w.heap.size w w3) := HBA.out.grown hg3 A3.out (fun b hb => (A1.out.lt b hb).1)
    refine ⟨⟨p + 1, by go_num, by omega, ls ++ [(c : Int)], f - 1, ?_, HE.out, ?_, by omega, by rw [List.length_append, <- HN.out]; simp; omega⟩, by simp [intOf] <;> omega⟩
    ·rw [List.length_append, <- HN.out]; exact ho3
    ·rw [HL.out, HLT.out, List.append_assoc]; rfl
   ·have hk1 : 1 <= k := by omega
    have ek : ((k : Int) == 0) = false := by simp; omega
    have hmx : Hid (max 1 k = k) := Nat.max_eq_right hk1
    rw [hmx.out] at HLT
    clear hk
    go_wp2_with (first
     | (go_at_call 127; (with_reducible refine C.out.mono ?_); rintro e W1 ⟨rfl, kd, hw1⟩; have b1 : Below wr.heap.size wr W1 := (by rw [hw1]; exact Bd wr kd); have HB1 := hid (Bt HB.out b1); have HO1 := hid (ja HO.out (fun b e => b1.block b (HO.out.lt b e).2)); obtain ⟨a1, a2, a3⟩ := arm.out W1 HB1.out (by rw [hw1]; rfl) HO1.out; have A1 := hid a1; have A2 := hid a2; have A3 := hid a3; have HBA := hid (Bt HB1.out (Ba W1 (.cells #[.int .i64 (c : Nat)] 3))); clear b1 hw1 a1 a2 a3)
     | (at_builtin; refine appi rfl _ _ 39 rfl w.heap.size 3 Tryz.underlying39 zhd _ n ls rfl A1.out ⟨W1.heap.size, 0, none⟩ 1 (c : Nat) rfl A2.out (by omega) A3.out ?_; intro g cap w3 ho3 hg3 hl3 hlt3))
    have HE : Hid (Below w.heap.size w w3) := HBA.out.grown hg3 A3.out (fun b hb => (A1.out.lt b hb).1)
    refine ⟨⟨p + k, by go_num, by omega, ls ++ [(c : Int)], f - 1, ?_, HE.out, ?_, by omega, by rw [List.length_append, <- HN.out]; simp; omega⟩, by simp [intOf] <;> omega⟩
    ·rw [List.length_append, <- HN.out]; exact ho3
    ·rw [HL.out, HLT.out, List.append_assoc]; rfl
  ·go_wp2_with fail
   go_ret
   have he : ltF s f p = [] := by
    cases f with
    | zero => rfl
    | succ f => rw [ltF, if_neg hlt]
   have hl := HL.out
   rw [he, List.append_nil] at hl
   rw [hl]
   exact ⟨_, rfl, HO.out, HB.out⟩
theorem zak (t : Nat) (h : t < 9223372036854775808) : bits .and .i64 (t : Int) 255 = ((t % 256 : Nat) : Int) := by
 have h1 : (BitVec.ofInt 64 (t : Int)).toNat = t := by
  rw [BitVec.ofInt_natCast, BitVec.toNat_ofNat]; exact Nat.mod_eq_of_lt (by omega)
 show IntKind.i64.wrap ((BitVec.ofInt 64 (t : Int) &&& BitVec.ofInt 64 255).toNat : Int) = _
 rw [BitVec.toNat_and, h1]
 have h2 : (BitVec.ofInt 64 255).toNat = 2 ^ 8 - 1 := by decide
 rw [h2, Nat.and_two_pow_sub_one_eq_mod, IntKind.wrap_i64]
 omega
def dgi (c : Nat) : Int := if dgt c = 36 then -1 else (dgt c : Int)
set_option maxHeartbeats 800000 in
theorem vm (c : Nat) (hc : c < 256) (w : World) :
  Calls Tryz.prog 124 #[.int .u8 c] w fun e w' => e = .returned (.int .i64 (dgi c)) /\ w' = w := by
 by_cases a1 : 48 <= c /\ c <= 57
 ·obtain ⟨a, b⟩ := a1
  have HV : Hid (dgi c = (c : Int) - 48) := by
   have : dgt c = c - 48 := by unfold dgt; rw [if_pos ⟨a, b⟩]
   unfold Hid dgi; rw [this, if_neg (by omega)]; omega
  go_enter Tryz.func124, Tryz.ntmps124
  go_wp2
  go_ret
  exact ⟨fj (by rw [HV.out] <;> omega), rfl⟩
 ·by_cases a2 : 97 <= c /\ c <= 122
  ·obtain ⟨a, b⟩ := a2
   have HV : Hid (dgi c = (c : Int) - 87) := by
    have : dgt c = c - 87 := by unfold dgt; rw [if_neg a1, if_pos ⟨a, b⟩]
    unfold Hid dgi; rw [this, if_neg (by omega)]; omega
   clear a1
   go_enter Tryz.func124, Tryz.ntmps124
   go_wp2
   go_ret
   exact ⟨fj (by rw [HV.out] <;> omega), rfl⟩
  ·by_cases a3 : 65 <= c /\ c <= 90
   ·obtain ⟨a, b⟩ := a3
    have HV : Hid (dgi c = (c : Int) - 55) := by
     have : dgt c = c - 55 := by unfold dgt; rw [if_neg a1, if_neg a2, if_pos ⟨a, b⟩]
     unfold Hid dgi; rw [this, if_neg (by omega)]; omega
    clear a1 a2
    go_enter Tryz.func124, Tryz.ntmps124
    go_wp2
    go_ret
    exact ⟨fj (by rw [HV.out] <;> omega), rfl⟩
   ·have HV : Hid (dgi c = -1) := by
     have : dgt c = 36 := by unfold dgt; rw [if_neg a1, if_neg a2, if_neg a3]
     unfold Hid dgi; rw [this, if_pos rfl]
    have hr : c < 48 \/ (57 < c /\ c < 65) \/ (90 < c /\ c < 97) \/ 122 < c := by omega
    clear a1 a2 a3
    rcases hr with h | ⟨h, h'⟩ | ⟨h, h'⟩ | h
    all_goals
     go_enter Tryz.func124, Tryz.ntmps124
     go_wp2
     go_ret
     exact ⟨fj (by rw [HV.out]), rfl⟩
theorem zsd {l : List Nat} {c : Nat} {r : List Nat} (h : l = c :: r) (hc : c = 43 \/ c = 45) : cutS l = (decide (c = 45), r) := by
 subst h; simp [cutS, hc]
theorem zoy {l : List Nat} {c : Nat} {r : List Nat} (h : l = c :: r) (hc : ¬ (c = 43 \/ c = 45)) : cutS l = (false, c :: r) := by
 subst h; simp [cutS, hc]
theorem zal {rx : Nat} {l : List Nat} (h0 : 0 < l.length) (h : ∀ j, j < l.length -> dgt (l.getD j 0) < rx) : jl (rx : Int) l = true := by
 unfold jl
 rw [Bool.and_eq_true]
 refine ⟨?_, by simp; intro e; rw [e] at h0; simp at h0⟩
 rw [List.all_eq_true]
 intro x hx
 obtain ⟨j, hj, rfl⟩ := List.mem_iff_getElem.1 hx
 have := h j hj
 rw [List.getD_eq_getElem?_getD, List.getElem?_eq_getElem hj] at this
 simpa using this
theorem zbd {rx : Nat} {l : List Nat} {j : Nat} (hj : j < l.length) (h : rx <= dgt (l.getD j 0)) : jl (rx : Int) l = false := by
 unfold jl
 rw [Bool.and_eq_false_iff]
 left
 rw [List.all_eq_false]
 exact ⟨l.getD j 0, zdj hj, by simp; rw [<- List.getD_eq_getElem?_getD]; omega⟩
theorem zek {rx : Int} : jl rx [] = false := by simp [jl]
theorem qc (l : List Nat) (a j : Nat) : (l.drop a).getD j 0 = l.getD (a + j) 0 := by
 rw [List.getD_eq_getElem?_getD, List.getElem?_drop, <- List.getD_eq_getElem?_getD]
end Go.Proofs.YtadfihnffboelaaGreatDoor
