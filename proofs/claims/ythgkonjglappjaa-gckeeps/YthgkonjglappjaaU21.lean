/-
  Walks: what hangs on words (shape).
-/
import Derived.Test.YthgkonjglappjaaU20
set_option linter.unusedVariables false
set_option linter.unusedSimpArgs false
set_option maxRecDepth 100000
namespace Go.Proofs.Ythgkonjglappjaa
open Go.RowKit

def OutU (l : List Int) : Prop := ∀ z ∈ l, U64 z
theorem tell_u {os : List Ob} {st : List Int × List Int} {z : Int} (h : OutU st.1) (hz : U64 z) (hq : st.2.length ≤ 4000) : OutU (tellS os st z).1 := by
  have h2 : ∀ n : Nat, n ≤ 4000 → OutU (st.1 ++ [(2 : Int), (n : Int)]) := fun n hn y hy => by
    rcases List.mem_append.1 hy with hy | hy
    · exact h y hy
    · simp at hy
      rcases hy with rfl | rfl <;> (unfold U64; omega)
  unfold tellS
  cases findM os z with
  | none =>
    intro y hy
    rcases List.mem_append.1 hy with hy | hy
    · exact h y hy
    · simp at hy
      rcases hy with rfl | rfl
      · unfold U64; omega
      · exact hz
  | some k =>
    simp only
    split
    · exact h2 _ (Nat.le_trans List.idxOf_le_length hq)
    · exact h2 _ hq
/-- The state behind some words. -/
def tellN (os : List Ob) (st : List Int × List Int) (l : List Int) (r : Nat) : List Int × List Int := (l.take r).foldl (tellS os) st
theorem tellN_zero (os : List Ob) (st : List Int × List Int) (l : List Int) : tellN os st l 0 = st := by simp [tellN]
theorem tellN_succ (os : List Ob) (st : List Int × List Int) {l : List Int} {r : Nat} (h : r < l.length) : tellN os st l (r + 1) = tellS os (tellN os st l r) (l.getD r 0) := by
  unfold tellN
  rw [List.take_succ_eq_append_getElem h, List.foldl_append, List.getD_eq_getElem?_getD, List.getElem?_eq_getElem h]; rfl
theorem tellN_all (os : List Ob) (st : List Int × List Int) (l : List Int) : tellN os st l l.length = l.foldl (tellS os) st := by simp [tellN]
/-- All that a state is good for. -/
structure StOk (os : List Ob) (st : List Int × List Int) (n : Nat) : Prop where
  q : QOk os st.2
  u : OutU st.1
  len : st.1.length ≤ n
theorem StOk.tell {os : List Ob} {st : List Int × List Int} {n : Nat} {z : Int} (hus : usedL os ≤ 4000) (h : StOk os st n) (hz : U64 z) : StOk os (tellS os st z) (n + 2) :=
  ⟨tell_ok h.q hz, tell_u h.u hz (Nat.le_trans h.q.len (Nat.le_trans (len_le_used os) hus)), by rw [tell_len.1]; have := h.len; omega⟩
theorem StOk.tells {os : List Ob} {st : List Int × List Int} {n : Nat} {l : List Int} (hus : usedL os ≤ 4000) (h : StOk os st n) (hl : ∀ z ∈ l, U64 z) : ∀ r, r ≤ l.length → StOk os (tellN os st l r) (n + 2 * r)
  | 0, _ => by rw [tellN_zero]; exact h
  | r + 1, hr => by
    rw [tellN_succ os st (by omega)]
    have := (StOk.tells hus h hl r (by omega)).tell hus (hl _ (getD_in_f (i := r) (by omega)))
    exact ⟨this.q, this.u, by have := this.len; omega⟩
theorem tellN_len (os : List Ob) (st : List Int × List Int) (l : List Int) : ∀ r, r ≤ l.length → st.2.length ≤ (tellN os st l r).2.length
  | 0, _ => by rw [tellN_zero]; exact Nat.le_refl _
  | r + 1, h => by
    rw [tellN_succ os st (by omega)]
    exact Nat.le_trans (tellN_len os st l r (by omega)) tell_len.2
theorem StOk.obj {os : List Ob} {st : List Int × List Int} {n : Nat} {k f : Int} (h : StOk os st n) (hk : U64 k) (hf : U64 f) : StOk os (st.1 ++ [(3 : Int), k, f], st.2) (n + 3) := by
  refine ⟨h.q, fun z hz => ?_, by have := h.len; simp; omega⟩
  rcases List.mem_append.1 hz with hz | hz
  · exact h.u z hz
  · simp at hz
    rcases hz with rfl | rfl | rfl
    · unfold U64; omega
    · exact hk
    · exact hf
theorem objS_is {os : List Ob} {st : List Int × List Int} {p : Int} {j : Nat} (h : findM os p = some j) : objS os st p = tellN os (st.1 ++ [(3 : Int), (os.getD j default).kind, (((os.getD j default).f.length : Nat) : Int)], st.2) (os.getD j default).f (os.getD j default).f.length := by
  unfold objS; rw [h, tellN_all]
theorem get_zero {os : List Ob} {p : Int} {j i : Nat} (h : findM os p = some j) (hi : i < (os.getD j default).f.length) : getM os p 0 (i : Int) = ((os.getD j default).f.getD i 0, 0) := by
  have e : fieldM os p 0 (i : Int) = ((j : Int), 0) := by
    unfold fieldM; rw [h]
    simp only
    rw [if_neg (fun e => e.1 rfl), if_neg (by omega)]
  unfold getM; rw [e]; rfl
theorem al_step {w W : World} {ob : Obj} (h : W = w.alloc ob) : W.heap.size = w.heap.size + 1 ∧ W.heap[w.heap.size]? = some ob ∧ Below w.heap.size w W := by
  subst h; exact ⟨size_alloc _ _, heap_alloc_new w _, Ba _ _⟩
theorem sm_made {w W1 W2 W3 W4 W5 : World} {v : Value} (h1 : W1 = w.alloc (.cells #[v] 25)) (h2 : W2 = W1.alloc (.cells #[.slice none 0 0] 27)) (h3 : W3 = W2.alloc (.map #[] 0)) (h4 : W4 = W3.alloc (.cells #[.map (some (w.heap.size + 2))] 82)) (h5 : W5 = W4.alloc (.cells #[.slice none 0 0] 27)) :
    SM w.heap.size w v (.slice none 0 0) (.slice none 0 0) [] [] [] W5 := by
  obtain ⟨s1, n1, b1⟩ := al_step h1
  obtain ⟨s2, n2, b2⟩ := al_step h2
  obtain ⟨s3, n3, b3⟩ := al_step h3
  obtain ⟨s4, n4, b4⟩ := al_step h4
  obtain ⟨s5, n5, b5⟩ := al_step h5
  have hm : MapQ W3 (w.heap.size + 2) [] := by
    have := MapQ.made W2
    rw [← h3, s2, s1] at this
    exact this
  rw [s1] at n2
  rw [s2, s1] at n3
  rw [s3, s2, s1] at n4
  rw [s4, s3, s2, s1] at n5
  have e1 : W5.heap[w.heap.size]? = W1.heap[w.heap.size]? := (b5.block _ (by omega)).trans ((b4.block _ (by omega)).trans ((b3.block _ (by omega)).trans (b2.block _ (by omega))))
  have e2 : W5.heap[w.heap.size + 1]? = W2.heap[w.heap.size + 1]? := (b5.block _ (by omega)).trans ((b4.block _ (by omega)).trans (b3.block _ (by omega)))
  have e3 : W5.heap[w.heap.size + 2]? = W3.heap[w.heap.size + 2]? := (b5.block _ (by omega)).trans (b4.block _ (by omega))
  have e4 : W5.heap[w.heap.size + 3]? = W4.heap[w.heap.size + 3]? := b5.block _ (by omega)
  exact ⟨b1.trans ((b2.mono (by omega)).trans ((b3.mono (by omega)).trans ((b4.mono (by omega)).trans (b5.mono (by omega))))), e1.trans n1, e2.trans n2, e4.trans n4, n5, World.ownsRow_nil _ _ _ _, World.ownsRow_nil _ _ _ _, hm.frame e3, fun g e => by cases e⟩
set_option maxHeartbeats 16000000 in
theorem shape_any {B : Nat} {N : Int} {F : Nat → Prop} {os : List Ob} {gh : Nat} (ho : OsOk os) (hus : usedL os ≤ 4000) (ro : Option Addr) (nr cr : Nat) (rs : List Int) (w : World) (hp : PH B (.pointer (some ⟨gh, 0, none⟩)) N (wordsL os) F w) (R : URow w ro nr cr rs) (hnr : nr ≤ 1000) (fuel : Nat) (hfu : 4001 ≤ fuel) :
    Calls Try.prog 20 #[.pointer (some ⟨gh, 0, none⟩), .slice ro nr cr] w fun e w' => ∃ ao n cap, e = .returned (.slice ao n cap) ∧ URow w' ao n cap (shapeM os rs fuel) ∧ (∀ a, ao = some a → w.heap.size ≤ a.block) ∧ Below w.heap.size w w' := by
  have HR := hid R
  have hlen := R.len
  have hf := R.fits
  have hm := R.most
  unfold maxLen at hm
  have HP := hid hp
  have HO := hid ho
  have hol : os.length ≤ 4000 := Nat.le_trans (len_le_used os) hus
  have HL := hid hlen
  clear R hp ho hlen
  have hE : Hid (∀ (st : List Int × List Int) (vo vq : Value) (wr : World) i, SM w.heap.size w (.pointer (some ⟨gh, 0, none⟩)) vo vq st.1 st.2 st.2 wr → OutU st.1 → st.2.length ≤ i → runS os (fuel - i) i st = runS os fuel 0 (tellN os ([], []) rs nr) → ∃ ao n cap, vo = .slice ao n cap ∧ URow wr ao n cap (shapeM os rs fuel) ∧ (∀ a, ao = some a → w.heap.size ≤ a.block) ∧ Below w.heap.size w wr) := fun st vo vq wr i hS hU hi hrun => by
    rw [runS_end os hi] at hrun
    have e1 : shapeM os rs fuel = st.1 := by
      unfold shapeM
      rw [← tellN_all, HL.out, ← hrun]
    rw [e1]
    obtain ⟨ao, cap, hv, hu⟩ := urow_own hS.oo hU
    exact ⟨ao, _, cap, hv, hu, fun a ha => by have := (hS.oo.lt a.block (by rw [hv, ha]; rfl)).1; omega, hS.bel⟩
  have hmk := @run_makeMap Try.prog
  have hst0 : Hid (StOk os (([], []) : List Int × List Int) 0) := ⟨QOk.nil os, fun z hz => (by cases hz), Nat.le_refl _⟩
  have CT : Hid (∀ (st : List Int × List Int) (vo vq : Value) (n : Nat) (z : Int) (wr : World), StOk os st n → n ≤ 100000000 → U64 z → SM w.heap.size w (.pointer (some ⟨gh, 0, none⟩)) vo vq st.1 st.2 st.2 wr → Calls Try.prog 44 #[.int .u64 z, .pointer (some ⟨w.heap.size, 0, none⟩), .pointer (some ⟨w.heap.size + 1, 0, none⟩), .pointer (some ⟨w.heap.size + 1 + 1 + 1, 0, none⟩), .pointer (some ⟨w.heap.size + 1 + 1 + 1 + 1, 0, none⟩)] wr fun e w' => e = .returned (.tuple #[]) ∧ ∃ vo' vq', SM w.heap.size w (.pointer (some ⟨gh, 0, none⟩)) vo' vq' (tellS os st z).1 (tellS os st z).2 (tellS os st z).2 w') := fun st vo vq n z wr hs hn hz hS =>
    tell_any HO.out hus w HP.out z hz wr hS hs.q (Nat.le_trans hs.len hn)
  go_enter Try.func20, Try.ntmps20
  go_wp2_with fail
  clear hmk
  obtain ⟨g3, hg3⟩ : ∃ g, g = w.heap.size + 1 + 1 + 1 := ⟨_, rfl⟩
  obtain ⟨g4, hg4⟩ : ∃ g, g = w.heap.size + 1 + 1 + 1 + 1 := ⟨_, rfl⟩
  rw [← hg4, ← hg3] at CT
  rw [← hg4, ← hg3]
  have HG4 : Hid (g4 = w.heap.size + 4) := hg4
  clear hg3 hg4
  go_loopw [9] (fun i wr => ∃ r : Nat, r ≤ nr ∧ i = .int .i64 r ∧ Hid (∃ vo vq, SM w.heap.size w (.pointer (some ⟨gh, 0, none⟩)) vo vq (tellN os ([], []) rs r).1 (tellN os ([], []) rs r).2 (tellN os ([], []) rs r).2 wr)) (fun i _ => nr - (intOf i).toNat)
  case atStart => exact ⟨0, Nat.zero_le _, rfl, _, _, sm_made rfl rfl rfl rfl rfl⟩
  case round =>
    obtain ⟨r, hr, rfl, hI⟩ := hrel
    obtain ⟨vo, vq, hS⟩ := hI.out
    have HS := hid hS
    clear hI hS
    by_cases hlt : r < nr
    · obtain ⟨bb, oo, rfl, hlb, hcc⟩ := HR.out.some (by omega)
      have hck := (HS.out.bel.cell (p := ⟨bb, oo + r, none⟩) hlb).trans (hcc r hlt)
      have hzu := HR.out.bd _ (getD_in_f (l := rs) (i := r) (by have := HL.out; omega))
      have C1 := hid (CT.out _ vo vq (0 + 2 * r) _ wr (hst0.out.tells hus HR.out.bd r (by have := HL.out; omega)) (by omega) hzu HS.out)
      have HT : Hid (tellN os ([], []) rs (r + 1) = tellS os (tellN os ([], []) rs r) (rs.getD r 0)) := tellN_succ os _ (by have := HL.out; omega)
      rw [← HT.out] at C1
      obtain ⟨z, hz⟩ : ∃ z, z = rs.getD r 0 := ⟨_, rfl⟩
      rw [← hz] at hck C1
      clear hcc hzu hz HT
      go_wp2_with (go_at_call 44; (with_reducible refine C1.out.mono ?_); rintro e W1 ⟨rfl, vo', vq', h1⟩; have H1 := hid h1; clear h1)
      exact ⟨⟨r + 1, by omega, by go_num, vo', vq', H1.out⟩, by simp [intOf] <;> omega⟩
    · obtain rfl : r = nr := by omega
      have hst1 : Hid (StOk os (tellN os ([], []) rs r) 2000) := by
        have := hst0.out.tells hus HR.out.bd r (by have := HL.out; omega)
        exact ⟨this.q, this.u, by have := this.len; omega⟩
      go_wp2_with fail
      go_loopw [10] (fun i wr => ∃ k : Nat, k ≤ 4000 ∧ i = .int .i64 k ∧ Hid (∃ vo vq, ∃ st : List Int × List Int, SM w.heap.size w (.pointer (some ⟨gh, 0, none⟩)) vo vq st.1 st.2 st.2 wr ∧ StOk os st (2000 + 20000 * k) ∧ k ≤ st.2.length ∧ runS os (fuel - k) k st = runS os fuel 0 (tellN os ([], []) rs r))) (fun i _ => 4001 - (intOf i).toNat)
      case atStart => exact ⟨0, Nat.zero_le _, rfl, vo, vq, _, HS.out, hst1.out, Nat.zero_le _, rfl⟩
      case round =>
        clear HS
        obtain ⟨k, hk, rfl, hI⟩ := hrel
        obtain ⟨vo, vq, st, hS, hst, hkl, hrun⟩ := hI.out
        have HS := hid hS
        have HST := hid hst
        have HRUN := hid hrun
        have HKL := hid hkl
        obtain ⟨aq, cq, rfl, hqf, hqm⟩ := slice_of hS.oq
        have hql : st.2.length ≤ 4000 := Nat.le_trans hst.q.len hol
        have c4 : wr.cell? ⟨g4, 0, none⟩ = some (.slice aq st.2.length cq) := by rw [HG4.out]; exact blk_cell hS.bq 0
        clear hI hS hst hrun hkl
        obtain ⟨nq, hnq⟩ : ∃ n, n = st.2.length := ⟨_, rfl⟩
        rw [← hnq] at c4 hqf hql
        have HNQ := hid hnq
        clear hnq
        by_cases hlt2 : k < nq
        · have hown := HS.out.oq
          obtain ⟨gr, cr', hvr, hr0, hr1, hr2, hr3, hr4⟩ := owned_cell hown (i := k) (by rw [← HNQ.out]; exact hlt2)
          have hpm := getD_in_f (l := st.2) (i := k) (by rw [← HNQ.out]; exact hlt2)
          have hpu := HST.out.q.u _ hpm
          obtain ⟨j, hj⟩ := HST.out.q.fd _ hpm
          injection hvr with e1 _ e3
          subst e1 e3
          have HOB := hid (objS_is (st := st) hj)
          have hjl := (findM_lt hj).1
          have hxk := HO.out.kd _ (getD_in_os hjl)
          have hxl : (os.getD j default).f.length ≤ 4000 := by have := at_lt hjl; omega
          have HXU := hid (HO.out.uf _ (getD_in_os hjl))
          have hph : Hid (∀ W vo' vq' o' q', SM w.heap.size w (.pointer (some ⟨gh, 0, none⟩)) vo' vq' o' q' q' W → PH B (.pointer (some ⟨gh, 0, none⟩)) N (wordsL os) F W) := fun W vo' vq' o' q' h => HP.out.keep (fun b hf => h.bel.block b (HP.out.ge b hf).2)
          have CK : Hid (∀ W vo' vq' o' q', SM w.heap.size w (.pointer (some ⟨gh, 0, none⟩)) vo' vq' o' q' q' W → Calls Try.prog 24 #[.pointer (some ⟨gh, 0, none⟩), .int .u64 (st.2.getD k 0)] W fun e w' => e = .returned (.tuple #[.int .i64 (os.getD j default).kind, .int .i64 0]) ∧ Below W.heap.size W w') := fun W vo' vq' o' q' h => by
            have := pkind_any HO.out _ hpu W (hph.out W _ _ _ _ h)
            unfold kindM at this; rw [hj] at this; exact this
          have CZ : Hid (∀ W vo' vq' o' q', SM w.heap.size w (.pointer (some ⟨gh, 0, none⟩)) vo' vq' o' q' q' W → Calls Try.prog 25 #[.pointer (some ⟨gh, 0, none⟩), .int .u64 (st.2.getD k 0)] W fun e w' => e = .returned (.tuple #[.int .i64 ((os.getD j default).f.length : Nat), .int .i64 0]) ∧ Below W.heap.size W w') := fun W vo' vq' o' q' h => by
            have := psize_any HO.out _ hpu W (hph.out W _ _ _ _ h)
            unfold sizeM at this; rw [hj] at this; exact this
          have CG : Hid (∀ W vo' vq' o' q' (i : Nat), i < (os.getD j default).f.length → SM w.heap.size w (.pointer (some ⟨gh, 0, none⟩)) vo' vq' o' q' q' W → Calls Try.prog 42 #[.pointer (some ⟨gh, 0, none⟩), .int .u64 (st.2.getD k 0), .int .i64 0, .int .i64 (i : Nat)] W fun e w' => e = .returned (.tuple #[.int .u64 ((os.getD j default).f.getD i 0), .int .i64 0]) ∧ Below W.heap.size W w') := fun W vo' vq' o' q' i hi h => by
            have := pget_any HO.out _ 0 (i : Int) hpu (by unfold Z64; omega) (by unfold Z64; omega) W (hph.out W _ _ _ _ h)
            rw [get_zero hj hi] at this; exact this
          have HNX : Hid (runS os (fuel - (k + 1)) (k + 1) (objS os st (st.2.getD k 0)) = runS os fuel 0 (tellN os ([], []) rs r)) := by
            unfold Hid
            rw [← HRUN.out, runS_step os (f := fuel - k) (by omega) (by rw [← HNQ.out]; exact hlt2)]
            congr 1
          obtain ⟨p, hpp⟩ : ∃ p, p = st.2.getD k 0 := ⟨_, rfl⟩
          rw [← hpp] at hr3 CK CZ CG HOB HNX
          obtain ⟨x, hx⟩ : ∃ x, x = os.getD j default := ⟨_, rfl⟩
          rw [← hx] at hxk hxl HXU CK CZ CG HOB
          obtain ⟨xk, xf⟩ := x
          simp only at hxk hxl HXU CK CZ CG HOB
          obtain ⟨fl, hfl⟩ : ∃ n, n = xf.length := ⟨_, rfl⟩
          rw [← hfl] at hxl CZ CG HOB
          have HFL := hid hfl
          obtain ⟨ao, co, hvo, hof, hom⟩ := slice_of HS.out.oo
          subst hvo
          obtain ⟨no, hno⟩ : ∃ n, n = st.1.length := ⟨_, rfl⟩
          rw [← hno] at HS hof
          have HNO := hid hno
          have hnol : no ≤ 100000000 := by have := HST.out.len; omega
          have cb : wr.cell? ⟨w.heap.size, 0, none⟩ = some (.pointer (some ⟨gh, 0, none⟩)) := blk_cell HS.out.bb 0
          have HST1 := hid (HST.out.obj (k := xk) (f := (fl : Nat)) (by unfold U64; omega) (by unfold U64; omega))
          unfold maxLen at hr2
          clear hown hr4 hpm hpu hj hjl hpp hx hfl hno hph hr0
          rw [← HNQ.out] at hr1
          go_wp2_with (first
            | (go_at_call 24; (with_reducible refine (CK.out _ _ _ _ _ HS.out).mono ?_); rintro e W1 ⟨rfl, b1⟩; have H1 := hid (HS.out.on b1); have cb1 : W1.cell? ⟨w.heap.size, 0, none⟩ = some (.pointer (some ⟨gh, 0, none⟩)) := blk_cell H1.out.bb 0; clear b1)
            | (go_at_call 25; (with_reducible refine (CZ.out _ _ _ _ _ H1.out).mono ?_); rintro e W2 ⟨rfl, b2⟩; have H2 := hid (H1.out.on b2); have c1 : W2.cell? ⟨w.heap.size + 1, 0, none⟩ = some (.slice ao no co) := blk_cell H2.out.bo 0; have H3 := hid (H2.out.on (Ba W2 (.cells #[.int .u64 3, .int .u64 xk, .int .u64 (fl : Nat)] 46))); have HN3 := hid (blk_new W2 #[.int .u64 3, .int .u64 xk, .int .u64 (fl : Nat)] 46); have HS3 := hid H3.out.size; have ho3 := H3.out.oo; rw [← HNO.out] at ho3; have HO3 := hid ho3; clear b2 ho3)
            | (at_builtin; refine appL rfl _ _ 27 rfl (w.heap.size + 5) 46 Try.underlying27 info_word _ no st.1 rfl HO3.out W2.heap.size 3 3 [3, xk, (fl : Int)] rfl HN3.out rfl (by omega) (by omega) HS3.out ?_; intro g5 cap5 w5 ho5 hg5 hl5 hlt5; obtain ⟨h6, c6, f6⟩ := H3.out.pushO (n' := no + 3) (out' := st.1 ++ [3, xk, (fl : Int)]) (by rw [List.length_append, ← HNO.out]; rfl) ho5 hg5 hl5; have H6 := hid h6; clear ho5 hg5 hl5 h6))
          go_loopw [16] (fun i wr => ∃ m : Nat, m ≤ fl ∧ i = .int .i64 m ∧ Hid (∃ vo vq, SM w.heap.size w (.pointer (some ⟨gh, 0, none⟩)) vo vq (tellN os (st.1 ++ [(3 : Int), xk, ((fl : Nat) : Int)], st.2) xf m).1 (tellN os (st.1 ++ [(3 : Int), xk, ((fl : Nat) : Int)], st.2) xf m).2 (tellN os (st.1 ++ [(3 : Int), xk, ((fl : Nat) : Int)], st.2) xf m).2 wr)) (fun i _ => fl - (intOf i).toNat)
          case atStart => exact ⟨0, Nat.zero_le _, rfl, _, _, H6.out⟩
          case round =>
            obtain ⟨m, hm3, rfl, hI⟩ := hrel
            obtain ⟨vo7, vq7, h7⟩ := hI.out
            have H7 := hid h7
            have cb7 : wr.cell? ⟨w.heap.size, 0, none⟩ = some (.pointer (some ⟨gh, 0, none⟩)) := blk_cell h7.bb 0
            clear hI h7
            by_cases hlt3 : m < fl
            · have C1 := hid (CG.out wr _ _ _ _ m hlt3 H7.out)
              have hzu := HXU.out _ (getD_in_f (l := xf) (i := m) (by rw [← HFL.out]; exact hlt3))
              have HT : Hid (tellN os (st.1 ++ [(3 : Int), xk, ((fl : Nat) : Int)], st.2) xf (m + 1) = tellS os (tellN os (st.1 ++ [(3 : Int), xk, ((fl : Nat) : Int)], st.2) xf m) (xf.getD m 0)) := tellN_succ os _ (by rw [← HFL.out]; exact hlt3)
              have C2 : Hid (∀ W, SM w.heap.size w (.pointer (some ⟨gh, 0, none⟩)) vo7 vq7 (tellN os (st.1 ++ [(3 : Int), xk, ((fl : Nat) : Int)], st.2) xf m).1 (tellN os (st.1 ++ [(3 : Int), xk, ((fl : Nat) : Int)], st.2) xf m).2 (tellN os (st.1 ++ [(3 : Int), xk, ((fl : Nat) : Int)], st.2) xf m).2 W → _) := fun W h => CT.out _ vo7 vq7 _ _ W (HST1.out.tells hus HXU.out m (by rw [← HFL.out]; omega)) (by omega) hzu h
              rw [← HT.out] at C2
              obtain ⟨z, hz⟩ : ∃ z, z = xf.getD m 0 := ⟨_, rfl⟩
              rw [← hz] at C1 C2
              clear hzu hz HT
              go_wp2_with (first
                | (go_at_call 42; (with_reducible refine C1.out.mono ?_); rintro e W8 ⟨rfl, b8⟩; have H8 := hid (H7.out.on b8); clear b8)
                | (go_at_call 44; (with_reducible refine (C2.out W8 H8.out).mono ?_); rintro e W9 ⟨rfl, vo', vq', h9⟩; have H9 := hid h9; clear h9))
              exact ⟨⟨m + 1, by omega, by go_num, vo', vq', H9.out⟩, by simp [intOf] <;> omega⟩
            · obtain rfl : m = fl := by omega
              go_wp2_with fail
              have hq := tellN_len os (st.1 ++ [(3 : Int), xk, ((m : Nat) : Int)], st.2) xf m (by rw [← HFL.out]; exact Nat.le_refl _)
              have ht := HST1.out.tells hus HXU.out m (by rw [← HFL.out]; exact Nat.le_refl _)
              refine ⟨⟨k + 1, by omega, by go_num, vo7, vq7, objS os st p, ?_, ?_, ?_, HNX.out⟩, by simp [intOf] <;> omega⟩
              · rw [HOB.out]; exact H7.out
              · rw [HOB.out]; exact ⟨ht.q, ht.u, by have := ht.len; omega⟩
              · rw [HOB.out]; have := HNQ.out; simp only at hq; omega
        · have c1 : wr.cell? ⟨w.heap.size + 1, 0, none⟩ = some vo := blk_cell HS.out.bo 0
          go_wp2_with fail
          go_ret
          have hu : OutU st.1 := HST.out.u
          obtain ⟨ao, n, cap, e1, e2, e3, e4⟩ := hE.out st _ _ wr k HS.out hu (by rw [← HNQ.out]; omega) HRUN.out
          exact ⟨ao, n, cap, congrArg Ending.returned e1, e2, e3, e4⟩
end Go.Proofs.Ythgkonjglappjaa
