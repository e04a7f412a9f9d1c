import Derived.Test.YtbkfinjajkjhaabGreatDoorW14
import Derived.Test.YtbkfinjajkjhaabGreatDoorRL4
import Derived.Lib.MapLaws
set_option linter.unusedVariables false
set_option linter.unusedSimpArgs false
set_option maxRecDepth 100000
namespace Go.Proofs.YtbkfinjajkjhaabGreatDoor
open Go.RowKit
def bstr (l : List Nat) : ByteArray := ⟨(l.map UInt8.ofNat).toArray⟩
theorem bytes_back {l : List Nat} (hd : Dg 256 l) : (l.map UInt8.ofNat).map UInt8.toNat = l := by
 rw [List.map_map]
 conv => rhs; rw [<- List.map_id l]
 apply List.map_congr_left
 intro x hx
 have := hd x hx
 simp only [Function.comp, id]
 rw [UInt8.toNat_ofNat']
 omega
theorem bs_bstr {l : List Nat} (hd : Dg 256 l) : bs (bstr l) = l := by
 unfold bs bstr; simpa using bytes_back hd
theorem bstr_size (l : List Nat) : (bstr l).size = l.length := by simp [bstr, ByteArray.size]
theorem test_str (s : ByteArray) (c : List UInt8) : (s.toList == c) = decide (bs s = c.map UInt8.toNat) := by
 rw [Lib.toList_data]
 unfold bs
 rw [Bool.eq_iff_iff]
 simp only [beq_iff_eq, decide_eq_true_eq]
 constructor
 ·rintro rfl; rfl
 ·intro h
  exact (List.map_inj_right (fun a b hab => UInt8.toNat_inj.1 hab)).1 h
theorem conv_at {w : World} {b o n cap : Nat} {l : List Nat} (hl : l.length = n) (hd : Dg 256 l) (hc : ∀ i, i < n -> w.cell? ⟨b, o + i, none⟩ = some (.int .u8 (l.getD i 0 : Nat))) :
  (convert 22 9 (.slice (some ⟨b, o, none⟩) n cap)).run Tryz.prog w = .ok (.string (bstr l)) w := by
 have := run_convert_bytes_back (P := Tryz.prog) w 22 9 5 ⟨b, o, none⟩ cap (l.map UInt8.ofNat) Tryz.underlying22 Tryz.underlying5 Tryz.underlying9 (fun j hj => by
  rw [List.length_map, hl] at hj
  have h1 := hc j hj
  have h2 : (l.map UInt8.ofNat)[j].toNat = l.getD j 0 := by
   rw [List.getElem_map, List.getD_eq_getElem?_getD, List.getElem?_eq_getElem (by omega), UInt8.toNat_ofNat']
   have := hd l[j] (List.getElem_mem _)
   simp only [Option.getD_some]
   omega
  rw [h2]
  unfold Addr.add
  by_cases h0 : j = 0
  ·subst h0; simpa using h1
  ·rw [if_neg h0]; exact h1)
 rw [List.length_map, hl] at this
 exact this
def te (l : List Nat) (i : Nat) : Nat :=
 if i < l.length then (if l.getD i 0 = 92 then te l (i + 2) else if l.getD i 0 = 34 then i else te l (i + 1)) else l.length
termination_by l.length - i
set_option maxHeartbeats 4000000 in
theorem textEnd_any (ao : Option Addr) (n cap : Nat) (l : List Nat) (w : World) (R : Row .u8 256 w ao n cap l) (hsm : n <= 1099511627776) :
  Calls Tryz.prog 27 #[.slice ao n cap] w fun e w' => e = .returned (.int .i64 (te l 1 : Nat)) /\ w' = w := by
 have hn := R.len
 have hf := R.fits
 have hm := R.most
 unfold maxLen at hm
 have HR := hid R
 clear R
 go_enter Tryz.func27, Tryz.ntmps27
 go_wp2
 go_loop [3] (fun i => ∃ q : Nat, 1 <= q /\ q <= n + 1 + 1 /\ i = .int .i64 q /\ Hid (te l 1 = te l q)) (fun i => n + 2 - (intOf i).toNat)
 case atStart => exact ⟨1, by omega, by omega, rfl, rfl⟩
 case round =>
  obtain ⟨q, h1, hq, rfl, hT⟩ := hrel
  by_cases hlt : q < n
  ·obtain ⟨b, o, rfl, hlb, hcc⟩ := HR.out.rd.some (by omega)
   have hc1 := hcc q (by omega)
   obtain ⟨c, hc⟩ : ∃ c, c = l.getD q 0 := ⟨_, rfl⟩
   have hcb : c < 256 := by rw [hc, List.getD_eq_getElem?_getD, List.getElem?_eq_getElem (by omega)]; exact HR.out.dg _ (List.getElem_mem _)
   have hte : Hid (te l q = if c = 92 then te l (q + 2) else if c = 34 then q else te l (q + 1)) := by unfold Hid; rw [te, if_pos (by omega), <- hc]
   rw [<- hc] at hc1
   clear hcc hc
   by_cases e1 : c = 92
   ·have e1' : ((c : Int) == 92) = true := by simp [e1]
    go_wp2
    exact ⟨⟨q + 2, by omega, by omega, by go_num, hT.out.trans (hte.out.trans (if_pos e1))⟩, by simp [intOf] <;> omega⟩
   ·have e1' : ((c : Int) == 92) = false := by simp; omega
    by_cases e2 : c = 34
    ·have e2' : ((c : Int) == 34) = true := by simp [e2]
     go_wp2
     go_ret
     rw [hT.out, hte.out, if_neg e1, if_pos e2]
     exact ⟨rfl, rfl⟩
    ·have e2' : ((c : Int) == 34) = false := by simp; omega
     go_wp2
     exact ⟨⟨q + 1, by omega, by omega, by go_num, hT.out.trans (hte.out.trans ((if_neg e1).trans (if_neg e2)))⟩, by simp [intOf] <;> omega⟩
  ·go_wp2
   go_ret
   rw [hT.out, te, if_neg (by omega), hn]
   exact ⟨rfl, rfl⟩
def rm (l : List Nat) (op : Int) (i : Nat) : Nat :=
 if i + 2 <= l.length then
  (if l.getD i 0 = 35 /\ l.getD (i + 1) 0 = 124 then (if op + 1 = 0 then i + 2 else rm l (op + 1) (i + 2))
   else if l.getD i 0 = 124 /\ l.getD (i + 1) 0 = 35 then (if op - 1 = 0 then i + 2 else rm l (op - 1) (i + 2))
   else if op = 0 then i + 1 else rm l op (i + 1))
 else 0
termination_by l.length - i
theorem pair_test {x y : Nat} (hx : x < 256) (hy : y < 256) (c : List UInt8) {a b : Nat} (hc : c.map UInt8.toNat = [a, b]) : ((bstr [x, y]).toList == c) = decide (x = a /\ y = b) := by
 have d1 : Dg 256 [x, y] := by intro z hz; simp at hz; omega
 rw [test_str, bs_bstr d1, hc]
 simp
set_option maxHeartbeats 4000000 in
theorem remarkSize_any (ao : Option Addr) (n cap : Nat) (l : List Nat) (w : World) (R : Row .u8 256 w ao n cap l) (hsm : n <= 1099511627776) :
  Calls Tryz.prog 25 #[.slice ao n cap] w fun e w' => e = .returned (.int .i64 (rm l 0 0 : Nat)) /\ w' = w := by
 have hn := R.len
 have hf := R.fits
 have hm := R.most
 unfold maxLen at hm
 have HR := hid R
 clear R
 go_enter Tryz.func25, Tryz.ntmps25
 go_wp2
 go_loop [3, 4] (fun o i => ∃ q : Nat, ∃ op : Int, q <= n /\ i = .int .i64 q /\ o = .int .i64 op /\ -(q : Int) <= op /\ op <= q /\ Hid (rm l 0 0 = rm l op q)) (fun _ i => n + 2 - (intOf i).toNat)
 case atStart => exact ⟨0, 0, by omega, rfl, rfl, by omega, by omega, rfl⟩
 case round =>
  obtain ⟨q, op, hq, rfl, rfl, h1, h2, hT⟩ := hrel
  by_cases hlt : q + 2 <= n
  ·obtain ⟨b, o, rfl, hlb, hcc⟩ := HR.out.rd.some (by omega)
   have hx0 := hcc q (by omega)
   have hx1 := hcc (q + 1) (by omega)
   obtain ⟨x, hx⟩ : ∃ c, c = l.getD q 0 := ⟨_, rfl⟩
   obtain ⟨y, hy⟩ : ∃ c, c = l.getD (q + 1) 0 := ⟨_, rfl⟩
   have hxb : x < 256 := by rw [hx, List.getD_eq_getElem?_getD, List.getElem?_eq_getElem (by omega)]; exact HR.out.dg _ (List.getElem_mem _)
   have hyb : y < 256 := by rw [hy, List.getD_eq_getElem?_getD, List.getElem?_eq_getElem (by omega)]; exact HR.out.dg _ (List.getElem_mem _)
   have hrm : Hid (rm l op q = if x = 35 /\ y = 124 then (if op + 1 = 0 then q + 2 else rm l (op + 1) (q + 2)) else if x = 124 /\ y = 35 then (if op - 1 = 0 then q + 2 else rm l (op - 1) (q + 2)) else if op = 0 then q + 1 else rm l op (q + 1)) := by unfold Hid; rw [rm, if_pos (by omega), <- hx, <- hy]
   rw [<- hx] at hx0
   rw [<- hy] at hx1
   have hcv : (convert 22 9 (.slice (some ⟨b, o + q, none⟩) 2 (cap - q))).run Tryz.prog w = .ok (.string (bstr [x, y])) w := conv_at rfl (by intro z hz; simp at hz; omega) (fun i hi => by
    have : i = 0 \/ i = 1 := by omega
    rcases this with rfl | rfl
    ·exact hx0
    ·exact hx1)
   clear hcc hx hy hx0 hx1
   have t1 := pair_test hxb hyb [35, 124] (a := 35) (b := 124) rfl
   have t2 := pair_test hxb hyb [124, 35] (a := 124) (b := 35) rfl
   generalize bstr [x, y] = S at *
   by_cases e1 : x = 35 /\ y = 124
   ·rw [decide_eq_true e1] at t1
    clear t2
    have hr1 := hid (hrm.out.trans (if_pos e1))
    clear hrm e1
    by_cases e0 : op + 1 = 0
    ·have e0' : (op + 1 == 0) = true := by simp [e0]
     go_wp2
     go_ret
     rw [hT.out, hr1.out, if_pos e0]
     exact ⟨rfl, rfl⟩
    ·have e0' : (op + 1 == 0) = false := by simp [e0]
     go_wp2
     exact ⟨⟨q + 2, op + 1, by omega, by go_num, rfl, by omega, by omega, hT.out.trans (hr1.out.trans (if_neg e0))⟩, by simp [intOf] <;> omega⟩
   ·rw [decide_eq_false e1] at t1
    by_cases e2 : x = 124 /\ y = 35
    ·rw [decide_eq_true e2] at t2
     have hr1 := hid (hrm.out.trans ((if_neg e1).trans (if_pos e2)))
     clear hrm e1 e2
     by_cases e0 : op - 1 = 0
     ·have e0' : (op - 1 == 0) = true := by simp [e0]
      go_wp2
      go_ret
      rw [hT.out, hr1.out, if_pos e0]
      exact ⟨rfl, rfl⟩
     ·have e0' : (op - 1 == 0) = false := by simp [e0]
      go_wp2
      exact ⟨⟨q + 2, op - 1, by omega, by go_num, rfl, by omega, by omega, hT.out.trans (hr1.out.trans (if_neg e0))⟩, by simp [intOf] <;> omega⟩
    ·rw [decide_eq_false e2] at t2
     have hr1 := hid (hrm.out.trans ((if_neg e1).trans (if_neg e2)))
     clear hrm e1 e2
     by_cases e0 : op = 0
     ·have e0' : (op == 0) = true := by simp [e0]
      go_wp2
      go_ret
      rw [hT.out, hr1.out, if_pos e0]
      exact ⟨rfl, rfl⟩
     ·have e0' : (op == 0) = false := by simp [e0]
      go_wp2
      exact ⟨⟨q + 1, op, by omega, by go_num, rfl, by omega, by omega, hT.out.trans (hr1.out.trans (if_neg e0))⟩, by simp [intOf] <;> omega⟩
  ·go_wp2
   go_ret
   rw [hT.out, rm, if_neg (by omega)]
   exact ⟨rfl, rfl⟩
theorem bstr_bs (s : ByteArray) : bstr (bs s) = s := by
 apply ByteArray.ext
 unfold bstr bs
 simp only [List.map_map]
 have : (UInt8.ofNat ∘ UInt8.toNat) = id := by funext x; simp
 rw [this, List.map_id]
def runeL (t : List Nat) : Nat × Nat := runeD (bstr t) 0
def letM (t : List Nat) : Option Nat :=
 if t = [] then none else if (runeL t).2 = t.length then some (runeL t).1
 else if t = [115, 112, 97, 99, 101] then some 32 else if t = [110, 101, 119, 108, 105, 110, 101] then some 10
 else if t = [116, 97, 98] then some 9 else if t = [114, 101, 116, 117, 114, 110] then some 13 else if t = [110, 117, 108, 108] then some 0
 else if t.getD 0 0 = 120 then numH (t.drop 1) else none
theorem map_back (s : ByteArray) (i : Nat) : ((bs s).drop i).map UInt8.ofNat = s.data.toList.drop i := by
 unfold bs
 rw [<- List.map_drop, List.map_map]
 have : (UInt8.ofNat ∘ UInt8.toNat) = id := by funext x; simp
 rw [this, List.map_id]
theorem runeL_le {t : List Nat} (h : t ≠ []) : (runeL t).2 <= t.length := by
 unfold runeL runeD
 split
 ·simp
 ·have := Lib.decodeL_le (t.map UInt8.ofNat) (by simpa using h)
  rw [List.length_map] at this
  exact this
def charM (r : List Nat) : Option (Nat × Nat) :=
 if r.length <= 2 then none
 else (letM ((r.drop 2).take ((runeL (r.drop 2)).2 + wordN (r.drop (2 + (runeL (r.drop 2)).2))))).map (fun n => (n, 2 + (runeL (r.drop 2)).2 + wordN (r.drop (2 + (runeL (r.drop 2)).2))))
def tkV (k n : Int) (t : ByteArray) (f o : Int) : Value := .agg #[.int .i64 k, .int .i64 n, .string t, .int .i64 f, .int .i64 o]
def TkBox (g : Nat) (w : World) : Prop := w.heap[g]? = some (.cells #[.int .i64 0, .int .i64 0, .string ⟨#[]⟩, .int .i64 0, .int .i64 0] 29 (0, 0))
theorem TkBox.new (w : World) : TkBox w.heap.size (w.alloc (.cells #[.int .i64 0, .int .i64 0, .string ⟨#[]⟩, .int .i64 0, .int .i64 0] 29)) := blk_new _ _ _
theorem TkBox.on {g : Nat} {w w' : World} (h : TkBox g w) (hb : Below w.heap.size w w') : TkBox g w' := (hb.block g (Array.getElem?_eq_some_iff.1 h).1).trans h
theorem TkBox.facts {g : Nat} {w : World} (h : TkBox g w) : (w.cell? ⟨g, 0, none⟩ = some (.int .i64 0) /\ w.cell? ⟨g, 1, none⟩ = some (.int .i64 0) /\ w.cell? ⟨g, 2, none⟩ = some (.string ⟨#[]⟩) /\ w.cell? ⟨g, 3, none⟩ = some (.int .i64 0) /\ w.cell? ⟨g, 4, none⟩ = some (.int .i64 0)) /\ w.frozen? ⟨g, 0, none⟩ = false /\ w.frozen? ⟨g, 1, none⟩ = false /\ w.frozen? ⟨g, 2, none⟩ = false /\ w.frozen? ⟨g, 3, none⟩ = false /\ w.frozen? ⟨g, 4, none⟩ = false :=
 ⟨⟨blk_cell h 0, blk_cell h 1, blk_cell h 2, blk_cell h 3, blk_cell h 4⟩, blk_free h 0, blk_free h 1, blk_free h 2, blk_free h 3, blk_free h 4⟩
theorem below_set5 {B g : Nat} {w w' : World} (h : Below B w w') (hg : B <= g) (a b c d e : Value) : Below B w (((((w'.setCell ⟨g, 0, none⟩ a).setCell ⟨g, 1, none⟩ b).setCell ⟨g, 2, none⟩ c).setCell ⟨g, 3, none⟩ d).setCell ⟨g, 4, none⟩ e) :=
 ((((h.setCell (p := ⟨g, 0, none⟩) hg _).setCell (p := ⟨g, 1, none⟩) hg _).setCell (p := ⟨g, 2, none⟩) hg _).setCell (p := ⟨g, 3, none⟩) hg _).setCell (p := ⟨g, 4, none⟩) hg _
end Go.Proofs.YtbkfinjajkjhaabGreatDoor
