import Derived.Test.YtbkfinjajkjhaabGreatDoorW23
import Derived.Test.YtbkfinjajkjhaabGreatDoorW4
import Derived.Test.YtbkfinjajkjhaabGreatDoorRows
import Derived.Test.YtbkfinjajkjhaabGreatDoorLX3
import Derived.ProofKit
import Derived.OpenShut
import Derived.ShutString
import Derived.ChangeOld
import Derived.ChangeSame
import Derived.Below
import Derived.Handed
import Derived.HandedShaped
import Derived.Shelf.Vars
import Derived.Lib.SmallJoins
import Derived.Lib.LaidU8T
set_option linter.unusedVariables false
set_option linter.unusedSimpArgs false
set_option maxRecDepth 100000
namespace Go.Proofs.YtbkfinjajkjhaabGreatDoor
open Go.RowKit
theorem all_rep {L : List Nat} {n : Nat} (h : L.length = n) (hg : ∀ p, p < n -> L.getD p 0 = 40) : L = List.replicate n 40 := by
 apply List.ext_getElem (by rw [List.length_replicate, h])
 intro i h1 h2
 rw [List.getElem_replicate, <- hg i (by omega), List.getD_eq_getElem?_getD, List.getElem?_eq_getElem h1]; rfl
theorem brackets_ans {L : List Nat} (h : L.length = 65536) (hg : ∀ p, p < 65536 -> L.getD p 0 = 40) : ∃ M, ansM L = (M, 0, 0) /\ M.length = 65537 := by
 obtain ⟨n, hn⟩ : ∃ n, n = 65536 := ⟨_, rfl⟩
 rw [<- hn] at h hg
 obtain ⟨M, h1, h2⟩ := rep_ans n (by omega)
 rw [<- all_rep h hg] at h1
 exact ⟨M, h1, by omega⟩
theorem brackets_dg {L : List Nat} {n : Nat} (h : L.length = n) (hg : ∀ p, p < n -> L.getD p 0 = 40) : Dg 256 L := by rw [all_rep h hg]; exact rep_dg n
set_option maxHeartbeats 8000000 in
theorem lexLong_walk (w : World) (hT : LTabs w) : Calls Tryz.prog 3 #[] w fun e w' => e = .returned (.bool true) /\ Below w.heap.size w w' := by
 have HT := hid hT
 clear hT
 have hmk : (Instr.makeSlice 22 (.int .i64 65536) (.int .i64 65536)).run Tryz.prog w = _ := run_make_row' (P := Tryz.prog) 22 5 (.int .u8 0) 1 Tryz.underlying22 info_u8 rfl .i64 .i64 65536 (by omega) (by omega) w
 have hW0 := made_win w .u8 5 65536
 have hcz : Hid ((madeCells #[Value.int .u8 0] 65536).size = 65536) := by unfold Hid; rw [size_madeCells]
 have hb0 := Ba w (.cells (madeCells #[.int .u8 0] 65536) 5)
 obtain ⟨g, hg⟩ : ∃ g, g = w.heap.size := ⟨_, rfl⟩
 rw [<- hg] at hW0 hmk
 generalize hWW : w.alloc (.cells (madeCells #[.int .u8 0] 65536) 5) = W0 at *
 generalize madeCells #[.int .u8 0] 65536 = cur at *
 have hz : Hid (∃ L0 : List Nat, Win .u8 5 W0 g 0 65536 cur L0) := ⟨_, hW0⟩
 have HB0 := hid hb0
 have HG := hid hg
 clear hWW hW0 hb0 hg
 go_enter Tryz.func3, Tryz.ntmps3
 go_wp2_with fail
 clear hmk
 go_loopg [12] 65536 (fun m v wr => ∃ (k : Nat) (L : List Nat), v = .int .i64 k /\ k <= 65536 /\ m = 65536 - k /\ Hid (Onto .u8 5 g 0 65536 W0 wr cur L) /\ Hid (∀ p, p < k -> L.getD p 0 = 40))
 case atStart =>
  obtain ⟨L0, h0⟩ := hz.out
  exact ⟨0, L0, rfl, by omega, rfl, h0.onto, fun p hp => absurd hp (Nat.not_lt_zero p)⟩
 case round =>
  obtain ⟨k, L, rfl, hk, rfl, hO, hL⟩ := hrel
  clear hz
  have hlen := hO.out.len
  by_cases hlt : k < 65536
  ·have k0 : (0 : Int) <= (k : Int) := by omega
   have k1 : (k : Int) < 65536 := by omega
   have hf : wr.frozen? ⟨g, k, none⟩ = false := hO.out.frozen _
   have hcl : wr.cell? ⟨g, k, none⟩ = some (.int .u8 (L.getD k 0 : Nat)) := by
    have := hO.out.cell (i := k) (by omega)
    rw [Nat.zero_add] at this; exact this
   have HN : Hid (Onto .u8 5 g 0 65536 W0 (wr.setCell ⟨g, k, none⟩ (.int .u8 40)) cur (L.set k 40)) := by
    have := hO.out.store (i := k) (by omega) 40
    rw [Nat.zero_add] at this; exact this
   have HN2 : Hid (∀ p, p < k + 1 -> (L.set k 40).getD p 0 = 40) := fun p hp => by
    rw [List.getD_eq_getElem?_getD, List.getElem?_set]
    by_cases h : k = p
    ·rw [if_pos h, if_pos (by omega)]; rfl
    ·rw [if_neg h, <- List.getD_eq_getElem?_getD]; exact hL.out p (by omega)
   obtain ⟨z, hz⟩ : ∃ z, z = L.getD k 0 := ⟨_, rfl⟩
   rw [<- hz] at hcl
   clear hO hL hz hlen
   go_wp2_with fail
   go_roundg (65536 - (k + 1))
   case measure => omega
   case rel => exact ⟨k + 1, L.set k 40, by go_num, by omega, rfl, HN.out, HN2.out⟩
  ·obtain rfl : k = 65536 := by omega
   have k1 : ¬ ((65536 : Nat) : Int) < 65536 := by omega
   obtain ⟨cur', hwin, hcs, _⟩ := hO.out.row
   have hcs2 : cur'.size = 65536 := by rw [hcs]; exact hcz.out
   have HBw : Hid (Below w.heap.size w wr) := HB0.out.trans (hO.out.below (by rw [HG.out]; exact Nat.le_refl _))
   have HDg : Hid (Dg 256 L) := brackets_dg hlen hL.out
   have hrow : BRow wr (some ⟨g, 0, none⟩) 65536 65536 L := ⟨hlen, by omega, by unfold maxLen; omega, fun e => (by cases e), HDg.out, hwin.rd⟩
   obtain ⟨M, hM, hMl⟩ := brackets_ans hlen hL.out
   have CT := hid (tokens_any (some ⟨g, 0, none⟩) 65536 65536 L wr hrow (HT.out.below HBw.out) (by omega))
   have HWin := hid hwin
   have HCS := hid hcs2
   have HM := hid hM
   have HMl := hid hMl
   have HLn := hid hlen
   clear hO hL hwin hcs hcs2 hM hMl hlen hrow hcz HB0
   go_wp2_with fail
   go_at_call 5
   with_reducible refine CT.out.mono ?_
   rintro e wa ⟨ao1, n1, cap1, rfl, T1, ba⟩
   have hn1 := T1.len
   rw [HM.out] at hn1 ⊢
   simp only at hn1
   obtain rfl : n1 = 65537 := by rw [<- hn1]; exact HMl.out
   have HBa : Hid (Below w.heap.size w wa) := Bt HBw.out ba
   have HOW : Hid ((wa.alloc (.cells #[.int .u8 40] 5)).ownsRow w.heap.size 5 1 (.slice (some ⟨g, 0, none⟩) 65536 65536) 65536 (cs .u8 L)) := owns_of_win (by rw [HG.out]; exact Nat.le_refl _) (Nat.le_refl _) (by unfold maxLen; omega) HCS.out (HWin.out.below (Bt ba (Ba wa _)))
   have HCl : Hid ((wa.alloc (.cells #[.int .u8 40] 5)).cell? ⟨wa.heap.size, 0, none⟩ = some (.int .u8 (40 : Nat))) := cell_new wa _ _
   have HS : Hid (w.heap.size <= (wa.alloc (.cells #[.int .u8 40] 5)).heap.size) := (Bt HBa.out (Ba wa _)).size
   have HBa2 : Hid (Below w.heap.size w (wa.alloc (.cells #[.int .u8 40] 5))) := Bt HBa.out (Ba wa _)
   have hnm : (65536 : Nat) <= 1000000 := by omega
   clear T1 ba CT hn1 HWin HCS
   go_wp2_with (at_builtin; refine app1 rfl _ _ 22 rfl w.heap.size 5 .u8 1 (by decide) Tryz.underlying22 info_u8 (.slice (some ⟨g, 0, none⟩) 65536 65536) 65536 L rfl HOW.out ⟨wa.heap.size, 0, none⟩ 1 40 rfl HCl.out hnm HS.out ?_; intro g2 cap2 w2 hown2 hb2; have HOW2 := hid hown2; have HB2 := hid hb2; clear hown2 hb2)
   have HBw2 : Hid (Below w.heap.size w w2) := HBa2.out.trans HB2.out
   obtain ⟨ao2, c2, he, hO2⟩ := own_of (B := 256) HOW2.out (by intro x hx; rw [List.mem_append] at hx; rcases hx with h | h; exact HDg.out x h; simp at h; omega)
   cases he
   have hrow2 : BRow w2 (some ⟨g2, 0, none⟩) 65537 cap2 (L ++ [40]) := hO2.1
   have CT2 := hid (tokens_any (some ⟨g2, 0, none⟩) 65537 cap2 (L ++ [40]) w2 hrow2 (HT.out.below HBw2.out) (by omega))
   have HA2 : Hid (ansM (L ++ [40]) = ([], 50, 0)) := long_ans (by rw [List.length_append, HLn.out]; rfl)
   clear hO2 hrow2 HOW HCl HS
   go_at_call 5
   with_reducible refine CT2.out.mono ?_
   rintro e wb ⟨ao3, n3, cap3, rfl, _, bb⟩
   rw [HA2.out]
   have HBb : Hid (Below w.heap.size w wb) := Bt HBw2.out bb
   have CW := hid (lawake_any wb (HT.out.below HBb.out))
   clear bb CT2
   go_wp2_with (go_at_call 6; with_reducible refine CW.out.mono ?_; rintro e wd ⟨rfl, bd⟩; have HBd := hid (Bt HBb.out bd); clear bd)
   go_ret
   exact ⟨rfl, HBd.out⟩
end Go.Proofs.YtbkfinjajkjhaabGreatDoor
namespace Go.Proofs.YtbkfinjajkjhaabGreatDoor
open Go.ChangeShapes Go.WideShapes Go.ChangeAt Go.RowKit Go.Joins
theorem own : ownKnob Tryz.prog.godebug = none := by kernel_rfl
theorem pair_of {fuel : Nat} {b : List UInt8} {z : Int} {cs : List Value} {p : List MemPlace} {w : World} {bs : Nat} {sp : TypeId -> Bool} {held : Bool} (h : DataW.trod (fun _ => ()) Tryz.prog w bs sp held fuel 100 cs = some (.agg [.lit (.string b), .lit (.int .i32 z)], p)) : cs = [.string ⟨b.toArray⟩, .int .i32 z] := by
 obtain ⟨y0, y1, n, hx, hl, h0, h1⟩ := trod_struct2 Tryz.underlying100 h
 have hc : Tryz.prog.cellsOf 100 = 2 := by kernel_rfl
 have hc0 : Tryz.prog.cellsOf 9 = 1 := by kernel_rfl
 have hc1 : Tryz.prog.cellsOf 21 = 1 := by kernel_rfl
 rw [hc] at hl
 match cs, hl with
 | [c0, c1], _ =>
  simp only [hc0, hc1, List.drop_zero, List.drop_succ_cons, List.take_succ_cons, List.take_zero] at h0 h1
  obtain ⟨s, e0, x0, _⟩ := DataW.trod_string Tryz.underlying9 h0
  obtain ⟨m, e1, x1, _⟩ := DataW.trod_int Tryz.underlying21 h1
  have hx1 := congrArg Prod.fst hx
  rw [x0, x1] at hx1
  simp at hx1
  obtain ⟨g0, g1⟩ := hx1
  rw [List.cons.inj e0 |>.1, List.cons.inj e1 |>.1, g1, g0]
theorem iface_of {fuel : Nat} {t : TypeId} {ms : Array (String × TypeId)} {name : String} {d : DataW Unit} {cs : List Value} {p : List MemPlace} {w : World} {bs : Nat} {sp : TypeId -> Bool} (ht : Tryz.prog.underlying t = some (.interface ms)) (h : DataW.trod (fun _ => ()) Tryz.prog w bs sp false fuel t cs = some (.iface name d, p)) : ∃ u v, cs = [.iface u v] := by
 cases fuel with
 | zero => simp [DataW.trod] at h
 | succ n =>
  unfold DataW.trod at h
  rw [ht] at h
  split at h <;> simp_all
theorem names_of {w : World} (h : Lib.VarReads Tryz.prog w "athanor/lex.letterNames" Rows.laid_athanor_lex_letterNames) : ∀ j u, lnC[j]? = some u -> w.cell? ⟨3, j, none⟩ = some u := by
 obtain ⟨g, t, cs, fuel, p, hg, hty, hvar, hd⟩ := h
 obtain rfl := Option.some.inj ((show Tryz.prog.globalNamed "athanor/lex.letterNames" = some 3 by kernel_rfl).symm.trans hg)
 obtain rfl := Option.some.inj ((show (Tryz.prog.globals[3]?).map (·.type) = some 101 by kernel_rfl).symm.trans hty)
 have hc : Tryz.prog.cellsOf 100 = 2 := by kernel_rfl
 unfold Rows.laid_athanor_lex_letterNames at hd
 have key : ∀ i b z, i < 5 -> ([.agg [.lit (.string [115, 112, 97, 99, 101]), .lit (.int .i32 32)], .agg [.lit (.string [110, 101, 119, 108, 105, 110, 101]), .lit (.int .i32 10)], .agg [.lit (.string [116, 97, 98]), .lit (.int .i32 9)], .agg [.lit (.string [114, 101, 116, 117, 114, 110]), .lit (.int .i32 13)], .agg [.lit (.string [110, 117, 108, 108]), .lit (.int .i32 0)]] : List (DataW Unit))[i]? = some (.agg [.lit (.string b), .lit (.int .i32 z)]) -> w.cell? ⟨3, 2 * i, none⟩ = some (.string ⟨b.toArray⟩) /\ w.cell? ⟨3, 2 * i + 1, none⟩ = some (.int .i32 z) := fun i b z hi hb => by
  obtain ⟨fuel', d, q, hdi, he⟩ := Lib.array_elem Tryz.underlying101 hd i hi
  rw [hb] at hdi
  obtain rfl := Option.some.inj hdi
  rw [hc] at he
  have hcs := pair_of he
  have e0 := congrArg (·[0]?) hcs
  have e1 := congrArg (·[1]?) hcs
  simp only [List.getElem?_take, List.getElem?_drop] at e0 e1
  constructor
  ·rw [World.var?_cell hg hvar (2 * i), <- Array.getElem?_toList]
   simpa [Nat.mul_comm] using e0
  ·rw [World.var?_cell hg hvar (2 * i + 1), <- Array.getElem?_toList]
   simpa [Nat.mul_comm] using e1
 have k0 := key 0 _ _ (by omega) rfl
 have k1 := key 1 _ _ (by omega) rfl
 have k2 := key 2 _ _ (by omega) rfl
 have k3 := key 3 _ _ (by omega) rfl
 have k4 := key 4 _ _ (by omega) rfl
 intro j u hj
 match j, hj with
 | 0, hj => cases hj; exact k0.1
 | 1, hj => cases hj; exact k0.2
 | 2, hj => cases hj; exact k1.1
 | 3, hj => cases hj; exact k1.2
 | 4, hj => cases hj; exact k2.1
 | 5, hj => cases hj; exact k2.2
 | 6, hj => cases hj; exact k3.1
 | 7, hj => cases hj; exact k3.2
 | 8, hj => cases hj; exact k4.1
 | 9, hj => cases hj; exact k4.2
 | n + 10, hj => simp [lnC] at hj
theorem err_of {w : World} {n : String} {g : Nat} {name : String} {d : DataW Unit} (hn : Tryz.prog.globalNamed n = some g) (ht : (Tryz.prog.globals[g]?).map (·.type) = some 68) (h : Lib.VarReads Tryz.prog w n (.iface name d)) : ∃ t a, w.cell? ⟨g, 0, none⟩ = some (.iface t a) := by
 obtain ⟨g', t, cs, fuel, p, hg, hty, hvar, hd⟩ := h
 obtain rfl := Option.some.inj (hn.symm.trans hg)
 obtain rfl := Option.some.inj (ht.symm.trans hty)
 obtain ⟨u, v, e⟩ := iface_of Tryz.underlying68 hd
 refine ⟨u, v, ?_⟩
 rw [World.var?_cell hg hvar 0, <- Array.getElem?_toList, e]; rfl
theorem wrap_both {H : Type} {enc : TypeId × Value -> H} {a : Assume} {C : Checked} {os : Os} {f : FuncId} {fn : Func} {s : ChangeSpec} {conds : List PathCond} {apart fresh handsOn again : Bool} {X : World -> Array Value -> Prop}
  (hX : ∀ (w w' : World) (args : Array Value), w.heap = w'.heap -> X w args -> X w' args)
  (own : ownKnob C.prog.godebug = none) (started : os.Started) (noInit : C.prog.inits.idxOf? f = none) (hfn : C.prog.funcs[f]? = some fn)
  (witness : ∃ (w : World) (tape : Tape) (i : Input), w.os = os /\ (w.forCall tape i).Shaped C.prog /\ i.vars = [] /\ Input.okWide C.prog (w.forCall tape i) .any w.heap.size f i /\
   ((s.pre enc C.prog fn conds apart (w.forCall tape i).memory i.args /\ X (w.forCall tape i).memory i.args) /\ sizedMet enc C.prog fn (OpenSpec.ofChange s) apart (w.forCall tape i).memory i.args) /\ a.holds C.prog (lone (Frame.enter C.prog f i.args .normal) [] (w.forCall tape i)))
  (walk : ∀ (W : World) (base : Nat) (args : Array Value) (ds gs : List (DataW H)) (before : List MemPlace),
   (∀ (j : Nat) t v, fn.params[j]? = some t -> args[j]? = some v -> Value.okWide C.prog W .any base t v) ->
   DataW.Whole enc C.prog fn.params.toList s.vars apart W args.toList ds gs before -> X W args -> W.ShapedOpen C.prog ->
   Calls C.prog f args W fun e W' => ∃ v, e = .returned v /\ s.post enc C.prog fn apart fresh handsOn again W args v W') :
  ReturnsInHanded a C os f .any (fun w args => (s.pre enc C.prog fn conds apart w args /\ X w args) /\ sizedMet enc C.prog fn (OpenSpec.ofChange s) apart w args) (s.post enc C.prog fn apart fresh handsOn again) := by
 refine returnsInHanded_of_calls own started noInit witness ?_
 rintro w tape i _ hsh _ ⟨_, _, _, fn', hfn', _, _, _, _, hval⟩ ⟨⟨⟨ds, gs, before, hw, _⟩, hx⟩, _⟩ _
 obtain rfl : fn' = fn := Option.some.inj (hfn'.symm.trans hfn)
 exact (walk (w.forCall tape i) w.heap.size i.args ds gs before hval (DataW.Whole.of_heap (w' := w.forCall tape i) (by rfl) hw) (hX _ _ _ (by rfl) hx) hsh).mono fun e W' ⟨v, he, hp⟩ => by
  subst he
  exact ChangeSpec.post_blind hp
theorem u8types : U8Types Tryz.prog ⟨fun n => n, fun | 5 => 5 | 119 => 41 | 138 => 43 | 139 => 44 | n => n, fun | 3 => 0 | 4 => 1 | n => n⟩ :=
 ⟨Tryz.underlying5, Tryz.underlying41, Tryz.underlying43, Tryz.underlying44⟩
theorem first_is : Rows.laid_unicode_utf8_first = Lib.firstData := by unfold Rows.laid_unicode_utf8_first; kernel_rfl
theorem accept_is : (Rows.laid_unicode_utf8_acceptRanges : DataW Unit) = Lib.acceptData := by kernel_rfl
theorem maxlen_cell {w : World} (h : w.ShapedOpen Tryz.prog) : ∃ m, w.cell? ⟨2, 0, none⟩ = some (.int .i64 m) :=
 cell_of_shapedOpen_int h (of_decide_eq_true (by kernel_rfl)) (zero := #[.int .i64 0]) (t := 3) (by kernel_rfl) rfl (by kernel_rfl) (by kernel_rfl) Tryz.underlying3
theorem ltabs_of {w : World} (hs : w.ShapedOpen Tryz.prog) (h1 : Lib.VarReads Tryz.prog w "unicode/utf8.acceptRanges" Rows.laid_unicode_utf8_acceptRanges) (h2 : Lib.VarReads Tryz.prog w "unicode/utf8.first" Rows.laid_unicode_utf8_first) (h3 : Lib.VarReads Tryz.prog w "athanor/lex.letterNames" Rows.laid_athanor_lex_letterNames)
  (h4 : Lib.VarReads Tryz.prog w "strconv.ErrSyntax" Rows.laid_strconv_ErrSyntax) (h5 : Lib.VarReads Tryz.prog w "strconv.ErrRange" Rows.laid_strconv_ErrRange) : LTabs w := by
 rw [accept_is] at h1
 rw [first_is] at h2
 unfold Rows.laid_strconv_ErrSyntax at h4
 unfold Rows.laid_strconv_ErrRange at h5
 exact ⟨utf8Tabs_of_readsT u8types ⟨by kernel_rfl, by kernel_rfl, by kernel_rfl, by kernel_rfl, by kernel_rfl, by kernel_rfl, by kernel_rfl⟩ h2 h1, maxlen_cell hs, names_of h3, err_of (by kernel_rfl) (by kernel_rfl) h4, err_of (by kernel_rfl) (by kernel_rfl) h5⟩
end Go.Proofs.YtbkfinjajkjhaabGreatDoor
