import Derived.Test.YtbkfinjajkjhaaaGreatDoorRows
import Derived.Test.YtbkfinjajkjhaaaGreatDoorLX4
import Derived.ProofKit
import Derived.OpenShut
import Derived.ShutString
import Derived.ChangeOld
import Derived.ChangeSame
import Derived.Below
import Derived.Handed
import Derived.HandedShaped
import Derived.Shelf.Vars
import Derived.Lib.SmallJoins
import Derived.Lib.LaidU8T
import Derived.Test.YtbkfinjajkjhaaaGreatDoorLX25
import Derived.Lib.LaidTab
set_option linter.unusedVariables false
set_option linter.unusedSimpArgs false
set_option maxRecDepth 100000
namespace Go.Proofs.YtbkfinjajkjhaaaGreatDoor
open Go.ChangeShapes Go.WideShapes Go.ChangeAt Go.RowKit Go.Joins
theorem own : ownKnob Tryz.prog.godebug = none := by kernel_rfl
theorem pair_of {fuel : Nat} {b : List UInt8} {z : Int} {cs : List Value} {p : List MemPlace} {w : World} {bs : Nat} {sp : TypeId -> Bool} {held : Bool} (h : DataW.trod (fun _ => ()) Tryz.prog w bs sp held fuel 67 cs = some (.agg [.lit (.string b), .lit (.int .i32 z)], p)) : cs = [.string ⟨b.toArray⟩, .int .i32 z] := by
 obtain ⟨y0, y1, n, hx, hl, h0, h1⟩ := trod_struct2 Tryz.underlying67 h
 have hc : Tryz.prog.cellsOf 67 = 2 := by kernel_rfl
 have hc0 : Tryz.prog.cellsOf 9 = 1 := by kernel_rfl
 have hc1 : Tryz.prog.cellsOf 21 = 1 := by kernel_rfl
 rw [hc] at hl
 match cs, hl with
 | [c0, c1], _ =>
  simp only [hc0, hc1, List.drop_zero, List.drop_succ_cons, List.take_succ_cons, List.take_zero] at h0 h1
  obtain ⟨s, e0, x0, _⟩ := DataW.trod_string Tryz.underlying9 h0
  obtain ⟨m, e1, x1, _⟩ := DataW.trod_int Tryz.underlying21 h1
  have hx1 := congrArg Prod.fst hx
  rw [x0, x1] at hx1
  simp at hx1
  obtain ⟨g0, g1⟩ := hx1
  rw [List.cons.inj e0 |>.1, List.cons.inj e1 |>.1, g1, g0]
theorem iface_of {fuel : Nat} {t : TypeId} {ms : Array (String × TypeId)} {name : String} {d : DataW Unit} {cs : List Value} {p : List MemPlace} {w : World} {bs : Nat} {sp : TypeId -> Bool} (ht : Tryz.prog.underlying t = some (.interface ms)) (h : DataW.trod (fun _ => ()) Tryz.prog w bs sp false fuel t cs = some (.iface name d, p)) : ∃ u v, cs = [.iface u v] := by
 cases fuel with
 | zero => simp [DataW.trod] at h
 | succ n =>
  unfold DataW.trod at h
  rw [ht] at h
  split at h <;> simp_all
theorem names_of {w : World} (h : Lib.VarReads Tryz.prog w "athanor/lex.letterNames" Rows.laid_athanor_lex_letterNames) : ∀ j u, lnC[j]? = some u -> w.cell? ⟨0, j, none⟩ = some u := by
 obtain ⟨g, t, cs, fuel, p, hg, hty, hvar, hd⟩ := h
 obtain rfl := Option.some.inj ((show Tryz.prog.globalNamed "athanor/lex.letterNames" = some 0 by kernel_rfl).symm.trans hg)
 obtain rfl := Option.some.inj ((show (Tryz.prog.globals[0]?).map (·.type) = some 68 by kernel_rfl).symm.trans hty)
 have hc : Tryz.prog.cellsOf 67 = 2 := by kernel_rfl
 unfold Rows.laid_athanor_lex_letterNames at hd
 have key : ∀ i b z, i < 5 -> ([.agg [.lit (.string [115, 112, 97, 99, 101]), .lit (.int .i32 32)], .agg [.lit (.string [110, 101, 119, 108, 105, 110, 101]), .lit (.int .i32 10)], .agg [.lit (.string [116, 97, 98]), .lit (.int .i32 9)], .agg [.lit (.string [114, 101, 116, 117, 114, 110]), .lit (.int .i32 13)], .agg [.lit (.string [110, 117, 108, 108]), .lit (.int .i32 0)]] : List (DataW Unit))[i]? = some (.agg [.lit (.string b), .lit (.int .i32 z)]) -> w.cell? ⟨0, 2 * i, none⟩ = some (.string ⟨b.toArray⟩) /\ w.cell? ⟨0, 2 * i + 1, none⟩ = some (.int .i32 z) := fun i b z hi hb => by
  obtain ⟨fuel', d, q, hdi, he⟩ := Lib.array_elem Tryz.underlying68 hd i hi
  rw [hb] at hdi
  obtain rfl := Option.some.inj hdi
  rw [hc] at he
  have hcs := pair_of he
  have e0 := congrArg (·[0]?) hcs
  have e1 := congrArg (·[1]?) hcs
  simp only [List.getElem?_take, List.getElem?_drop] at e0 e1
  constructor
  ·rw [World.var?_cell hg hvar (2 * i), <- Array.getElem?_toList]
   simpa [Nat.mul_comm] using e0
  ·rw [World.var?_cell hg hvar (2 * i + 1), <- Array.getElem?_toList]
   simpa [Nat.mul_comm] using e1
 have k0 := key 0 _ _ (by omega) rfl
 have k1 := key 1 _ _ (by omega) rfl
 have k2 := key 2 _ _ (by omega) rfl
 have k3 := key 3 _ _ (by omega) rfl
 have k4 := key 4 _ _ (by omega) rfl
 intro j u hj
 match j, hj with
 | 0, hj => cases hj; exact k0.1
 | 1, hj => cases hj; exact k0.2
 | 2, hj => cases hj; exact k1.1
 | 3, hj => cases hj; exact k1.2
 | 4, hj => cases hj; exact k2.1
 | 5, hj => cases hj; exact k2.2
 | 6, hj => cases hj; exact k3.1
 | 7, hj => cases hj; exact k3.2
 | 8, hj => cases hj; exact k4.1
 | 9, hj => cases hj; exact k4.2
 | n + 10, hj => simp [lnC] at hj
theorem err_of {w : World} {n : String} {g : Nat} {name : String} {d : DataW Unit} (hn : Tryz.prog.globalNamed n = some g) (ht : (Tryz.prog.globals[g]?).map (·.type) = some 74) (h : Lib.VarReads Tryz.prog w n (.iface name d)) : ∃ t a, w.cell? ⟨g, 0, none⟩ = some (.iface t a) := by
 obtain ⟨g', t, cs, fuel, p, hg, hty, hvar, hd⟩ := h
 obtain rfl := Option.some.inj (hn.symm.trans hg)
 obtain rfl := Option.some.inj (ht.symm.trans hty)
 obtain ⟨u, v, e⟩ := iface_of Tryz.underlying74 hd
 refine ⟨u, v, ?_⟩
 rw [World.var?_cell hg hvar 0, <- Array.getElem?_toList, e]; rfl
theorem wrap_both {H : Type} {enc : TypeId × Value -> H} {a : Assume} {C : Checked} {os : Os} {f : FuncId} {fn : Func} {s : ChangeSpec} {conds : List PathCond} {apart fresh handsOn again : Bool} {X : World -> Array Value -> Prop}
  (hX : ∀ (w w' : World) (args : Array Value), w.heap = w'.heap -> X w args -> X w' args)
  (own : ownKnob C.prog.godebug = none) (started : os.Started) (noInit : C.prog.inits.idxOf? f = none) (hfn : C.prog.funcs[f]? = some fn)
  (witness : ∃ (w : World) (tape : Tape) (i : Input), w.os = os /\ (w.forCall tape i).Shaped C.prog /\ i.vars = [] /\ Input.okWide C.prog (w.forCall tape i) .any w.heap.size f i /\
   ((s.pre enc C.prog fn conds apart (w.forCall tape i).memory i.args /\ X (w.forCall tape i).memory i.args) /\ sizedMet enc C.prog fn (OpenSpec.ofChange s) apart (w.forCall tape i).memory i.args) /\ a.holds C.prog (lone (Frame.enter C.prog f i.args .normal) [] (w.forCall tape i)))
  (walk : ∀ (W : World) (base : Nat) (args : Array Value) (ds gs : List (DataW H)) (before : List MemPlace),
   (∀ (j : Nat) t v, fn.params[j]? = some t -> args[j]? = some v -> Value.okWide C.prog W .any base t v) ->
   DataW.Whole enc C.prog fn.params.toList s.vars apart W args.toList ds gs before -> X W args -> W.ShapedOpen C.prog ->
   Calls C.prog f args W fun e W' => ∃ v, e = .returned v /\ s.post enc C.prog fn apart fresh handsOn again W args v W') :
  ReturnsInHanded a C os f .any (fun w args => (s.pre enc C.prog fn conds apart w args /\ X w args) /\ sizedMet enc C.prog fn (OpenSpec.ofChange s) apart w args) (s.post enc C.prog fn apart fresh handsOn again) := by
 refine returnsInHanded_of_calls own started noInit witness ?_
 rintro w tape i _ hsh _ ⟨_, _, _, fn', hfn', _, _, _, _, hval⟩ ⟨⟨⟨ds, gs, before, hw, _⟩, hx⟩, _⟩ _
 obtain rfl : fn' = fn := Option.some.inj (hfn'.symm.trans hfn)
 exact (walk (w.forCall tape i) w.heap.size i.args ds gs before hval (DataW.Whole.of_heap (w' := w.forCall tape i) (by rfl) hw) (hX _ _ _ (by rfl) hx) hsh).mono fun e W' ⟨v, he, hp⟩ => by
  subst he
  exact ChangeSpec.post_blind hp
theorem u8types : U8Types Tryz.prog ⟨fun n => n, fun | 5 => 5 | 119 => 86 | 138 => 88 | 139 => 89 | n => n, fun | 3 => 1 | 4 => 2 | n => n⟩ :=
 ⟨Tryz.underlying5, Tryz.underlying86, Tryz.underlying88, Tryz.underlying89⟩
theorem first_is : Rows.laid_unicode_utf8_first = Lib.firstData := by unfold Rows.laid_unicode_utf8_first; kernel_rfl
theorem accept_is : (Rows.laid_unicode_utf8_acceptRanges : DataW Unit) = Lib.acceptData := by kernel_rfl
theorem maxlen_cell {w : World} (h : w.ShapedOpen Tryz.prog) : ∃ m, w.cell? ⟨3, 0, none⟩ = some (.int .i64 m) :=
 cell_of_shapedOpen_int h (of_decide_eq_true (by kernel_rfl)) (zero := #[.int .i64 0]) (t := 3) (by kernel_rfl) rfl (by kernel_rfl) (by kernel_rfl) Tryz.underlying3
theorem ltabs_of {w : World} (hs : w.ShapedOpen Tryz.prog) (h1 : Lib.VarReads Tryz.prog w "unicode/utf8.acceptRanges" Rows.laid_unicode_utf8_acceptRanges) (h2 : Lib.VarReads Tryz.prog w "unicode/utf8.first" Rows.laid_unicode_utf8_first) (h3 : Lib.VarReads Tryz.prog w "athanor/lex.letterNames" Rows.laid_athanor_lex_letterNames)
  (h4 : Lib.VarReads Tryz.prog w "strconv.ErrSyntax" Rows.laid_strconv_ErrSyntax) (h5 : Lib.VarReads Tryz.prog w "strconv.ErrRange" Rows.laid_strconv_ErrRange) : LTabs w := by
 rw [accept_is] at h1
 rw [first_is] at h2
 unfold Rows.laid_strconv_ErrSyntax at h4
 unfold Rows.laid_strconv_ErrRange at h5
 exact ⟨utf8Tabs_of_readsT u8types ⟨by kernel_rfl, by kernel_rfl, by kernel_rfl, by kernel_rfl, by kernel_rfl, by kernel_rfl, by kernel_rfl⟩ h2 h1, maxlen_cell hs, names_of h3, err_of (by kernel_rfl) (by kernel_rfl) h4, err_of (by kernel_rfl) (by kernel_rfl) h5⟩
end Go.Proofs.YtbkfinjajkjhaaaGreatDoor
namespace Go.Proofs.YtbkfinjajkjhaaaGreatDoor
open Go.ChangeShapes Go.WideShapes Go.ChangeAt Go.RowKit Go.Joins
theorem pow_is : (Rows.laid_internal_strconv_uint64pow10 : DataW Unit) = Lib.tabData .u64 Lib.pow10Tab := by kernel_rfl
theorem powT_of {w : World} (h3 : Lib.VarReads Tryz.prog w "internal/strconv.uint64pow10" Rows.laid_internal_strconv_uint64pow10) : PowT w := by
 rw [pow_is] at h3
 obtain ⟨g, t, cs, fuel, p, hg, ht, hv, hd⟩ := h3
 have hgt : (Tryz.prog.globalNamed "internal/strconv.uint64pow10").bind (fun g => (Tryz.prog.globals[g]?).map (·.type)) = some 142 := by kernel_rfl
 rw [hg] at hgt
 obtain rfl : 142 = t := Option.some.inj (hgt.symm.trans ht)
 unfold PowT Lib.TabIs
 rw [hv, <- Lib.cells_of_tab Tryz.underlying142 Tryz.underlying82 (by kernel_rfl) (by kernel_rfl) hd]
def db64 : List Int := [0, 1, 56, 2, 57, 49, 28, 3, 61, 58, 42, 50, 38, 29, 17, 4, 62, 47, 59, 36, 45, 43, 51, 22, 53, 39, 33, 30, 24, 18, 12, 5, 63, 55, 48, 27, 60, 41, 37, 16, 46, 35, 44, 21, 52, 32, 23, 11, 54, 26, 40, 15, 34, 20, 31, 10, 25, 14, 19, 9, 13, 8, 7, 6]
theorem db_is : (Rows.laid_math_bits_deBruijn64tab : DataW Unit) = Lib.tabData .u8 db64 := by kernel_rfl
theorem dbT_of {w : World} (h3 : Lib.VarReads Tryz.prog w "math/bits.deBruijn64tab" Rows.laid_math_bits_deBruijn64tab) : DbT w := by
 rw [db_is] at h3
 obtain ⟨g, t, cs, fuel, p, hg, ht, hv, hd⟩ := h3
 have hgt : (Tryz.prog.globalNamed "math/bits.deBruijn64tab").bind (fun g => (Tryz.prog.globals[g]?).map (·.type)) = some 162 := by kernel_rfl
 rw [hg] at hgt
 obtain rfl : 162 = t := Option.some.inj (hgt.symm.trans ht)
 have hT : Lib.TabIs Tryz.prog w "math/bits.deBruijn64tab" .u8 db64 := by
  unfold Lib.TabIs
  rw [hv, <- Lib.cells_of_tab Tryz.underlying162 Tryz.underlying5 (by kernel_rfl) (by kernel_rfl) hd]
 have := hT.cell (g := 9) (by kernel_rfl) 15 (by decide)
 exact this
end Go.Proofs.YtbkfinjajkjhaaaGreatDoor
