import Derived.Test.YtadfihnffboelaaGreatDoorSG6
import Derived.Test.YtadfihnffboelaaGreatDoorSG4
import Derived.Test.YtadfihnffboelaaGreatDoorSL3
import Derived.Deep.QuietTactic
import Derived.BigQuiet
set_option linter.unusedVariables false
set_option linter.unusedSimpArgs false
namespace Go.Proofs.YtadfihnffboelaaGreatDoor
open Go.RowKit
theorem xz (k n : Int) (hk : k ≠ 8) : isHd (zj k n 0) = false := by
 unfold isHd
 refine decide_eq_false (fun e => ?_)
 cases h : zk k n 0
 ·have e0 : zj k n 0 = 0 := by unfold zj; rw [h]; rfl
  rw [e0] at e
  revert e; decide
 ·have := (say h hk rfl).1
  unfold nK at this
  rw [this] at e
  exact hk e
theorem zks (ls : List ByteArray) (d : Nd) : isHd (yz ls d) = false := by
 unfold yz
 repeat' split
 all_goals exact xz _ _ (by decide)
theorem zfm {nm : List ByteArray} {a : Nat} {cs : List Nd} : ∀ q, q <= cs.length -> ∀ z ∈ (putS nm a (cs.take q)).ws, isHd z = false
 | 0, _ => by simp [putS]
 | q + 1, h => by
  rw [jv (by omega)]
  have ih := zfm (nm := nm) (a := a) (cs := cs) q (by omega)
  unfold fg
  split
  ·intro z hz
   rcases List.mem_append.1 hz with hz | hz
   ·exact ih z hz
   ·obtain rfl := List.mem_singleton.1 hz; exact zks _ _
  ·intro z hz
   rcases List.mem_append.1 hz with hz | hz
   ·exact ih z hz
   ·obtain rfl := List.mem_singleton.1 hz; exact xz _ _ (by decide)
theorem zts : isHd 0 = false := by decide
theorem zkt {ws : List Int} (h : ∀ z ∈ ws, isHd z = false) (i : Nat) : isHd (ws.getD i 0) = false := by
 by_cases hi : i < ws.length
 ·exact h _ (jn hi)
 ·rw [List.getD_eq_getElem?_getD, List.getElem?_eq_none (by omega)]; exact zts
theorem zfn (d : Nd) {ws : List Int} (h : ∀ z ∈ ws, isHd z = false) : ∀ z ∈ yi d ws, isHd z = false := by
 intro z hz
 unfold yi at hz
 split at hz
 ·unfold bigL at hz
  rcases List.mem_cons.1 hz with rfl | hz
  ·exact xz _ _ (by decide)
  ·obtain ⟨x, _, rfl⟩ := List.mem_map.1 hz; exact xz _ _ (by decide)
 split at hz
 ·obtain ⟨x, _, rfl⟩ := List.mem_map.1 hz; exact xz _ _ (by decide)
 split at hz
 ·unfold kh at hz
  obtain ⟨x, _, rfl⟩ := List.mem_map.1 hz; exact xz _ _ (by decide)
 ·obtain ⟨x, _, rfl⟩ := List.mem_map.1 hz; exact zkt h _
def yb (ws : List Int) (cs : List Nd) : List Ob := (cs.filter (fun d => decide (0 < zm d))).map (fun d => ⟨zr d, yi d ws⟩)
theorem zbm (d : Nd) : 1 <= zr d /\ zr d <= 5 := by
 unfold zr
 repeat' split
 all_goals omega
theorem zbn {ws : List Int} {cs : List Nd} {q : Nat} (h : q < cs.length) : yb ws (cs.take (q + 1)) = yb ws (cs.take q) ++ (if 0 < zm (cs.getD q default) then [⟨zr (cs.getD q default), yi (cs.getD q default) ws⟩] else []) := by
 have e : cs.getD q default = cs[q] := by rw [List.getD_eq_getElem?_getD, List.getElem?_eq_getElem h]; rfl
 unfold yb
 rw [List.take_succ_eq_append_getElem h, List.filter_append, List.map_append, e]
 congr 1
 by_cases hz : 0 < zm cs[q]
 ·rw [if_pos hz, List.filter_cons_of_pos (by exact decide_eq_true hz)]; rfl
 ·rw [if_neg hz, List.filter_cons_of_neg (by rw [decide_eq_false hz]; decide)]; rfl
theorem vz {ws : List Int} {cs : List Nd} (hs : cs.all (fun d => decide (0 <= zm d)) = true) : ∀ q, q <= cs.length -> ((zg (yb ws (cs.take q)) : Nat) : Int) = sumN (cs.take q)
 | 0, _ => by simp [yb, zg, sumN]
 | q + 1, h => by
  have hq : q < cs.length := by omega
  have ih := vz (ws := ws) hs q (by omega)
  have hm : cs.getD q default ∈ cs := by rw [List.getD_eq_getElem?_getD, List.getElem?_eq_getElem hq]; exact List.getElem_mem _
  have h0 := of_decide_eq_true (List.all_eq_true.1 hs _ hm)
  rw [zbn hq, vx hq, jf]
  by_cases hz : 0 < zm (cs.getD q default)
  ·have := gz (ws := ws) hz
   rw [if_pos hz]
   show ((zg (yb ws (cs.take q)) + (1 + (yi (cs.getD q default) ws).length + 0) : Nat) : Int) = _
   omega
  ·rw [if_neg hz]
   show ((zg (yb ws (cs.take q)) + 0 : Nat) : Int) = _
   omega
theorem ztt {N : Int} {os : List Ob} {ws : List Int} {cs : List Nd} (hw : ∀ z ∈ ws, isHd z = false) (hs : cs.all (fun d => decide (0 <= zm d)) = true) (hr : ((zg os : Nat) : Int) + sumN cs <= N) : ∀ q, q <= cs.length -> putO N ws os (cs.take q) = os ++ yb ws (cs.take q)
 | 0, _ => by simp [putO, yb]
 | q + 1, h => by
  have hq : q < cs.length := by omega
  have ih := ztt (N := N) (os := os) hw hs hr q (by omega)
  have hu := vz (ws := ws) hs q (by omega)
  have hsum := zie hs (q + 1)
  rw [vx hq] at hsum
  rw [zkp hq, zbn hq, ih]
  by_cases hz : 0 < zm (cs.getD q default)
  ·rw [if_pos hz, if_pos hz]
   have hk := zbm (cs.getD q default)
   have hl := gz (ws := ws) hz
   have hany : (yi (cs.getD q default) ws).any isHd = false := by
    rw [List.any_eq_false]
    intro z hz'
    rw [zfn _ hw z hz']; decide
   have hal : (yf (os ++ yb ws (cs.take q)) N (zr (cs.getD q default)) (yi (cs.getD q default) ws)).2 = 0 := by
    unfold yf
    rw [if_neg (by omega), hany, if_neg (by decide), if_neg (by rw [jf]; omega)]
   unfold yr
   rw [if_pos hal, List.append_assoc]
  ·rw [if_neg hz, if_neg hz, List.append_nil]
section
variable {N : Int} {os : List Ob} {nm : List ByteArray} {cs : List Nd}
structure zcn (N : Int) (os : List Ob) (nm : List ByteArray) (cs : List Nd) : Prop where
 nd : ∀ d ∈ cs, qo cs.length d = true
 cn : ∀ d ∈ cs, CNd d
 sz : cs.all (fun d => decide (0 <= zm d)) = true
 room : ((zg os : Nat) : Int) + sumN cs <= N
 most : N <= 4194304
 nms : nm.length + cs.length <= 1000000000
theorem zcn.objs (h : zcn N os nm cs) : putO N (putS nm (zg os) cs).ws os cs = os ++ yb (putS nm (zg os) cs).ws cs := by
 have hw := zfm (nm := nm) (a := zg os) (cs := cs) cs.length (Nat.le_refl _)
 rw [List.take_length] at hw
 have := ztt (N := N) (os := os) hw h.sz h.room cs.length (Nat.le_refl _)
 rw [List.take_length] at this
 exact this
theorem zcn.used (h : zcn N os nm cs) : ((zg (os ++ yb (putS nm (zg os) cs).ws cs) : Nat) : Int) = (zg os : Nat) + sumN cs /\ zg (os ++ yb (putS nm (zg os) cs).ws cs) <= 4194304 := by
 have := vz (ws := (putS nm (zg os) cs).ws) h.sz cs.length (Nat.le_refl _)
 rw [List.take_length] at this
 have hr := h.room
 have hm := h.most
 rw [jf]
 omega
theorem zcn.place (h : zcn N os nm cs) {i : Nat} (hi : i < cs.length) (hz : 0 < zm (cs.getD i default)) :
  ∃ k, qm (os ++ yb (putS nm (zg os) cs).ws cs) ((putS nm (zg os) cs).ws.getD i 0) = some k /\ (os ++ yb (putS nm (zg os) cs).ws cs).getD k default = ⟨zr (cs.getD i default), yi (cs.getD i default) (putS nm (zg os) cs).ws⟩ /\ (putS nm (zg os) cs).ws.getD i 0 = zj 2 ((putS nm (zg os) (cs.take i)).at_ : Nat) 0 /\ ((putS nm (zg os) (cs.take i)).at_ : Int) = (zg os : Nat) + sumN (cs.take i) /\ k = (os ++ yb (putS nm (zg os) cs).ws (cs.take i)).length := by
 have hu := h.used.2
 have hw := ztq (nm := nm) (a := zg os) hi
 rw [if_neg (by omega)] at hw
 have hat := zid (nm := nm) (a := zg os) h.sz i (by omega)
 generalize hws : (putS nm (zg os) cs).ws = ws at *
 have hou := vz (ws := ws) h.sz i (by omega)
 have hsplit : ∃ rest, yb ws cs = yb ws (cs.take i) ++ (⟨zr (cs.getD i default), yi (cs.getD i default) ws⟩ :: rest) := by
  have e1 : cs = cs.take (i + 1) ++ cs.drop (i + 1) := (List.take_append_drop _ _).symm
  refine ⟨yb ws (cs.drop (i + 1)), ?_⟩
  conv => lhs; rw [e1]
  have e2 : ∀ x y : List Nd, yb ws (x ++ y) = yb ws x ++ yb ws y := fun x y => by unfold yb; rw [List.filter_append, List.map_append]
  rw [e2, zbn hi, if_pos hz, List.append_assoc]; rfl
 obtain ⟨rest, hsp⟩ := hsplit
 have hk : (os ++ yb ws (cs.take i)).length < (os ++ yb ws cs).length := by
  rw [hsp, <- List.append_assoc]; simp
 have hatk : atO (os ++ yb ws cs) (os ++ yb ws (cs.take i)).length = (putS nm (zg os) (cs.take i)).at_ := by
  unfold atO
  rw [hsp, <- List.append_assoc, List.take_left, jf]
  omega
 refine ⟨(os ++ yb ws (cs.take i)).length, ?_, ?_, hw, hat, rfl⟩
 ·rw [hw, <- hatk]
  exact zwx hk (by omega)
 ·rw [hsp, <- List.append_assoc, List.getD_eq_getElem?_getD, List.getElem?_append_right (Nat.le_refl _), Nat.sub_self]; rfl
end
def dd : List Int -> List Int
 | [] => []
 | x :: l => if x ∈ l then dd l else x :: dd l
theorem zgr : ∀ {l : List Int} {x : Int}, x ∈ dd l ↔ x ∈ l
 | [], x => Iff.rfl
 | y :: l, x => by
  unfold dd
  by_cases h : y ∈ l
  ·rw [if_pos h, zgr, List.mem_cons]
   constructor
   ·exact .inr
   ·rintro (rfl | e)
    ·exact h
    ·exact e
  ·rw [if_neg h, List.mem_cons, List.mem_cons, zgr]
theorem zdq : ∀ (l : List Int), (dd l).Nodup
 | [] => List.nodup_nil
 | y :: l => by
  unfold dd
  by_cases h : y ∈ l
  ·rw [if_pos h]; exact zdq l
  ·rw [if_neg h]; exact List.nodup_cons.2 ⟨fun e => h (zgr.1 e), zdq l⟩
theorem zav1 {d : Nd} (h : okD d = true) (ha : yw d.kind = true) : d.kids = [] := by
 unfold okD at h
 rw [Bool.and_eq_true] at h
 have hk : d.kind = 1 \/ d.kind = 2 \/ d.kind = 3 \/ d.kind = 4 \/ d.kind = 6 \/ d.kind = 10 \/ d.kind = 11 := by
  unfold yw at ha
  simp only [Bool.or_eq_true, decide_eq_true_eq] at ha
  omega
 refine ztr h.2 ?_ ?_ ?_ ?_ ?_ <;> omega
section
variable {D Dc : Int -> Nd} {roots rootsc W Wc rs rc : List Int} {ns nc : List Nd} {ψ : Int -> Int} {f : Nat}
theorem znw (T : Told D roots W ns rs) (Tc : Told Dc rootsc Wc nc rc) (hr : roots = rootsc.map ψ) (hok : ∀ x, okD (D x) = true)
  (hψ : ∀ x, Rch Dc rootsc x -> yx (D (ψ x)) (Dc x) /\ (D (ψ x)).kids = (Dc x).kids.map ψ)
  (hi : ∀ x y, Rch Dc rootsc x -> Rch Dc rootsc y -> ψ x = ψ y -> x = y \/ yw (Dc x).kind = true)
  (hb : ∀ x, Rch Dc rootsc x -> yw (Dc x).kind = true -> (Dc x).kids = []) (F : Fine ns rs f) (Fc : Fine nc rc f) : yg ns rs f = yg nc rc f := by
 have hin : ∀ i, i < ns.length -> W.getD i 0 ∈ W := fun i hi => jn (by rw [T.len]; exact hi)
 have hc : ∀ x ∈ dd W, ∀ y ∈ (D x).kids, y ∈ dd W := fun x hx y hy => by
  obtain ⟨i, hi, rfl⟩ := zpl (zgr.1 hx)
  rw [T.len] at hi
  rw [<- T.kids i hi] at hy
  obtain ⟨k, hk, rfl⟩ := List.mem_map.1 hy
  have := T.kr i hi k hk
  exact zgr.2 (hin _ (by omega))
 have hrt : ∀ x ∈ roots, x ∈ dd W := fun x hx => by
  rw [<- T.rts] at hx
  obtain ⟨k, hk, rfl⟩ := List.mem_map.1 hx
  have := T.rr k hk
  exact zgr.2 (hin _ (by omega))
 have TM := zaf1 (D := D) (roots := roots) (zdq W) hc hrt
 have hg := TM.good (fun x _ => hok x)
 have hn := zwv (D := D) (zdq W)
 have e1 : yg (mkG D (dd W)) (roots.map (fun y => (((dd W).idxOf y : Nat) : Int))) f = yg ns rs f := by
  have TM' : Told D (roots.map id) (dd W) (mkG D (dd W)) (roots.map (fun y => (((dd W).idxOf y : Nat) : Int))) := by rw [List.map_id]; exact TM
  exact zgi T TM' hn (fun x _ => ⟨⟨rfl, rfl, rfl⟩, (List.map_id _).symm⟩) (fun x y _ _ e => .inl e) (fun x _ ha => zav1 (hok x) ha) F hg
 have e2 : yg (mkG D (dd W)) (roots.map (fun y => (((dd W).idxOf y : Nat) : Int))) f = yg nc rc f := by
  rw [hr] at TM hg ⊢
  exact zgi Tc TM hn hψ hi hb Fc hg
 rw [<- e1, e2]
end
theorem zku {ns : List Nd} {rs : List Int} (h : ys ns rs = true) : Told (fun i => ns.getD i.toNat default) rs ((List.range ns.length).map (fun n : Nat => (n : Int))) ns rs := by
 have hW : ∀ i, i < ns.length -> ((List.range ns.length).map (fun n : Nat => (n : Int))).getD i 0 = (i : Int) := fun i hi => by
  rw [List.getD_eq_getElem?_getD, List.getElem?_map, List.getElem?_range hi]; rfl
 obtain ⟨hk, hr⟩ := yp h
 have hid : ∀ l : List Int, (∀ k ∈ l, 0 <= k /\ k < ns.length) -> l.map (fun k => ((List.range ns.length).map (fun n : Nat => (n : Int))).getD k.toNat 0) = l := fun l hl => by
  conv => rhs; rw [<- List.map_id l]
  refine List.map_congr_left (fun k hk => ?_)
  have := hl k hk
  rw [hW _ (by omega)]
  show (k.toNat : Int) = k
  omega
 have hkr : ∀ i, i < ns.length -> ∀ k ∈ (ns.getD i default).kids, 0 <= k /\ k < ns.length := fun i hi => by
  have hm : ns.getD i default ∈ ns := by rw [List.getD_eq_getElem?_getD, List.getElem?_eq_getElem hi]; exact List.getElem_mem _
  exact zq (zbi (vw h _ hm)).2
 refine ⟨by simp, fun i hi => ?_, fun i hi => ?_, hkr, hid rs (zq hr), zq hr, fun i j hi hj e => .inl ?_⟩
 ·rw [hW i hi]; exact ⟨rfl, rfl, rfl⟩
 ·rw [hW i hi, hid _ (hkr i hi)]; rfl
 ·rw [hW i hi, hW j hj] at e; omega
theorem xl {ns : List Nd} {rs : List Int} (h : ys ns rs = true) {x : Int} (hx : Rch (fun i => ns.getD i.toNat default) rs x) : 0 <= x /\ x < ns.length := by
 obtain ⟨hk, hr⟩ := yp h
 induction hx with
 | root hm => exact zq hr _ hm
 | @kid x y _ hy ih =>
  have hm : ns.getD x.toNat default ∈ ns := by rw [List.getD_eq_getElem?_getD, List.getElem?_eq_getElem (by omega)]; exact List.getElem_mem _
  exact zq (zbi (vw h _ hm)).2 y hy
theorem zkv {ns : List Nd} {rs : List Int} (h : ys ns rs = true) {x : Int} (hx : 0 <= x /\ x < ns.length) (ha : yw (ns.getD x.toNat default).kind = true) : (ns.getD x.toNat default).kids = [] := by
 have hm : ns.getD x.toNat default ∈ ns := by rw [List.getD_eq_getElem?_getD, List.getElem?_eq_getElem (by omega)]; exact List.getElem_mem _
 exact zaq h _ hm ha
section
variable {N : Int} {os : List Ob} {nm : List ByteArray} {cs ns : List Nd} {crs rs W : List Int} {f : Nat}
abbrev pW (nm : List ByteArray) (os : List Ob) (cs : List Nd) (x : Int) : Int := (putS nm (zg os) cs).ws.getD x.toNat 0
abbrev pO (nm : List ByteArray) (os : List Ob) (cs : List Nd) : List Ob := os ++ yb (putS nm (zg os) cs).ws cs
abbrev pR (nm : List ByteArray) (os : List Ob) (cs : List Nd) (crs : List Int) : List Int := crs.map (pW nm os cs)
end
set_option maxRecDepth 100000
theorem zab {fn : Func} {t u v x : Tmp} (h : fn.results = #[.tmp t, .tmp u, .tmp v, .tmp x]) (tmps : Array Value) (P : Program) (w : World) :
  (results fn tmps).run P w = .ok (.tuple #[tmps.getD t undef, tmps.getD u undef, tmps.getD v undef, tmps.getD x undef]) w := by
 simp [results, h]
structure PH (B : Nat) (v : Value) (N : Int) (ws : List Int) (F : Nat -> Prop) (w : World) : Prop where
 ok : ∃ gh gw n rest, v = .pointer (some ⟨gh, 0, none⟩) /\ w.heap[gh]? = some (.cells #[.slice (some ⟨gw, 0, none⟩) n n, .int .i64 (ws.length : Nat)] 74 (0, 0)) /\ (n : Int) = N /\ w.heap[gw]? = some (.cells (uz (ws ++ rest)).toArray 70 (0, 0)) /\ (ws ++ rest).length = n /\ gh ≠ gw /\ B <= gh /\ B <= gw /\ (∀ b, F b ↔ b = gh \/ b = gw)
 bd : (ws.length : Int) <= N /\ N <= 4194304
 u : ∀ z ∈ ws, U64 z
theorem PH.ge {B : Nat} {v : Value} {N : Int} {ws : List Int} {F : Nat -> Prop} {w : World} (h : PH B v N ws F w) : ∀ b, F b -> B <= b /\ b < w.heap.size := by
 obtain ⟨gh, gw, n, rest, rfl, h1, h2, h3, h4, h5, h6, h7, h8⟩ := h.ok
 intro b hb
 rcases (h8 b).1 hb with rfl | rfl
 ·exact ⟨h6, (Array.getElem?_eq_some_iff.1 h1).1⟩
 ·exact ⟨h7, (Array.getElem?_eq_some_iff.1 h3).1⟩
theorem PH.keep {B : Nat} {v : Value} {N : Int} {ws : List Int} {F : Nat -> Prop} {w w' : World} (h : PH B v N ws F w) (hb : ∀ b, F b -> w'.heap[b]? = w.heap[b]?) : PH B v N ws F w' := by
 refine ⟨?_, h.bd, h.u⟩
 obtain ⟨gh, gw, n, rest, e, h1, h2, h3, h4, h5, h6, h7, h8⟩ := h.ok
 exact ⟨gh, gw, n, rest, e, (hb gh ((h8 gh).2 (.inl rfl))).trans h1, h2, (hb gw ((h8 gw).2 (.inr rfl))).trans h3, h4, h5, h6, h7, h8⟩
theorem PH.ptr {B : Nat} {v : Value} {N : Int} {ws : List Int} {F : Nat -> Prop} {w : World} (h : PH B v N ws F w) : ∃ gh, v = .pointer (some ⟨gh, 0, none⟩) := by
 obtain ⟨gh, _, _, _, e, _⟩ := h.ok; exact ⟨gh, e⟩
def zih (B : Nat) (v : Value) (N : Int) (F : Nat -> Prop) (w : World) (ws' : List Int) (w' : World) : Prop :=
 ∃ F', PH B v N ws' F' w' /\ (∀ b, F' b -> F b \/ w.heap.size <= b) /\ Mod F w w'
structure PO (B gh gw n : Nat) (N : Int) (ws rest : List Int) (F : Nat -> Prop) (w : World) : Prop where
 box : w.heap[gh]? = some (.cells #[.slice (some ⟨gw, 0, none⟩) n n, .int .i64 (ws.length : Nat)] 74 (0, 0))
 nn : (n : Int) = N
 row : w.heap[gw]? = some (.cells (uz (ws ++ rest)).toArray 70 (0, 0))
 len : (ws ++ rest).length = n
 ne : gh ≠ gw
 bh : B <= gh
 bw : B <= gw
 ff : ∀ b, F b ↔ b = gh \/ b = gw
 bd : (ws.length : Int) <= N /\ N <= 4194304
 u : ∀ z ∈ ws, U64 z
section
variable {B gh gw n : Nat} {v : Value} {N : Int} {ws rest : List Int} {F : Nat -> Prop} {w w' : World}
theorem PH.opened (h : PH B v N ws F w) : ∃ gh gw n rest, v = .pointer (some ⟨gh, 0, none⟩) /\ PO B gh gw n N ws rest F w := by
 obtain ⟨gh, gw, n, rest, rfl, h1, h2, h3, h4, h5, h6, h7, h8⟩ := h.ok
 exact ⟨gh, gw, n, rest, rfl, h1, h2, h3, h4, h5, h6, h7, h8, h.bd, h.u⟩
theorem PO.shut (h : PO B gh gw n N ws rest F w) : PH B (.pointer (some ⟨gh, 0, none⟩)) N ws F w :=
 ⟨⟨gh, gw, n, rest, rfl, h.box, h.nn, h.row, h.len, h.ne, h.bh, h.bw, h.ff⟩, h.bd, h.u⟩
theorem PO.c0 (h : PO B gh gw n N ws rest F w) : w.cell? ⟨gh, 0, none⟩ = some (.slice (some ⟨gw, 0, none⟩) n n) := za h.box 0
theorem PO.c1 (h : PO B gh gw n N ws rest F w) : w.cell? ⟨gh, 1, none⟩ = some (.int .i64 (ws.length : Nat)) := za h.box 1
theorem PO.word (h : PO B gh gw n N ws rest F w) {i : Nat} (hi : i < n) : w.cell? ⟨gw, i, none⟩ = some (.int .u64 ((ws ++ rest).getD i 0)) := by
 rw [za h.row, List.getElem?_toArray, zeg (by rw [h.len]; exact hi)]
theorem PO.used_le (h : PO B gh gw n N ws rest F w) : ws.length <= n := by have := h.len; rw [List.length_append] at this; omega
theorem PO.word' (h : PO B gh gw n N ws rest F w) {i : Nat} (hi : i < ws.length) : w.cell? ⟨gw, i, none⟩ = some (.int .u64 (ws.getD i 0)) := by
 rw [h.word (Nat.lt_of_lt_of_le hi h.used_le), List.getD_eq_getElem?_getD, List.getElem?_append_left hi, <- List.getD_eq_getElem?_getD]
theorem PO.on (h : PO B gh gw n N ws rest F w) (hb : Below w.heap.size w w') : PO B gh gw n N ws rest F w' :=
 { h with box := (hb.block gh (Array.getElem?_eq_some_iff.1 h.box).1).trans h.box, row := (hb.block gw (Array.getElem?_eq_some_iff.1 h.row).1).trans h.row }
theorem PO.put (h : PO B gh gw n N ws rest F w) {i : Nat} (hi : i < ws.length) {z : Int} (hz : U64 z) : PO B gh gw n N (ws.set i z) rest F (w.setCell ⟨gw, i, none⟩ (.int .u64 z)) /\ Mod F w (w.setCell ⟨gw, i, none⟩ (.int .u64 z)) := by
 refine ⟨{ h with box := ?_, row := ?_, len := ?_, bd := ?_, u := ?_ }, (Mod.refl F w).setCell (.inl ((h.ff gw).2 (.inr rfl))) _⟩
 ·rw [List.length_set]; exact (Below.heap_setCell _ _ _ _ h.ne).trans h.box
 ·have := zy (i := i) h.row (.int .u64 z)
  rw [this]
  simp [uz, List.map_append, List.map_set, List.set_append_left _ _ (show i < (ws.map (Value.int .u64)).length by simpa using hi)]
 ·rw [List.length_append, List.length_set, <- List.length_append]; exact h.len
 ·rw [List.length_set]; exact h.bd
 ·intro y hy
  rcases List.mem_or_eq_of_mem_set hy with hy | rfl
  ·exact h.u y hy
  ·exact hz
end
theorem zxm {os : List Ob} (ho : OsOk os) (hu : zg os <= 4194304) {p : Int} {k : Nat} (h : qm os p = some k) :
  isR 2 p = true /\ hasR 2 p = (atO os k : Nat) /\ atO os k < zg os /\ ofR ((zo os).getD (atO os k) 0) = ((8 : Int), (((os.getD k default).f.length : Nat) : Int), (os.getD k default).kind) := by
 have h1 := zby h
 have h2 : (ofR p).1 = 2 := by
  unfold qm at h
  split at h
  ·assumption
  ·cases h
 have h3 := zhw h1.1
 refine ⟨by unfold isR; simp [h2], by unfold hasR; rw [if_pos h2]; exact h1.2.symm, by omega, ?_⟩
 rw [zkh h1.1]
 exact zsz (ho.kd _ (km h1.1)) (by omega)
theorem zxn {os : List Ob} (ho : OsOk os) (hu : zg os <= 4194304) {p : Int} (hp : U64 p) (h : qm os p = none) :
  isR 2 p = false \/ ∃ a : Nat, hasR 2 p = (a : Int) /\ (zg os <= a \/ (ofR ((zo os).getD a 0)).1 ≠ 8) := by
 by_cases h2 : (ofR p).1 = 2
 ·right
  have h3 := zpp hp h2
  have hn : 0 <= (ofR p).2.1 := by unfold U64 at hp; omega
  refine ⟨(ofR p).2.1.toNat, by unfold hasR; rw [if_pos h2]; omega, ?_⟩
  by_cases h4 : zg os <= (ofR p).2.1.toNat
  ·exact .inl h4
  ·right
   intro e
   obtain ⟨k, hk, hka⟩ := (zwy ho (by omega) (by omega)).1 e
   have := zzb (os := os) hk (Nat.zero_le k)
   unfold qm at h
   rw [if_pos h2] at h
   have hc : ((atO os k : Nat) : Int) = (ofR p).2.1 := by omega
   rw [hc] at this
   rw [h] at this; cases this
 ·left; unfold isR; simp [h2]
section
variable {B : Nat} {v : Value} {N : Int} {F : Nat -> Prop} {ws : List Int}
theorem ztu (w : World) (h : PH B v N ws F w) : Calls Tryz.prog 21 #[v] w fun e w' => e = .returned (.int .i64 (ws.length : Nat)) /\ w' = w := by
 obtain ⟨gh, gw, n, rest, rfl, hp⟩ := h.opened
 have c1 := hp.c1
 clear h hp
 go_enter Tryz.func21, Tryz.ntmps21
 go_wp2
 go_ret
 exact ⟨rfl, rfl⟩
theorem zkw (w : World) (h : PH B v N ws F w) : Calls Tryz.prog 21 #[v] w fun e w' => e = .returned (.int .i64 (ws.length : Nat)) /\ Below w.heap.size w w' :=
 (ztu w h).mono (fun e w' ⟨h1, h2⟩ => ⟨h1, by rw [h2]; exact Below.refl _ _⟩)
theorem zfo (w : World) (h : PH B v N ws F w) : Calls Tryz.prog 37 #[v] w fun e w' => e = .returned (.int .i64 (N - (ws.length : Nat))) /\ Below w.heap.size w w' := by
 obtain ⟨gh, gw, n, rest, rfl, hp⟩ := h.opened
 have c0 := hp.c0
 have c1 := hp.c1
 have hu := hp.used_le
 have hn := hp.nn
 have hbd := hp.bd
 subst hn
 clear h hp
 go_enter Tryz.func37, Tryz.ntmps37
 go_wp2_with fail
 go_quiet (fail)
 go_wp2
 go_ret
 exact ⟨rfl, Bd _ _⟩
theorem q_in {k : Nat} (hk : k < ws.length) (w : World) (h : PH B v N ws F w) : Calls Tryz.prog 84 #[v, .int .i64 k] w fun e w' => e = .returned (.bool true) /\ w' = w := by
 have CU := hid (ztu w h)
 have hbd := h.bd
 obtain ⟨gh, rfl⟩ := h.ptr
 clear h
 go_enter Tryz.func84, Tryz.ntmps84
 go_wp2_with (go_at_call 21; (with_reducible refine CU.out.mono ?_); rintro e W1 ⟨rfl, hw1⟩; rw [hw1]; clear hw1)
 go_ret
 exact ⟨rfl, rfl⟩
theorem zeo1 {i : Int} (hi : i < 0 \/ (ws.length : Int) <= i) (w : World) (h : PH B v N ws F w) : Calls Tryz.prog 84 #[v, .int .i64 i] w fun e w' => e = .returned (.bool false) /\ w' = w := by
 have CU := hid (ztu w h)
 have hbd := h.bd
 obtain ⟨gh, rfl⟩ := h.ptr
 clear h
 by_cases h0 : i < 0
 ·go_enter Tryz.func84, Tryz.ntmps84
  go_wp2_with (go_at_call 21; (with_reducible refine CU.out.mono ?_); rintro e W1 ⟨rfl, hw1⟩; rw [hw1]; clear hw1)
  go_ret
  exact ⟨rfl, rfl⟩
 ·have h1 : (ws.length : Int) <= i := by omega
  clear hi
  go_enter Tryz.func84, Tryz.ntmps84
  go_wp2_with (go_at_call 21; (with_reducible refine CU.out.mono ?_); rintro e W1 ⟨rfl, hw1⟩; rw [hw1]; clear hw1)
  go_ret
  refine ⟨?_, rfl⟩
  show Ending.returned (Value.bool (decide (i < (ws.length : Int)))) = _
  rw [decide_eq_false (by omega)]
theorem ztv {k : Nat} (hk : k < ws.length) (w : World) (h : PH B v N ws F w) : Calls Tryz.prog 47 #[v, .int .i64 k] w fun e w' => e = .returned (.int .u64 (ws.getD k 0)) /\ w' = w := by
 have CU := hid (q_in hk w h)
 obtain ⟨gh, gw, n, rest, rfl, hp⟩ := h.opened
 have c0 := hp.c0
 have cw := hp.word' hk
 have hul := hp.used_le
 have hnn := hp.nn
 have hbd := hp.bd
 obtain ⟨z, hz⟩ : ∃ z, z = ws.getD k 0 := ⟨_, rfl⟩
 rw [<- hz] at cw ⊢
 clear hz h hp
 go_enter Tryz.func47, Tryz.ntmps47
 go_wp2_with (go_at_call 84; (with_reducible refine CU.out.mono ?_); rintro e W1 ⟨rfl, hw1⟩; rw [hw1]; clear hw1)
 go_ret
 exact ⟨rfl, rfl⟩
theorem znx {i : Int} (hi : i < 0 \/ (ws.length : Int) <= i) (w : World) (h : PH B v N ws F w) : Calls Tryz.prog 47 #[v, .int .i64 i] w fun e w' => e = .returned (.int .u64 0) /\ w' = w := by
 have CU := hid (zeo1 hi w h)
 obtain ⟨gh, rfl⟩ := h.ptr
 clear h hi
 go_enter Tryz.func47, Tryz.ntmps47
 go_wp2_with (go_at_call 84; (with_reducible refine CU.out.mono ?_); rintro e W1 ⟨rfl, hw1⟩; rw [hw1]; clear hw1)
 go_ret
 exact ⟨rfl, rfl⟩
theorem ztw (i : Int) (hi : Z64 i) (w : World) (h : PH B v N ws F w) : Calls Tryz.prog 47 #[v, .int .i64 i] w fun e w' => e = .returned (.int .u64 (if 0 <= i /\ i < ws.length then ws.getD i.toNat 0 else 0)) /\ Below w.heap.size w w' := by
 by_cases hc : 0 <= i /\ i < ws.length
 ·rw [if_pos hc]
  obtain ⟨k, rfl⟩ : ∃ k : Nat, i = (k : Int) := ⟨i.toNat, by omega⟩
  rw [Int.toNat_natCast]
  exact (ztv (by omega) w h).mono (fun e w' ⟨h1, h2⟩ => ⟨h1, by rw [h2]; exact Below.refl _ _⟩)
 ·rw [if_neg hc]
  exact (znx (by omega) w h).mono (fun e w' ⟨h1, h2⟩ => ⟨h1, by rw [h2]; exact Below.refl _ _⟩)
theorem zep1 {p : Int} {a : Nat} (hp : U64 p) (h2 : isR 2 p = true) (ha : hasR 2 p = (a : Int)) (hl : a < ws.length) (h8 : isR 8 (ws.getD a 0) = true) (w : World) (h : PH B v N ws F w) :
  Calls Tryz.prog 128 #[v, .int .u64 p] w fun e w' => e = .returned (.tuple #[.int .i64 a, .int .i64 (typR (ws.getD a 0)), .int .i64 (hasR 8 (ws.getD a 0)), .int .i64 0]) /\ w' = w := by
 have C1 := hid (zyv p hp w)
 rw [h2, ha] at C1
 have C2 := hid (ztv hl w h)
 have hz := h.u _ (ya hl)
 obtain ⟨gh, rfl⟩ := h.ptr
 obtain ⟨z, hzz⟩ : ∃ z, z = ws.getD a 0 := ⟨_, rfl⟩
 rw [<- hzz] at hz h8 C2 ⊢
 have C3 := hid (zam z hz w)
 rw [h8] at C3
 obtain ⟨kd, hkd⟩ : ∃ k, k = typR z := ⟨_, rfl⟩
 obtain ⟨sz, hsz⟩ : ∃ k, k = hasR 8 z := ⟨_, rfl⟩
 rw [<- hkd, <- hsz] at C3 ⊢
 clear h hzz hz h8 hkd hsz h2 ha hl
 go_enter Tryz.func128, Tryz.ntmps128
 go_wp2_with (first
  | (go_at_call 104; (with_reducible refine C1.out.mono ?_); rintro e W1 ⟨rfl, hw1⟩; rw [hw1]; clear hw1)
  | (go_at_call 47; (with_reducible refine C2.out.mono ?_); rintro e W1 ⟨rfl, hw1⟩; rw [hw1]; clear hw1)
  | (go_at_call 112; (with_reducible refine C3.out.mono ?_); rintro e W1 ⟨rfl, hw1⟩; rw [hw1]; clear hw1))
 (try simp only [Exit.inBlock, Exit.then]); refine bodyPost_ret (zab rfl _ _ _) rfl ?_
 exact ⟨rfl, rfl⟩
theorem zxo : isR 8 0 = false := by unfold isR; simp [ofR, jj, zk]; split <;> simp
theorem zaw1 {p : Int} (hp : U64 p) (hno : isR 2 p = false \/ ∃ a : Nat, hasR 2 p = (a : Int) /\ (ws.length <= a \/ isR 8 (ws.getD a 0) = false)) (w : World) (h : PH B v N ws F w) :
  Calls Tryz.prog 128 #[v, .int .u64 p] w fun e w' => e = .returned (.tuple #[.int .i64 0, .int .i64 0, .int .i64 0, .int .i64 70]) /\ w' = w := by
 have C1 := hid (zyv p hp w)
 by_cases h2 : isR 2 p = true
 ·rw [h2] at C1 hno
  obtain ⟨a, ha, hb⟩ := hno.resolve_left (by simp)
  rw [ha] at C1
  obtain ⟨z, C2, hz, h8⟩ : ∃ z, Hid (Calls Tryz.prog 47 #[v, .int .i64 a] w fun e w' => e = .returned (.int .u64 z) /\ w' = w) /\ U64 z /\ isR 8 z = false := by
   by_cases hl : a < ws.length
   ·exact ⟨_, ztv hl w h, h.u _ (ya hl), hb.resolve_left (by omega)⟩
   ·exact ⟨0, znx (by omega) w h, by unfold U64; omega, zxo⟩
  obtain ⟨gh, rfl⟩ := h.ptr
  have C3 := hid (zam z hz w)
  rw [h8] at C3
  obtain ⟨kd, hkd⟩ : ∃ k, k = typR z := ⟨_, rfl⟩
  obtain ⟨sz, hsz⟩ : ∃ k, k = hasR 8 z := ⟨_, rfl⟩
  rw [<- hkd, <- hsz] at C3
  clear h hz h8 hkd hsz h2 ha hb hno
  go_enter Tryz.func128, Tryz.ntmps128
  go_wp2_with (first
   | (go_at_call 104; (with_reducible refine C1.out.mono ?_); rintro e W1 ⟨rfl, hw1⟩; rw [hw1]; clear hw1)
   | (go_at_call 47; (with_reducible refine C2.out.mono ?_); rintro e W1 ⟨rfl, hw1⟩; rw [hw1]; clear hw1)
   | (go_at_call 112; (with_reducible refine C3.out.mono ?_); rintro e W1 ⟨rfl, hw1⟩; rw [hw1]; clear hw1))
  (try simp only [Exit.inBlock, Exit.then]); refine bodyPost_ret (zab rfl _ _ _) rfl ?_
  exact ⟨rfl, rfl⟩
 ·have h2' : isR 2 p = false := by simpa using h2
  rw [h2'] at C1
  obtain ⟨a, ha⟩ : ∃ k, k = hasR 2 p := ⟨_, rfl⟩
  rw [<- ha] at C1
  obtain ⟨gh, rfl⟩ := h.ptr
  clear h hno h2 h2' ha
  go_enter Tryz.func128, Tryz.ntmps128
  go_wp2_with (go_at_call 104; (with_reducible refine C1.out.mono ?_); rintro e W1 ⟨rfl, hw1⟩; rw [hw1]; clear hw1)
  (try simp only [Exit.inBlock, Exit.then]); refine bodyPost_ret (zab rfl _ _ _) rfl ?_
  exact ⟨rfl, rfl⟩
end
section
variable {B : Nat} {v : Value} {N : Int} {F : Nat -> Prop} {os : List Ob}
theorem zny {p : Int} {k : Nat} (ho : OsOk os) (hp : U64 p) (hf : qm os p = some k) (w : World) (h : PH B v N (zo os) F w) :
  Calls Tryz.prog 128 #[v, .int .u64 p] w fun e w' => e = .returned (.tuple #[.int .i64 (atO os k : Nat), .int .i64 (os.getD k default).kind, .int .i64 ((os.getD k default).f.length : Nat), .int .i64 0]) /\ w' = w := by
 have hbd := h.bd
 rw [zh] at hbd
 obtain ⟨h1, h2, h3, h4⟩ := zxm ho (by omega) hf
 have e8 : isR 8 ((zo os).getD (atO os k) 0) = true := by unfold isR; rw [h4]; simp
 have := zep1 hp h1 h2 (by rw [zh]; exact h3) e8 w h
 unfold typR hasR at this
 rw [h4] at this
 simpa using this
theorem ztx {p : Int} (ho : OsOk os) (hp : U64 p) (hf : qm os p = none) (w : World) (h : PH B v N (zo os) F w) :
  Calls Tryz.prog 128 #[v, .int .u64 p] w fun e w' => e = .returned (.tuple #[.int .i64 0, .int .i64 0, .int .i64 0, .int .i64 70]) /\ w' = w := by
 have hbd := h.bd
 rw [zh] at hbd
 refine zaw1 hp ?_ w h
 rcases zxn ho (by omega) hp hf with h1 | ⟨a, h1, h2⟩
 ·exact .inl h1
 ·refine .inr ⟨a, h1, ?_⟩
  rw [zh]
  rcases h2 with h2 | h2
  ·exact .inl h2
  ·exact .inr (decide_eq_false h2)
theorem zty (ho : OsOk os) (p : Int) (hp : U64 p) (w : World) (h : PH B v N (zo os) F w) :
  Calls Tryz.prog 85 #[v, .int .u64 p] w fun e w' => e = .returned (.tuple #[.int .i64 (zpo os p).1, .int .i64 (zpo os p).2]) /\ Below w.heap.size w w' := by
 have H := hid h
 obtain ⟨gh, rfl⟩ := h.ptr
 clear h
 unfold zpo
 cases hf : qm os p with
 | none =>
  have C := hid (ztx ho hp hf w H.out)
  simp only
  clear hf H
  go_enter Tryz.func85, Tryz.ntmps85
  go_wp2_with (go_at_call 128; (with_reducible refine C.out.mono ?_); rintro e W1 ⟨rfl, hw1⟩; rw [hw1]; clear hw1)
  go_ret2
  exact ⟨rfl, Below.refl _ _⟩
 | some k =>
  have C := hid (zny ho hp hf w H.out)
  simp only
  clear hf H
  go_enter Tryz.func85, Tryz.ntmps85
  go_wp2_with (go_at_call 128; (with_reducible refine C.out.mono ?_); rintro e W1 ⟨rfl, hw1⟩; rw [hw1]; clear hw1)
  go_ret2
  exact ⟨rfl, Below.refl _ _⟩
theorem ztz (ho : OsOk os) (p : Int) (hp : U64 p) (w : World) (h : PH B v N (zo os) F w) :
  Calls Tryz.prog 158 #[v, .int .u64 p] w fun e w' => e = .returned (.tuple #[.int .i64 (zmh os p).1, .int .i64 (zmh os p).2]) /\ Below w.heap.size w w' := by
 have H := hid h
 obtain ⟨gh, rfl⟩ := h.ptr
 clear h
 unfold zmh
 cases hf : qm os p with
 | none =>
  have C := hid (ztx ho hp hf w H.out)
  simp only
  clear hf H
  go_enter Tryz.func158, Tryz.ntmps158
  go_wp2_with (go_at_call 128; (with_reducible refine C.out.mono ?_); rintro e W1 ⟨rfl, hw1⟩; rw [hw1]; clear hw1)
  go_ret2
  exact ⟨rfl, Below.refl _ _⟩
 | some k =>
  have C := hid (zny ho hp hf w H.out)
  simp only
  clear hf H
  go_enter Tryz.func158, Tryz.ntmps158
  go_wp2_with (go_at_call 128; (with_reducible refine C.out.mono ?_); rintro e W1 ⟨rfl, hw1⟩; rw [hw1]; clear hw1)
  go_ret2
  exact ⟨rfl, Below.refl _ _⟩
theorem zua {p kind i : Int} {k : Nat} (ho : OsOk os) (hp : U64 p) (hk : Z64 kind) (hi : Z64 i) (hf : jb os p kind i = ((k : Int), 0)) (w : World) (h : PH B v N (zo os) F w) :
  Calls Tryz.prog 92 #[v, .int .u64 p, .int .i64 kind, .int .i64 i] w fun e w' => e = .returned (.tuple #[.int .i64 ((atO os k : Nat) + 1 + i), .int .i64 0]) /\ w' = w := by
 obtain ⟨k', e1, hkl, hfd, h0, h1⟩ := ft (os := os) (p := p) (kind := kind) (i := i) (by rw [hf])
 rw [hf] at e1
 obtain rfl : k = k' := by have := congrArg Prod.fst e1; exact Int.ofNat.inj this
 have hkk : kind = 0 \/ kind = (os.getD k default).kind := by
  unfold jb at hf
  rw [hfd] at hf
  simp only at hf
  by_cases hc : kind ≠ 0 /\ (os.getD k default).kind ≠ kind
  ·rw [if_pos hc] at hf; simp at hf
  ·by_cases h0 : kind = 0
   ·exact .inl h0
   ·exact .inr (Classical.byContradiction fun h => hc ⟨h0, fun e => h e.symm⟩)
 have C := hid (zny ho hp hfd w h)
 have hbd := h.bd
 rw [zh] at hbd
 have hal := zhw hkl
 obtain ⟨j, rfl⟩ : ∃ j : Nat, i = (j : Int) := ⟨i.toNat, by omega⟩
 have CI := hid (q_in (k := atO os k + 1 + j) (by rw [zh]; omega) w h)
 obtain ⟨gh, rfl⟩ := h.ptr
 have hxk := ho.kd _ (km hkl)
 obtain ⟨x, hx⟩ : ∃ x, x = os.getD k default := ⟨_, rfl⟩
 rw [<- hx] at C hkk hal h1 hxk
 obtain ⟨a, ha⟩ : ∃ a, a = atO os k := ⟨_, rfl⟩
 rw [<- ha] at C CI hal ⊢
 obtain ⟨xk, xf⟩ := x
 simp only at C hkk hal h1 hxk
 obtain ⟨fl, hfl⟩ : ∃ q, q = xf.length := ⟨_, rfl⟩
 rw [<- hfl] at C hal h1
 have ecast : Hid (((a + 1 + j : Nat) : Int) = (a : Int) + 1 + j) := by unfold Hid; omega
 rw [ecast.out] at CI
 clear h hx ha hfl hf hfd hkl e1 h0
 unfold Z64 at hk
 rcases hkk with rfl | rfl
 ·go_enter Tryz.func92, Tryz.ntmps92
  go_wp2_with (first
   | (go_at_call 128; (with_reducible refine C.out.mono ?_); rintro e W1 ⟨rfl, hw1⟩; rw [hw1]; clear hw1)
   | (go_at_call 84; (with_reducible refine CI.out.mono ?_); rintro e W1 ⟨rfl, hw1⟩; rw [hw1]; clear hw1))
  go_ret2
  exact ⟨rfl, rfl⟩
 ·have ek : (kind != kind) = false := by simp
  have ek0 : (kind != 0) = true := by simp; omega
  go_enter Tryz.func92, Tryz.ntmps92
  go_wp2_with (first
   | (go_at_call 128; (with_reducible refine C.out.mono ?_); rintro e W1 ⟨rfl, hw1⟩; rw [hw1]; clear hw1)
   | (go_at_call 84; (with_reducible refine CI.out.mono ?_); rintro e W1 ⟨rfl, hw1⟩; rw [hw1]; clear hw1))
  go_ret2
  exact ⟨rfl, rfl⟩
end
end Go.Proofs.YtadfihnffboelaaGreatDoor
