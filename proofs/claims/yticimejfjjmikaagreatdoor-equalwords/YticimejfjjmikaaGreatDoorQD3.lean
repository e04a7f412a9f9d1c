import Derived.Test.YticimejfjjmikaaGreatDoorU0
import Derived.Test.YticimejfjjmikaaGreatDoorST17
import Derived.Deep.QuietTactic
import Derived.BigQuiet
import Derived.Deep.RegionHeld3
set_option linter.unusedVariables false
set_option linter.unusedSimpArgs false
set_option maxRecDepth 100000
namespace Go.Proofs.YticimejfjjmikaaGreatDoor
open Go.RowKit
theorem f_le_used : ∀ {os : List Ob} {n : Nat},n < os.length -> (os.getD n default).f.length <= usedL os
 | [],_,h=>by simp at h
 | x :: l,0,_=>by show x.f.length <= 1 + x.f.length + usedL l;omega
 | x :: l,n + 1,h=>by
  have:=f_le_used (os:=l) (n:=n) (by simpa using h)
  show (l.getD n default).f.length <= 1 + x.f.length + usedL l
  omega
theorem limb_inj {x y : Int} (hx : U64 x) (hy : U64 y) (h1 : limbB x = true) (h2 : limbB y = true) (h : nN x = nN y) : x = y:=by
 unfold limbB at h1 h2
 simp only [Bool.and_eq_true,decide_eq_true_eq] at h1 h2
 have key : ∀ z, U64 z -> nK z = 1 -> 0 <= nN z -> nN z < 4294967296 -> z = 8 * nN z := fun z hz hk h0 h4 => by
  unfold nK at hk
  unfold nN at h0 h4 ⊢
  unfold ofR at hk h0 h4 ⊢
  split at hk
  ·rename_i hr
   rw [if_pos hr] at h0 h4 ⊢
   unfold ofRaw at hk h0 h4 ⊢
   unfold U64 at hz
   split at hk
   ·rename_i e8
    rw [if_pos e8] at h0 h4 ⊢
    simp only at h0 h4 ⊢
    unfold sgnW at h0 h4 ⊢
    split at h0 <;> simp_all <;> omega
   ·split at hk
    ·simp at hk
    ·split at hk
     ·split at hk
      ·simp at hk
      ·split at hk
       ·simp at hk;omega
       ·simp at hk
     ·split at hk <;> simp at hk
  ·simp at hk
 rw [key x hx h1.1 h1.2.1 h1.2.2,key y hy h2.1 h2.2.1 h2.2.2,h]
theorem limbs_inj : ∀ {f g : List Int},(∀ z∈f,U64 z) -> (∀ z∈g,U64 z) -> f.all limbB = true -> g.all limbB = true -> f.map nN = g.map nN -> f = g
 | [],[],_,_,_,_,_=>rfl
 | [],_ :: _,_,_,_,_,h=>by cases h
 | _ :: _,[],_,_,_,_,h=>by cases h
 | x :: f,y :: g,hf,hg,h1,h2,h=>by
  rw [List.all_cons,Bool.and_eq_true] at h1 h2
  rw [List.map_cons,List.map_cons] at h
  injection h with h3 h4
  rw [limb_inj (hf x List.mem_cons_self) (hg y List.mem_cons_self) h1.1 h2.1 h3,limbs_inj (fun z hz=>hf z (List.mem_cons_of_mem _ hz)) (fun z hz=>hg z (List.mem_cons_of_mem _ hz)) h1.2 h2.2 h4]
theorem limb_nn {x : Int} (h : limbB x = true) : ((nN x).toNat : Int) = nN x /\ (nN x).toNat < B32:=by
 unfold limbB at h
 simp only [Bool.and_eq_true,decide_eq_true_eq] at h
 unfold B32
 omega
theorem big_same {f g : List Int} (hf : ∀ z∈f,U64 z) (hg : ∀ z∈g,U64 z) (h1 : bigB f = true) (h2 : bigB g = true) : (cmpR (numNeg f) (numNeg g) (val B32 (numMag f)) (val B32 (numMag g)) == 0) = decide (f = g):=by
 have e1:=h1
 have e2:=h2
 unfold bigB at h1 h2
 simp only [Bool.and_eq_true,decide_eq_true_eq] at h1 h2
 obtain ⟨a1,a2,a3,a4,_⟩:=h1
 obtain ⟨b1,b2,b3,b4,_⟩:=h2
 have dg : ∀ l : List Int,l.all limbB = true -> Dg B32 (numMag l):=fun l hl x hx=>by
  unfold numMag at hx
  obtain ⟨y,hy,rfl⟩:=List.mem_map.1 hx
  exact (limb_nn (List.all_eq_true.1 hl y (List.mem_of_mem_drop hy))).2
 by_cases h : f = g
 ·subst h
  rw [decide_eq_true rfl,cmpR_eq]
  have : cmpN (val B32 (numMag f)) (val B32 (numMag f)) = 0:=by unfold cmpN;simp
  rw [this]
  split <;> rfl
 ·rw [decide_eq_false h]
  cases hc : (cmpR (numNeg f) (numNeg g) (val B32 (numMag f)) (val B32 (numMag g)) == 0)
  ·rfl
  exfalso
  apply h
  have hc' : cmpR (numNeg f) (numNeg g) (val B32 (numMag f)) (val B32 (numMag g)) = 0:=by simpa using hc
  have hn : numNeg f = numNeg g:=by
   refine Classical.byContradiction (fun hne=>?_)
   rw [cmpR_ne _ _ hne] at hc'
   split at hc' <;> omega
  rw [hn,cmpR_eq] at hc'
  have hv : val B32 (numMag f) = val B32 (numMag g):=by
   have : cmpN (val B32 (numMag f)) (val B32 (numMag g)) = 0:=by split at hc' <;> omega
   unfold cmpN at this
   split at this
   ·omega
   ·split at this <;> omega
  have hm:=eq_of_val (by unfold B32;omega) (dg f a2) (dg g b2) (goodB_tr a4) (goodB_tr b4) hv
  obtain ⟨x,f,rfl⟩ : ∃ x r,f = x :: r:=by cases f with | nil=>simp at a1 | cons x r=>exact ⟨x,r,rfl⟩
  obtain ⟨y,g,rfl⟩ : ∃ x r,g = x :: r:=by cases g with | nil=>simp at b1 | cons x r=>exact ⟨x,r,rfl⟩
  refine limbs_inj hf hg a2 b2 ?_
  rw [List.all_cons,Bool.and_eq_true] at a2 b2
  rw [List.map_cons,List.map_cons]
  have hx:=limb_nn a2.1
  have hy:=limb_nn b2.1
  have a3' : nN x <= 1:=a3
  have b3' : nN y <= 1:=b3
  have hn' : decide (nN x = 1) = decide (nN y = 1):=hn
  congr 1
  ·by_cases q : nN x = 1
   ·rw [decide_eq_true q] at hn'
    rw [q,of_decide_eq_true hn'.symm]
   ·rw [decide_eq_false q] at hn'
    have:=of_decide_eq_false hn'.symm
    omega
  ·have hm' : f.map (fun y => (nN y).toNat) = g.map (fun y => (nN y).toNat) := hm
   have key : ∀ l : List Int,l.all limbB = true -> (l.map (fun y=>(nN y).toNat)).map (fun n : Nat=>(n : Int)) = l.map nN:=fun l hl=>by
    rw [List.map_map]
    exact List.map_congr_left (fun z hz=>(limb_nn (List.all_eq_true.1 hl z hz)).1)
   rw [<- key f a2.2,<- key g b2.2,hm']
theorem rparts_any (k : Int) (w : World) : Calls Tryz.prog 58 #[.int .i64 k] w fun e w'=>e = .returned (.bool (decide (1 <= k /\ k <= 4))) /\ w' = w:=by
 by_cases h1 : 1 <= k <;> by_cases h2 : k <= 4 <;>
 ·go_enter Tryz.func58, Tryz.ntmps58
  go_wp2
  go_ret
  exact ⟨by simp [h1,h2],rfl⟩
section
variable {B g : Nat} {N : Int} {vL : Value} {ls : List (Ob × Sl)}
theorem RH.sees {w : World} (h : RH B g N vL ls w) {n : Nat} (hn : n < ls.length) : ∃ gl cap,vL = .slice (some ⟨gl,0,none⟩) ls.length cap /\ ls.length <= cap /\ cap <= maxLen /\
  ∃ xa xc,(∀ wa,Below w.heap.size w wa -> wa.cell? ⟨g,1,none⟩ = some (.slice (some ⟨gl,0,none⟩) ls.length cap) /\ wa.cell? ⟨gl,n * 3 + 1,none⟩ = some (.int .i64 ((ls.map Prod.fst).getD n default).kind) /\ wa.cell? ⟨gl,n * 3 + 2,none⟩ = some (.slice xa ((ls.map Prod.fst).getD n default).f.length xc) /\ URow wa xa ((ls.map Prod.fst).getD n default).f.length xc ((ls.map Prod.fst).getD n default).f):=by
 obtain ⟨x,hx⟩ : ∃ x,x = ls.getD n default:=⟨_,rfl⟩
 obtain ⟨gl,cap,hv,hc1,hc2,_⟩:=h.obj hn hx
 have hmem : x∈ls:=by rw [hx];exact getD_in_ob hn
 have hxl:=(h.rows x hmem).2
 refine ⟨gl,cap,hv,hc1,hc2,x.2.1,x.2.2.2,fun wa ba=>?_⟩
 have hR:=h.on ba
 obtain ⟨gl',cap',hv',_,_,j0,j1,j2⟩:=hR.obj hn hx
 rw [hv] at hv'
 cases hv'
 have hr:=hR.rows x hmem
 have hu:=hR.uf x hmem
 obtain ⟨ao,cp,e,hU⟩:=urow_own hr.1 hu
 rw [<- getD_fst,<- hx]
 rw [hxl] at j2 e
 injection e with e1 _ e3
 subst e1 e3
 refine ⟨?_,j1,j2,hU⟩
 have:=blk_cell hR.box 1
 rw [hv] at this
 exact this
set_option maxHeartbeats 8000000 in
theorem reqv_any (a b : Int) (ha : U64 a) (hb : U64 b) (w : World) (h : RH B g N vL ls w) (hN : N <= 100000) : Calls Tryz.prog 21 #[.pointer (some ⟨g, 0, none⟩), .int .u64 a, .int .u64 b] w fun e w' => e = .returned (.bool (eqvB (ls.map Prod.fst) a b)) /\ Below w.heap.size w w' := by
 have H:=hid h
 have C1:=hid (rfind_any a ha w h)
 have C2 : Hid (∀ wx,Below w.heap.size w wx -> _):=fun wx hx=>rfind_any b hb wx (h.on hx)
 have hlen : ls.length <= 100000:=by have:=len_le_used (ls.map Prod.fst);have:=h.room;rw [List.length_map] at *;omega
 have hused : ∀ n,n < ls.length -> ((ls.map Prod.fst).getD n default).f.length <= 100000:=fun n hn=>by
  have h1:=h.room
  have h2 : ((ls.map Prod.fst).getD n default).f.length <= usedL (ls.map Prod.fst):=f_le_used (by rw [List.length_map];exact hn)
  omega
 by_cases hab : a = b
 ·subst hab
  have e1 : (a == a) = true:=by simp
  have e2 : eqvB (ls.map Prod.fst) a a = true:=by unfold eqvB;simp
  rw [e2]
  clear C1 C2 hused h
  go_enter Tryz.func21,Tryz.ntmps21
  go_wp2
  go_ret
  exact ⟨rfl,Below.refl _ _⟩
 have e1 : (a == b) = false:=by simpa using hab
 have e2 : eqvB (ls.map Prod.fst) a b = sameIB (ls.map Prod.fst) a b:=by unfold eqvB;rw [decide_eq_false hab];rfl
 rw [e2]
 cases hfa : findM (ls.map Prod.fst) a with
 | none =>
  have e3 : sameIB (ls.map Prod.fst) a b = false:=by unfold sameIB;rw [hfa]
  rw [e3]
  rw [hfa] at C1
  simp only [optI] at C1
  clear hfa e2 e3 hused h
  go_enter Tryz.func21,Tryz.ntmps21
  go_wp2_with (first
   | (go_at_call 53;with_reducible refine C1.out.mono ?_;rintro e wa ⟨rfl,ba⟩;have D2:=hid (C2.out wa ba);have BA:=hid ba;clear C1 ba)
   | (go_at_call 53;with_reducible refine D2.out.mono ?_;rintro e wb ⟨rfl,bb⟩;have BB:=hid (Bt BA.out bb);clear bb))
  go_ret
  exact ⟨rfl,BB.out⟩
 | some i =>
  have hi:=(findM_lt hfa).1
  rw [List.length_map] at hi
  rw [hfa] at C1
  simp only [optI] at C1
  cases hfb : findM (ls.map Prod.fst) b with
  | none =>
   have e3 : sameIB (ls.map Prod.fst) a b = false:=by unfold sameIB;rw [hfa,hfb]
   rw [e3]
   rw [hfb] at C2
   simp only [optI] at C2
   have i0 : ¬ ((i : Int) < 0):=by omega
   clear hfa hfb e2 e3 hused h
   go_enter Tryz.func21,Tryz.ntmps21
   go_wp2_with (first
    | (go_at_call 53;with_reducible refine C1.out.mono ?_;rintro e wa ⟨rfl,ba⟩;have D2:=hid (C2.out wa ba);have BA:=hid ba;clear C1 ba)
    | (go_at_call 53;with_reducible refine D2.out.mono ?_;rintro e wb ⟨rfl,bb⟩;have BB:=hid (Bt BA.out bb);clear bb))
   go_ret
   exact ⟨rfl,BB.out⟩
  | some k =>
   have hk:=(findM_lt hfb).1
   rw [List.length_map] at hk
   rw [hfb] at C2
   simp only [optI] at C2
   have e3 : sameIB (ls.map Prod.fst) a b = bigEq (ls.map Prod.fst) i k:=by unfold sameIB;rw [hfa,hfb]
   rw [e3]
   have hui:=hused i hi
   have huk:=hused k hk
   obtain ⟨gl,cap,hv,hc1,hc2,ia,ic,HI_old⟩:=h.sees hi
   obtain ⟨gl',cap',hv',_,_,ka,kc,HK_old⟩:=h.sees hk
   obtain ⟨rfl,rfl⟩ : gl = gl' /\ cap = cap':=by rw [hv] at hv';cases hv';exact ⟨rfl,rfl⟩
   unfold maxLen at hc2
   have HI:=hid HI_old
   have HK:=hid HK_old
   have hf1 : ∀ z∈((ls.map Prod.fst).getD i default).f,U64 z:=((HI.out w (Below.refl _ _)).2.2.2).bd
   have hf2 : ∀ z∈((ls.map Prod.fst).getD k default).f,U64 z:=((HK.out w (Below.refl _ _)).2.2.2).bd
   obtain ⟨ti,hti⟩ : ∃ x,x = (ls.map Prod.fst).getD i default:=⟨_,rfl⟩
   obtain ⟨tk,htk⟩ : ∃ x,x = (ls.map Prod.fst).getD k default:=⟨_,rfl⟩
   have hbe : bigEq (ls.map Prod.fst) i k = (decide (ti.kind = 5) && (decide (tk.kind = 5) && (decide (ti.f = tk.f) && bigB ti.f))):=by unfold bigEq;rw [<- hti,<- htk]
   rw [<- hti] at HI hui hf1
   rw [<- htk] at HK huk hf2
   rw [hbe]
   obtain ⟨kdi,fi⟩:=ti
   obtain ⟨kdk,fk⟩:=tk
   simp only at HI HK hui huk hf1 hf2 ⊢
   have i0 : ¬ ((i : Int) < 0):=by omega
   have k0 : ¬ ((k : Int) < 0):=by omega
   have i1 : (i : Int) < (ls.length : Int):=by omega
   have k1 : (k : Int) < (ls.length : Int):=by omega
   have BS : Hid (bigB fi = true -> bigB fk = true -> (cmpR (numNeg fi) (numNeg fk) (val B32 (numMag fi)) (val B32 (numMag fk)) == 0) = decide (fi = fk)):=fun q1 q2=>big_same hf1 hf2 q1 q2
   clear hti htk hbe e2 e3 hfa hfb hused h hv hv' hf1 hf2
   by_cases d1 : kdi = 5
   ·have d1' : (kdi == 5) = true := by simp [d1]
    have d1n : (kdi != 5) = false:=by simp [d1]
    rw [decide_eq_true d1]
    by_cases d2 : kdk = 5
    ·have d2' : (kdk == 5) = true := by simp [d2]
     have d2n : (kdk != 5) = false:=by simp [d2]
     rw [decide_eq_true d2]
     have CN1 : Hid (∀ wx,Below w.heap.size w wx -> _):=fun wx hx=>number_any ia fi.length ic fi wx (HI.out wx hx).2.2.2 hui
     have CN2 : Hid (∀ wx,Below w.heap.size w wx -> _):=fun wx hx=>number_any ka fk.length kc fk wx (HK.out wx hx).2.2.2 huk
     have GD : Hid (∀ f,bigB f = true -> (numMag f).length <= 40):=fun f hf=>by
      unfold bigB at hf
      simp only [Bool.and_eq_true,decide_eq_true_eq] at hf
      exact goodB_len hf.2.2.2.1
     have GD1:=hid (GD.out fi)
     have GD2:=hid (GD.out fk)
     have HDK : Hid (fi = fk -> bigB fi = bigB fk):=fun e=>by rw [e]
     unfold NumPost at CN1 CN2
     have d1h:=hid d1
     have d2h:=hid d2
     obtain ⟨df,hdf⟩ : ∃ x,x = decide (fi = fk):=⟨_,rfl⟩
     rw [<- hdf] at BS ⊢
     have HDF : Hid (df = true -> bigB fi = bigB fk):=fun e=>HDK.out (of_decide_eq_true (by rw [<- hdf];exact e))
     obtain ⟨t1,ht1⟩ : ∃ x,x = bigB fi:=⟨_,rfl⟩
     obtain ⟨t2,ht2⟩ : ∃ x,x = bigB fk:=⟨_,rfl⟩
     rw [<- ht1] at CN1 GD1 BS HDF ⊢
     rw [<- ht2] at CN2 GD2 BS HDF
     clear d1 d2 ht1 ht2 hdf GD HDK HI_old HK_old
     have hgoal : ∀ t1 t2,(df = true -> t1 = t2) -> (t1 && t2) = false -> (true && (true && (df && t1))) = false:=by intro t1 t2;cases df <;> cases t1 <;> cases t2 <;> simp
     cases t1 <;> cases t2
     iterate 3
      ·rw [hgoal _ _ HDF.out rfl]
       clear HDF hgoal
       go_enter Tryz.func21,Tryz.ntmps21
       go_wp2_with (first
        | (go_at_call 53;with_reducible refine C1.out.mono ?_;rintro e wa ⟨rfl,ba⟩;have D2:=hid (C2.out wa ba);have BA:=hid ba;clear C1 ba)
        | (go_at_call 53;with_reducible refine D2.out.mono ?_;rintro e wb ⟨rfl,bb⟩;have BB:=hid (Bt BA.out bb);obtain ⟨x0,x1,x2,_⟩:=HI.out wb (Bt BA.out bb);obtain ⟨y0,y1,y2,_⟩:=HK.out wb (Bt BA.out bb);have D3:=hid (CN1.out wb (Bt BA.out bb));clear bb D2)
        | (go_at_call 54;with_reducible refine D3.out.mono ?_;rintro e wc ⟨n1,o1,m1,p1,rfl,q1,bc⟩;have BC:=hid (Bt BB.out (Bt bc (Ba wc (.cells #[.bool n1,.slice o1 m1 p1] 104))));obtain ⟨z0,z1,z2,_⟩:=HK.out _ BC.out;have D4:=hid (CN2.out _ BC.out);clear bc q1 D3)
        | (go_at_call 54;with_reducible refine D4.out.mono ?_;rintro e wd ⟨n2,o2,m2,p2,rfl,q2,bd⟩;have BD:=hid (Bt BC.out (Bt bd (Ba wd (.cells #[.bool n2,.slice o2 m2 p2] 104))));clear bd q2 D4))
       go_ret
       exact ⟨rfl,BD.out⟩
     have HB9:=hid (BS.out rfl rfl)
     clear BS HDF hgoal
     go_enter Tryz.func21,Tryz.ntmps21
     go_wp2_with (first
      | (go_at_call 53;with_reducible refine C1.out.mono ?_;rintro e wa ⟨rfl,ba⟩;have D2:=hid (C2.out wa ba);have BA:=hid ba;clear C1 ba)
      | (go_at_call 53;with_reducible refine D2.out.mono ?_;rintro e wb ⟨rfl,bb⟩;have BB:=hid (Bt BA.out bb);obtain ⟨x0,x1,x2,_⟩:=HI.out wb (Bt BA.out bb);obtain ⟨y0,y1,y2,_⟩:=HK.out wb (Bt BA.out bb);have D3:=hid (CN1.out wb (Bt BA.out bb));clear bb D2)
      | (go_at_call 54;with_reducible refine D3.out.mono ?_;rintro e wc ⟨n1,o1,m1,p1,rfl,q1,bc⟩;have BC:=hid (Bt BB.out (Bt bc (Ba wc (.cells #[.bool n1,.slice o1 m1 p1] 104))));have Q1:=hid q1;obtain ⟨z0,z1,z2,_⟩:=HK.out _ BC.out;have D4:=hid (CN2.out _ BC.out);clear bc q1 D3)
      | (go_at_call 54;with_reducible refine D4.out.mono ?_;rintro e wd ⟨n2,o2,m2,p2,rfl,q2,bd⟩;have BD:=hid (Bt BC.out (Bt bd (Ba wd (.cells #[.bool n2,.slice o2 m2 p2] 104))));have k1:=((Bt bd (Ba wd (.cells #[.bool n2,.slice o2 m2 p2] 104))).block wc.heap.size (by rw [size_alloc];omega)).trans (blk_new wc #[.bool n1,.slice o1 m1 p1] 104);have k2:=blk_new wd #[.bool n2,.slice o2 m2 p2] 104;have s0:=blk_cell k1 0;have s1:=blk_cell k1 1;have s2:=blk_cell k2 0;have s3:=blk_cell k2 1;have D5:=hid (rsame_any n1 n2 o1 o2 m1 p1 m2 p2 _ _ _ (((Q1.out (by trivial)).2.below (Ba wc _)).below (Bt bd (Ba wd (.cells #[.bool n2,.slice o2 m2 p2] 104)))) ((q2 (by trivial)).2.below (Ba wd _)) (by rw [<- (Q1.out (by trivial)).2.len];exact Nat.le_trans (GD1.out (by trivial)) (by decide)) (by rw [<- (q2 (by trivial)).2.len];exact Nat.le_trans (GD2.out (by trivial)) (by decide)));have N1:=hid (Q1.out (by trivial)).1;have N2:=hid (q2 (by trivial)).1;clear bd q2 D4 k1 k2)
      | (go_at_call 55;with_reducible refine D5.out.mono ?_;rintro e we ⟨rfl,be⟩;have BE:=hid (Bt BD.out be);clear be D5))
     go_ret
     refine ⟨?_,BE.out⟩
     rw [N1.out,N2.out,HB9.out]
     simp
    ·have d2n : (kdk != 5) = true := by simp [d2]
     have d2e : (kdk == 5) = false:=by simp [d2]
     have e9 : (true && (decide (kdk = 5) && (decide (fi = fk) && bigB fi))) = false:=by rw [decide_eq_false d2];rfl
     rw [e9]
     clear e9 BS HI_old HK_old
     go_enter Tryz.func21,Tryz.ntmps21
     go_wp2_with (first
      | (go_at_call 53;with_reducible refine C1.out.mono ?_;rintro e wa ⟨rfl,ba⟩;have D2:=hid (C2.out wa ba);have BA:=hid ba;clear C1 ba)
      | (go_at_call 53;with_reducible refine D2.out.mono ?_;rintro e wb ⟨rfl,bb⟩;have BB:=hid (Bt BA.out bb);obtain ⟨x0,x1,x2,_⟩:=HI.out wb (Bt BA.out bb);obtain ⟨y0,y1,y2,_⟩:=HK.out wb (Bt BA.out bb);clear bb D2))
     go_ret
     exact ⟨rfl,BB.out⟩
   ·have d1n : (kdi != 5) = true := by simp [d1]
    have d1e : (kdi == 5) = false:=by simp [d1]
    have e9 : (decide (kdi = 5) && (decide (kdk = 5) && (decide (fi = fk) && bigB fi))) = false:=by rw [decide_eq_false d1];rfl
    rw [e9]
    clear e9 BS HI_old HK_old
    go_enter Tryz.func21,Tryz.ntmps21
    go_wp2_with (first
     | (go_at_call 53;with_reducible refine C1.out.mono ?_;rintro e wa ⟨rfl,ba⟩;have D2:=hid (C2.out wa ba);have BA:=hid ba;clear C1 ba)
     | (go_at_call 53;with_reducible refine D2.out.mono ?_;rintro e wb ⟨rfl,bb⟩;have BB:=hid (Bt BA.out bb);obtain ⟨x0,x1,x2,_⟩:=HI.out wb (Bt BA.out bb);obtain ⟨y0,y1,y2,_⟩:=HK.out wb (Bt BA.out bb);clear bb D2))
    go_ret
    exact ⟨rfl,BB.out⟩
end
section
variable {B g : Nat} {N : Int} {vL : Value} {ls : List (Ob × Sl)}
set_option maxHeartbeats 8000000 in
theorem rmatch_any (a b : Int) (ha : U64 a) (hb : U64 b) (w : World) (h : RH B g N vL ls w) (hN : N <= 100000) : Calls Tryz.prog 104 #[.pointer (some ⟨g,0,none⟩),.int .u64 a,.int .u64 b] w fun e w'=>e = .returned (.bool (matchB (ls.map Prod.fst) a b)) /\ Below w.heap.size w w':=by
 have H:=hid h
 have C1:=hid (rfind_any a ha w h)
 have C2 : Hid (∀ wx,Below w.heap.size w wx -> _):=fun wx hx=>rfind_any b hb wx (h.on hx)
 have hlen : ls.length <= 100000:=by have:=len_le_used (ls.map Prod.fst);have:=h.room;rw [List.length_map] at *;omega
 have hused : ∀ n,n < ls.length -> ((ls.map Prod.fst).getD n default).f.length <= 100000:=fun n hn=>by
  have h1:=h.room
  have h2 : ((ls.map Prod.fst).getD n default).f.length <= usedL (ls.map Prod.fst):=f_le_used (by rw [List.length_map];exact hn)
  omega
 cases hfa : findM (ls.map Prod.fst) a with
 | none =>
  have e3 : matchB (ls.map Prod.fst) a b = false:=by unfold matchB;rw [hfa]
  rw [e3]
  rw [hfa] at C1
  simp only [optI] at C1
  clear hfa e3 hused h
  go_enter Tryz.func104,Tryz.ntmps104
  go_wp2_with (first
   | (go_at_call 53;with_reducible refine C1.out.mono ?_;rintro e wa ⟨rfl,ba⟩;have D2:=hid (C2.out wa ba);have BA:=hid ba;clear C1 ba)
   | (go_at_call 53;with_reducible refine D2.out.mono ?_;rintro e wb ⟨rfl,bb⟩;have BB:=hid (Bt BA.out bb);clear bb))
  go_quiet (fail)
  go_wp2
  go_ret
  exact ⟨rfl,Bt BB.out (Bd wb _)⟩
 | some i =>
  have hi:=(findM_lt hfa).1
  rw [List.length_map] at hi
  rw [hfa] at C1
  simp only [optI] at C1
  have i0 : (0 : Int) <= (i : Int):=by omega
  cases hfb : findM (ls.map Prod.fst) b with
  | none =>
   have e3 : matchB (ls.map Prod.fst) a b = false:=by unfold matchB;rw [hfa,hfb]
   rw [e3]
   rw [hfb] at C2
   simp only [optI] at C2
   clear hfa hfb e3 hused h
   go_enter Tryz.func104,Tryz.ntmps104
   go_wp2_with (first
    | (go_at_call 53;with_reducible refine C1.out.mono ?_;rintro e wa ⟨rfl,ba⟩;have D2:=hid (C2.out wa ba);have BA:=hid ba;clear C1 ba)
    | (go_at_call 53;with_reducible refine D2.out.mono ?_;rintro e wb ⟨rfl,bb⟩;have BB:=hid (Bt BA.out bb);clear bb))
   go_quiet (fail)
   go_wp2
   go_ret
   exact ⟨rfl,Bt BB.out (Bd wb _)⟩
  | some k =>
   have hk:=(findM_lt hfb).1
   rw [List.length_map] at hk
   rw [hfb] at C2
   simp only [optI] at C2
   have k0 : (0 : Int) <= (k : Int):=by omega
   have e3 : matchB (ls.map Prod.fst) a b = candB (ls.map Prod.fst) i k:=by unfold matchB;rw [hfa,hfb]
   rw [e3]
   have hui:=hused i hi
   have huk:=hused k hk
   obtain ⟨gl,cap,hv,hc1,hc2,ia,ic,HI_old⟩:=h.sees hi
   obtain ⟨gl',cap',hv',_,_,ka,kc,HK_old⟩:=h.sees hk
   obtain ⟨rfl,rfl⟩ : gl = gl' /\ cap = cap':=by rw [hv] at hv';cases hv';exact ⟨rfl,rfl⟩
   unfold maxLen at hc2
   have HI:=hid HI_old
   have HK:=hid HK_old
   obtain ⟨ti,hti⟩ : ∃ x,x = (ls.map Prod.fst).getD i default:=⟨_,rfl⟩
   obtain ⟨tk,htk⟩ : ∃ x,x = (ls.map Prod.fst).getD k default:=⟨_,rfl⟩
   have hbe : candB (ls.map Prod.fst) i k = (decide (ti.kind = tk.kind) && (decide (1 <= ti.kind /\ ti.kind <= 4) && decide (ti.f.length = tk.f.length))):=by unfold candB;rw [<- hti,<- htk]
   rw [<- hti] at HI hui
   rw [<- htk] at HK huk
   rw [hbe]
   obtain ⟨kdi,fi⟩:=ti
   obtain ⟨kdk,fk⟩:=tk
   simp only at HI HK hui huk ⊢
   have i1 : (i : Int) < (ls.length : Int):=by omega
   have k1 : (k : Int) < (ls.length : Int):=by omega
   obtain ⟨nf,hnf⟩ : ∃ n,n = fi.length:=⟨_,rfl⟩
   obtain ⟨nk,hnk⟩ : ∃ n,n = fk.length:=⟨_,rfl⟩
   rw [<- hnf] at HI hui ⊢
   rw [<- hnk] at HK huk ⊢
   have CP : Hid (∀ wx,Calls Tryz.prog 58 #[.int .i64 kdi] wx fun e w'=>e = .returned (.bool (decide (1 <= kdi /\ kdi <= 4))) /\ w' = wx):=fun wx=>rparts_any kdi wx
   clear hti htk hbe e3 hfa hfb hused h hv hv' HI_old HK_old hnf hnk
   by_cases d1 : kdi = kdk
   ·have d1' : (kdi == kdk) = true := by simp [d1]
    have d1d : decide (kdi = kdk) = true:=by simp [d1]
    obtain ⟨pb,hpb⟩ : ∃ x,x = decide (1 <= kdi /\ kdi <= 4):=⟨_,rfl⟩
    rw [d1d]
    rw [<- hpb] at CP ⊢
    clear hpb d1
    cases pb
    ·go_enter Tryz.func104, Tryz.ntmps104
     go_wp2_with (first
      | (go_at_call 53;with_reducible refine C1.out.mono ?_;rintro e wa ⟨rfl,ba⟩;have D2:=hid (C2.out wa ba);have BA:=hid ba;clear C1 ba)
      | (go_at_call 53;with_reducible refine D2.out.mono ?_;rintro e wb ⟨rfl,bb⟩;have BB:=hid (Bt BA.out bb);obtain ⟨x0,x1,x2,_⟩:=HI.out wb (Bt BA.out bb);obtain ⟨y0,y1,y2,_⟩:=HK.out wb (Bt BA.out bb);clear bb D2))
     go_quiet ((go_at_call 58;exact Calls.quiet_of_same (CP.out _)))
     go_wp2
     go_ret
     exact ⟨rfl,Bt BB.out (Bd wb _)⟩
    ·by_cases d2 : nf = nk
     ·have d2' : ((nf : Int) == (nk : Int)) = true := by simp [d2]
      rw [decide_eq_true d2]
      have d2i : (nf : Int) = (nk : Int):=by omega
      clear d2 d2i
      go_enter Tryz.func104,Tryz.ntmps104
      go_wp2_with (first
       | (go_at_call 53;with_reducible refine C1.out.mono ?_;rintro e wa ⟨rfl,ba⟩;have D2:=hid (C2.out wa ba);have BA:=hid ba;clear C1 ba)
       | (go_at_call 53;with_reducible refine D2.out.mono ?_;rintro e wb ⟨rfl,bb⟩;have BB:=hid (Bt BA.out bb);obtain ⟨x0,x1,x2,_⟩:=HI.out wb (Bt BA.out bb);obtain ⟨y0,y1,y2,_⟩:=HK.out wb (Bt BA.out bb);clear bb D2))
      go_quiet ((go_at_call 58;exact Calls.quiet_of_same (CP.out _)))
      go_wp2
      go_ret
      exact ⟨rfl,Bt BB.out (Bd wb _)⟩
     ·have d2' : ((nf : Int) == (nk : Int)) = false := by simp; omega
      rw [decide_eq_false d2]
      clear d2
      go_enter Tryz.func104,Tryz.ntmps104
      go_wp2_with (first
       | (go_at_call 53;with_reducible refine C1.out.mono ?_;rintro e wa ⟨rfl,ba⟩;have D2:=hid (C2.out wa ba);have BA:=hid ba;clear C1 ba)
       | (go_at_call 53;with_reducible refine D2.out.mono ?_;rintro e wb ⟨rfl,bb⟩;have BB:=hid (Bt BA.out bb);obtain ⟨x0,x1,x2,_⟩:=HI.out wb (Bt BA.out bb);obtain ⟨y0,y1,y2,_⟩:=HK.out wb (Bt BA.out bb);clear bb D2))
      go_quiet ((go_at_call 58;exact Calls.quiet_of_same (CP.out _)))
      go_wp2
      go_ret
      exact ⟨rfl,Bt BB.out (Bd wb _)⟩
   ·have d1' : (kdi == kdk) = false := by simp [d1]
    have e9 : (decide (kdi = kdk) && (decide (1 <= kdi /\ kdi <= 4) && decide (nf = nk))) = false:=by rw [decide_eq_false d1];rfl
    rw [e9]
    clear e9
    go_enter Tryz.func104,Tryz.ntmps104
    go_wp2_with (first
     | (go_at_call 53;with_reducible refine C1.out.mono ?_;rintro e wa ⟨rfl,ba⟩;have D2:=hid (C2.out wa ba);have BA:=hid ba;clear C1 ba)
     | (go_at_call 53;with_reducible refine D2.out.mono ?_;rintro e wb ⟨rfl,bb⟩;have BB:=hid (Bt BA.out bb);obtain ⟨x0,x1,x2,_⟩:=HI.out wb (Bt BA.out bb);obtain ⟨y0,y1,y2,_⟩:=HK.out wb (Bt BA.out bb);clear bb D2))
    go_quiet ((go_at_call 58;exact Calls.quiet_of_same (CP.out _)))
    go_wp2
    go_ret
    exact ⟨rfl,Bt BB.out (Bd wb _)⟩
end
theorem vl_slice {B g : Nat} {N : Int} {vL : Value} {ls : List (Ob × Sl)} {w : World} (h : RH B g N vL ls w) : ∃ gl cap,vL = .slice gl ls.length cap:=by
 rcases h.own.2 with ⟨h1,h2⟩ | ⟨g,cap,cur,h1,_⟩
 ·rw [h2];exact ⟨_,_,h1⟩
 ·exact ⟨_,_,h1⟩
def bz (l : List Bool) : List Value:=l.map Value.bool
def BR (g : Nat) (l : List Bool) (w : World) : Prop:=w.heap[g]? = some (.cells (bz l).toArray 4 (0,0))
theorem BR.get {g : Nat} {l : List Bool} {w : World} (h : BR g l w) {i : Nat} (hi : i < l.length) : w.cell? ⟨g,i,none⟩ = some (.bool (l.getD i false)):=by
 rw [blk_cell h]
 simp [bz,List.getElem?_map,List.getElem?_eq_getElem hi,List.getD_eq_getElem?_getD]
theorem BR.set {g : Nat} {l : List Bool} {w : World} (h : BR g l w) (i : Nat) (b : Bool) : BR g (l.set i b) (w.setCell ⟨g,i,none⟩ (.bool b)):=by
 unfold BR
 rw [blk_set (i:=i) h (.bool b)]
 simp [bz,List.map_set]
theorem BR.on {g : Nat} {l : List Bool} {w w' : World} (h : BR g l w) (hb : Below w.heap.size w w') : BR g l w':=(hb.block g (Array.getElem?_eq_some_iff.1 h).1).trans h
theorem br_new {w : World} {n : Nat} : BR w.heap.size (List.replicate n false) (w.alloc (.cells (madeCells #[.bool false] n) 4)):=by
 unfold BR
 rw [blk_new]
 have e : madeCells #[.bool false] n = (bz (List.replicate n false)).toArray:=by
  rw [<- Array.toArray_toList (xs:=madeCells #[.bool false] n),toList_madeCells_one];simp [bz]
 rw [e]
def cntW (g : Nat) (w : World) : Nat:=match w.heap[g]? with
 | some (.cells cs _ _)=>(cs.toList.filter (fun v=>match v with | .bool false=>true | _=>false)).length
 | _=>0
theorem cnt_bz (l : List Bool) : ((bz l).filter (fun v=>match v with | .bool false=>true | _=>false)).length = cntB l:=by
 unfold cntB bz
 induction l with
 | nil=>rfl
 | cons b l ih=>cases b <;> simp_all
theorem BR.cnt {g : Nat} {l : List Bool} {w : World} (h : BR g l w) : cntW g w = cntB l:=by
 unfold cntW
 rw [h]
 exact cnt_bz l
def boolN : Value -> Nat
 | .bool true=>1
 | _=>0
theorem cell_ltB {w : World} {p : Addr} {a : Value} (h : w.cell? p = some a) : p.block < w.heap.size:=by
 unfold World.cell? at h
 cases e : w.heap[p.block]? with
 | none=>rw [e] at h;cases h
 | some o=>exact (Array.getElem?_eq_some_iff.1 e).1
theorem gd2_on {W wx wy : World} {p q : Addr} {a0 a1 : Value} (h : wx.cell? p = some a0 /\ wx.cell? q = some a1 /\ Below W.heap.size W wx) (hb : Below wx.heap.size wx wy) : wy.cell? p = some a0 /\ wy.cell? q = some a1 /\ Below W.heap.size W wy :=
 ⟨(hb.cell (p:=p) (cell_ltB h.1)).trans h.1,(hb.cell (p:=q) (cell_ltB h.2.1)).trans h.2.1,Bt h.2.2 hb⟩
theorem gd2_bel {W wx : World} {p q : Addr} {a0 a1 : Value} (h : wx.cell? p = some a0 /\ wx.cell? q = some a1 /\ Below W.heap.size W wx) : Below W.heap.size W wx:=h.2.2
theorem pr_wrap {n i k : Nat} (hn : n <= 100000) (hi : i < n) (hk : k < n) : IntKind.i64.wrap ((i : Int) * (n : Int)) = ((i * n : Nat) : Int) /\ IntKind.i64.wrap (((i * n : Nat) : Int) + (k : Int)) = ((i * n + k : Nat) : Int) /\ i * n + k < n * n:=by
 have h1 : i * n <= 100000 * 100000:=Nat.mul_le_mul (by omega) hn
 have h2 : (i + 1) * n <= n * n:=Nat.mul_le_mul_right _ hi
 rw [Nat.add_mul] at h2
 have h3 : (i : Int) * (n : Int) = ((i * n : Nat) : Int):=by push_cast;rfl
 refine ⟨?_,?_,by omega⟩
 ·rw [h3,IntKind.wrap_i64];omega
 ·rw [IntKind.wrap_i64];omega
section
variable {B g : Nat} {N : Int} {vL : Value} {ls : List (Ob × Sl)}
set_option maxHeartbeats 8000000 in
theorem rtold_any (a b : Int) (ha : U64 a) (hb : U64 b) (ab nq : Nat) (A : List Bool) (w : World) (h : RH B g N vL ls w) (hN : N <= 100000) (hA : BR ab A w) (hl : A.length = nq) (hq : nq = ls.length * ls.length) : Calls Tryz.prog 59 #[.pointer (some ⟨g,0,none⟩),.slice (some ⟨ab,0,none⟩) nq nq,.int .u64 a,.int .u64 b] w fun e w'=>e = .returned (.bool (toldB (ls.map Prod.fst) A a b)) /\ Below w.heap.size w w':=by
 have H:=hid h
 have hlen : ls.length <= 100000:=by have:=len_le_used (ls.map Prod.fst);have:=h.room;rw [List.length_map] at *;omega
 have C1:=hid (reqv_any a b ha hb w h hN)
 have C2 : Hid (∀ wx,Below w.heap.size w wx -> _):=fun wx hx=>rmatch_any a b ha hb wx (h.on hx) hN
 cases he : eqvB (ls.map Prod.fst) a b
 ·cases hm : matchB (ls.map Prod.fst) a b
  ·have e3 : toldB (ls.map Prod.fst) A a b = true := by unfold toldB; rw [he, hm]; rfl
   rw [e3]
   rw [he] at C1
   rw [hm] at C2
   clear he hm e3 h
   go_enter Tryz.func59,Tryz.ntmps59
   go_wp2_with (first
    | (go_at_call 21;with_reducible refine C1.out.mono ?_;rintro e wa ⟨rfl,ba⟩;have D2:=hid (C2.out wa ba);have BA:=hid ba;clear C1 ba)
    | (go_at_call 104;with_reducible refine D2.out.mono ?_;rintro e wb ⟨rfl,bb⟩;have BB:=hid (Bt BA.out bb);clear bb))
   go_ret
   exact ⟨rfl,BB.out⟩
  ·obtain ⟨i, k, e1, e2, _⟩ := matchB_some hm
   have e3 : toldB (ls.map Prod.fst) A a b = A.getD (i * ls.length + k) false:=by
    unfold toldB prB prI
    rw [he,hm,e1,e2,List.length_map]
    rfl
   rw [e3]
   rw [he] at C1
   rw [hm] at C2
   have hi:=(findM_lt e1).1
   have hk:=(findM_lt e2).1
   rw [List.length_map] at hi hk
   obtain ⟨w1,w2,w3⟩:=pr_wrap hlen hi hk
   rw [<- hq] at w3
   have CF1 : Hid (∀ wx,Below w.heap.size w wx -> _):=fun wx hx=>rfind_any a ha wx (h.on hx)
   have CF2 : Hid (∀ wx,Below w.heap.size w wx -> _):=fun wx hx=>rfind_any b hb wx (h.on hx)
   rw [e1] at CF1
   rw [e2] at CF2
   simp only [optI] at CF1 CF2
   obtain ⟨gl,cap,hv,hc1,hc2,ia,ic,HI_old⟩:=h.sees hi
   unfold maxLen at hc2
   have HI:=hid HI_old
   have HG:=hid (hA.get (by rw [hl];exact w3))
   obtain ⟨t,ht⟩ : ∃ t,t = A.getD (i * ls.length + k) false:=⟨_,rfl⟩
   rw [<- ht] at HG ⊢
   obtain ⟨n,hn⟩ : ∃ n,n = ls.length:=⟨_,rfl⟩
   rw [<- hn] at w1 w2 w3 HG HI hc1 hlen hi hk
   obtain ⟨m1,hm1⟩ : ∃ m,m = i * n:=⟨_,rfl⟩
   rw [<- hm1] at w1 w2 w3 HG
   obtain ⟨m2,hm2⟩ : ∃ m,m = m1 + k:=⟨_,rfl⟩
   rw [<- hm2] at w2 w3 HG
   have m20 : (0 : Int) <= (m2 : Int):=by omega
   have m21 : (m2 : Int) < (nq : Int):=by omega
   have hm3 : (nq : Int) <= 10000000000:=by
    have:=Nat.mul_le_mul hlen hlen
    rw [hq,<- hn]
    omega
   clear he hm e3 h e1 e2 HI_old hA hl hq hv ht hm1 hm2 hn
   go_enter Tryz.func59,Tryz.ntmps59
   go_wp2_with (first
    | (go_at_call 21;with_reducible refine C1.out.mono ?_;rintro e wa ⟨rfl,ba⟩;have D2:=hid (C2.out wa ba);have BA:=hid ba;clear C1 ba)
    | (go_at_call 104;with_reducible refine D2.out.mono ?_;rintro e wb ⟨rfl,bb⟩;have BB:=hid (Bt BA.out bb);clear bb))
   have HS0 : Hid (wb.cell? ⟨g,1,none⟩ = some (.slice (some ⟨gl,0,none⟩) n cap) /\ wb.cell? ⟨ab,m2,none⟩ = some (.bool t) /\ Below w.heap.size w wb):=⟨(HI.out wb BB.out).1,(BB.out.cell (p:=⟨ab,m2,none⟩) (cell_ltB HG.out)).trans HG.out,BB.out⟩
   go_region_held3 (fun wx=>wx.cell? ⟨g,1,none⟩ = some (.slice (some ⟨gl,0,none⟩) n cap) /\ wx.cell? ⟨ab,m2,none⟩ = some (.bool t) /\ Below w.heap.size w wx)
    (first | exact gd2_on HS0.out (Bd wb 1) | exact gd2_on (by assumption) (by assumption))
    (first
     | (go_at_call 53;with_reducible refine (CF1.out _ ?_).mono ?_;(exact gd2_bel (by assumption));rintro e wc ⟨rfl,bc⟩)
     | (go_at_call 53;with_reducible refine (CF2.out _ ?_).mono ?_;(exact gd2_bel (by assumption));rintro e wd ⟨rfl,bd⟩))
   all_goals (try go_wp2)
   all_goals (go_ret;refine ⟨rfl,?_⟩)
   all_goals exact gd2_bel (by assumption)
 ·have e3 : toldB (ls.map Prod.fst) A a b = false := by unfold toldB; rw [he]; rfl
  rw [e3]
  rw [he] at C1
  clear he e3 h
  go_enter Tryz.func59,Tryz.ntmps59
  go_wp2_with (go_at_call 21;with_reducible refine C1.out.mono ?_;rintro e wa ⟨rfl,ba⟩;have BA:=hid ba;clear C1 ba)
  go_ret
  exact ⟨rfl,BA.out⟩
end
end Go.Proofs.YticimejfjjmikaaGreatDoor
