import Derived.Test.YticimejfjjmikaaGreatDoorG19
import Derived.Test.YticimejfjjmikaaGreatDoorG14
set_option linter.unusedVariables false
set_option linter.unusedSimpArgs false
namespace Go.Proofs.YticimejfjjmikaaGreatDoor
open Go.RowKit
def followR (ns : List Nd) (f : Nat) (rs : List Int) (s : List Int × List Int) : List Int × List Int:=rs.foldl (fun s r=>followS ns f [r] s.1 s.2) s
theorem followR_snoc (ns : List Nd) (f : Nat) (rs : List Int) (r : Int) (s : List Int × List Int) : followR ns f (rs ++ [r]) s = followS ns f [r] (followR ns f rs s).1 (followR ns f rs s).2:=by
 unfold followR;rw [List.foldl_append];rfl
def start (n : Nat) : List Int × List Int:=(List.replicate n (-1),[])
def canonG (ns : List Nd) (rs : List Int) (f : Nat) : List Nd × List Int :=
 if goodG ns rs = true then ((followR ns f rs (start ns.length)).2.map (newNode ns (followR ns f rs (start ns.length)).1),renum (followR ns f rs (start ns.length)).1 rs) else ([],[])
structure Sv (ns : List Nd) (nn : Nat) (pl ord : List Int) : Prop where
 plen : pl.length = nn
 nlen : ns.length = nn
 kids : ∀ d∈ns,placesB d.kids nn = true
 few : ∀ d∈ns,d.kids.length <= 100
 cnt : ord.length + pl.count (-1) <= nn
 i64 : ∀ z∈pl,I64 z
 rng : ∀ z∈ord,0 <= z /\ z < nn
theorem Sv.len {ns : List Nd} {nn : Nat} {pl ord : List Int} (h : Sv ns nn pl ord) : ord.length <= nn:=by have:=h.cnt;omega
theorem Sv.start_ {ns : List Nd} (hk : ∀ d∈ns,placesB d.kids ns.length = true) (hf : ∀ d∈ns,d.kids.length <= 100) : Sv ns ns.length (start ns.length).1 (start ns.length).2 :=
 ⟨by simp [start],rfl,hk,hf,by simp [start],fun z hz=>by obtain ⟨_,rfl⟩:=List.mem_replicate.1 hz;unfold I64;omega,fun z hz=>(by cases hz)⟩
theorem Sv.fv {ns : List Nd} {nn : Nat} {pl ord : List Int} (h : Sv ns nn pl ord) {r : Int} (hr : 0 <= r /\ r < nn) {f : Nat} (hf : 1 + 100 * nn <= f) : Fv ns nn [r] pl ord f :=
 ⟨h.plen,h.nlen,h.kids,fun z hz=>(by have e : z = r:=(by simpa using hz);rw [e];exact hr),by have:=um_le (ns:=ns) (pl:=pl) h.few;rw [h.nlen] at this;simp;omega,h.cnt⟩
theorem mem_set_or {l : List Int} {i : Nat} {z x : Int} (h : x∈l.set i z) : x = z \/ x∈l:=by
 rcases List.mem_or_eq_of_mem_set h with h | h
 ·exact .inr h
 ·exact .inl h
theorem meetS_rng {ns : List Nd} {nn : Nat} {pl ord : List Int} {old : Nat} (ho : old < nn) (hl : ord.length <= nn) (hnn : nn <= 2500) (hi : ∀ z∈pl,I64 z) (hr : ∀ z∈ord,0 <= z /\ z < (nn : Int)) :
  (∀ z∈(meetS ns pl ord old).1,I64 z) /\ (∀ z∈(meetS ns pl ord old).2,0 <= z /\ z < (nn : Int)):=by
 have hI : ∀ j : Nat,j <= nn -> I64 (j : Int):=fun j hj=>by unfold I64;omega
 have hnew : (∀ z∈pl.set old (ord.length : Int),I64 z) /\ (∀ z∈ord ++ [(old : Int)],0 <= z /\ z < (nn : Int)):=by
  refine ⟨fun z hz=>?_,fun z hz=>?_⟩
  ·rcases mem_set_or hz with rfl | hz
   ·exact hI _ hl
   ·exact hi z hz
  ·rcases List.mem_append.1 hz with hz | hz
   ·exact hr z hz
   ·obtain rfl : z = (old : Int) := by simpa using hz
    omega
 unfold meetS
 split
 ·split
  ·rename_i j hj
   refine ⟨fun z hz=>?_,hr⟩
   rcases mem_set_or hz with rfl | hz
   ·unfold findA at hj
    have:=(List.findIdx?_eq_some_iff_getElem.1 hj).1
    exact hI _ (by omega)
   ·exact hi z hz
  ·exact hnew
 ·exact hnew
theorem followS_rng {ns : List Nd} {nn : Nat} (hnn : nn <= 2500) : ∀ {f : Nat} {st pl ord : List Int},Fv ns nn st pl ord f -> (∀ z∈pl,I64 z) -> (∀ z∈ord,0 <= z /\ z < (nn : Int)) ->
  (∀ z∈(followS ns f st pl ord).1,I64 z) /\ (∀ z∈(followS ns f st pl ord).2,0 <= z /\ z < (nn : Int))
 | 0,_,_,_,_,h1,h2=>⟨h1,h2⟩
 | f + 1,[],_,_,_,h1,h2=>⟨h1,h2⟩
 | f + 1, o :: st, pl, ord, h, h1, h2 => by
  unfold followS
  by_cases hp : pl.getD o.toNat 0 = -1
  ·rw [if_neg (fun hq => hq hp)]
   have ho:=h.rng o (by simp)
   obtain ⟨q1,q2⟩:=meetS_rng (ns:=ns) (nn:=nn) (pl:=pl) (ord:=ord) (old:=o.toNat) (by omega) (by have:=h.cnt;omega) hnn h1 h2
   exact followS_rng hnn (h.meet hp) q1 q2
  ·rw [if_pos hp];exact followS_rng hnn h.skip h1 h2
theorem Sv.follow {ns : List Nd} {nn : Nat} {pl ord : List Int} (h : Sv ns nn pl ord) (hnn : nn <= 2500) {r : Int} (hr : 0 <= r /\ r < nn) {f : Nat} (hf : 1 + 100 * nn <= f) : Sv ns nn (followS ns f [r] pl ord).1 (followS ns f [r] pl ord).2:=by
 have hv:=h.fv hr hf
 have he:=hv.end_
 obtain ⟨q1,q2⟩:=followS_rng hnn hv h.i64 h.rng
 exact ⟨he.plen,he.nlen,h.kids,h.few,he.cnt,q1,q2⟩
theorem goodG_parts {ns : List Nd} {rs : List Int} (h : goodG ns rs = true) : (∀ d∈ns,placesB d.kids ns.length = true) /\ placesB rs ns.length = true:=by
 unfold goodG at h
 rw [Bool.and_eq_true] at h
 refine ⟨fun d hd=>?_,h.2⟩
 have:=List.all_eq_true.1 h.1 d hd
 unfold nodeB at this
 rw [Bool.and_eq_true] at this
 exact this.2
theorem MapIs.new {w : World} {Bm : Nat} {ns : List Nd} (h : w.ownsMap (H:=Unit) Tryz.prog 223 (plainElem Tryz.prog 3) Bm 0 (.map [])) : MapIs w Bm ns []:=by
 refine ⟨.map [],h,fun d kl _ _ _=>?_⟩
 show Maps.has (.map []) kl = false
 rfl
def GKeep (b0 : Nat) (w' : World) (a1 : Option Addr) (n1 c1 : Nat) (a2 : Option Addr) (n2 c2 : Nat) (cs : List Nd) (crs : List Int) : Prop :=
 ∀ w2 : World,w'.heap.size <= w2.heap.size -> (∀ b,b0 <= b -> b < w'.heap.size -> w2.heap[b]? = w'.heap[b]?) -> GIs w2 a1 n1 c1 a2 n2 c2 cs crs
set_option maxHeartbeats 4000000 in
theorem canon_own (an ar : Option Addr) (nn cn nr cr : Nat) (ns : List Nd) (rs : List Int) (w : World) (G : GIs w an nn cn ar nr cr ns rs) (hs : smallG ns) (hk : ∀ d∈ns,d.kids.length <= 100) (hn : nn <= 2500) (hnr : nr <= 2500) (hT : Tabs w) (f : Nat) (hf : 1 + 100 * nn <= f) (hf2 : f <= 400000) :
  Calls Tryz.prog 40 #[GVal an nn cn ar nr cr] w fun e w'=>∃ an' nn' cn' ar' nr' cr',e = .returned (GVal an' nn' cn' ar' nr' cr') /\ GIs w' an' nn' cn' ar' nr' cr' (canonG ns rs f).1 (canonG ns rs f).2 /\ GKeep w.heap.size w' an' nn' cn' ar' nr' cr' (canonG ns rs f).1 (canonG ns rs f).2 /\ Below w.heap.size w w':=by
 have HG:=hid G
 have HS:=hid hs
 have HT:=hid hT
 have HK:=hid hk
 have hn1:=G.nodes.fits
 have hn2:=G.nodes.most
 have hr1:=G.roots.fits
 have hr2:=G.roots.most
 unfold maxLen at hn2 hr2
 unfold GVal
 clear G hs hT hk
 go_enter Tryz.func40,Tryz.ntmps40
 go_wp2_with fail
 have bA:=Baa w (.cells #[.slice an nn cn,.slice ar nr cr] 34) (.cells #[.slice none 0 0,.slice none 0 0] 34)
 have x1:=(GBox.new 34 w an ar nn cn nr cr).on (Ba (w.alloc (.cells #[.slice an nn cn,.slice ar nr cr] 34)) (.cells #[.slice none 0 0,.slice none 0 0] 34))
 have x2:=GBox.new 34 (w.alloc (.cells #[.slice an nn cn,.slice ar nr cr] 34)) none none 0 0 0 0
 have hsz : ((w.alloc (.cells #[.slice an nn cn,.slice ar nr cr] 34)).alloc (.cells #[.slice none 0 0,.slice none 0 0] 34)).heap.size = w.heap.size + 1 + 1:=by rw [size_alloc,size_alloc]
 rw [size_alloc] at x2
 generalize (w.alloc (.cells #[.slice an nn cn,.slice ar nr cr] 34)).alloc (.cells #[.slice none 0 0,.slice none 0 0] 34) = W1 at *
 obtain ⟨gb,hgb⟩ : ∃ g,g = w.heap.size:=⟨_,rfl⟩
 obtain ⟨gr,hgr⟩ : ∃ g,g = w.heap.size + 1:=⟨_,rfl⟩
 rw [<- hgr] at x2
 rw [<- hgb] at x1
 rw [<- hgr,<- hgb]
 have hne : Hid (gb ≠ gr /\ w.heap.size <= gb /\ w.heap.size <= gr /\ gb < W1.heap.size /\ gr < W1.heap.size):=by refine ⟨?_,?_,?_,?_,?_⟩ <;> omega
 refine (good_g an ar nn cn nr cr ns rs W1 (HG.out.below bA) HS.out hn (HT.out.below bA)).mono ?_
 rintro e w2 ⟨rfl,b2⟩
 have y1:=x1.on b2
 have y2:=x2.on b2
 have HB2:=hid (bA.trans (b2.mono bA.size))
 have HW12:=hid b2.size
 have Y1:=hid y1
 have Y2:=hid y2
 have hlen : ns.length = nn:=HG.out.nodes.len
 obtain ⟨z1,z2⟩:=y1.c
 obtain ⟨v1,v2⟩:=y2.c
 have fv1 : w2.frozen? ⟨gr,0,none⟩ = false:=blk_free y2 0
 have fv2 : w2.frozen? ⟨gr,1,none⟩ = false:=blk_free y2 1
 clear bA x1 x2 hsz hgb hgr b2 y1 y2
 obtain ⟨gd,hgd⟩ : ∃ gd,gd = goodG ns rs:=⟨_,rfl⟩
 rw [<- hgd]
 have HGD:=hid hgd
 cases gd
 ·clear hgd
  go_wp2_with fail
  have hst:=store2 (v1:=.slice none 0 0) (v2:=.slice none 0 0) Y2.out
  have r0:=blk_cell hst 0
  have r1:=blk_cell hst 1
  (try simp only [Exit.inBlock,Exit.then]);refine bodyPost_ret (by simp [results,Tryz.results40,go_sem,r0,r1];rfl) rfl ?_
  have hc : canonG ns rs f = ([],[]):=by unfold canonG;rw [if_neg (by rw [<- HGD.out];decide)]
  rw [hc]
  exact ⟨_,_,_,_,_,_,rfl,⟨NRow.nil _ _,IRow.nil _ _⟩,fun _ _ _=>⟨NRow.nil _ _,IRow.nil _ _⟩,store2_below HB2.out hne.out.2.2.1⟩
 ·clear hgd
  obtain ⟨hkp,hrp⟩:=goodG_parts HGD.out.symm
  rw [hlen] at hkp hrp
  have HKP:=hid hkp
  have HRP:=hid hrp
  have HRR:=hid (places_rng hrp)
  have hc : Hid (canonG ns rs f = ((followR ns f rs (start nn)).2.map (newNode ns (followR ns f rs (start nn)).1),renum (followR ns f rs (start nn)).1 rs)):=by unfold Hid canonG;rw [if_pos HGD.out.symm,hlen]
  have hS0 : Hid (Sv ns nn (start nn).1 (start nn).2):=by
   have:=Sv.start_ (ns:=ns) (by rw [hlen];exact hkp) HK.out
   rw [hlen] at this;exact this
  clear hkp hrp
  go_wp2_with fail
  refine (newWalk_any an ar nn cn nr cr hn hn1 (by omega) w2).mono ?_
  rintro e w3 ⟨B0,gp,Bm,rfl,l1,l2,l3,m1,m2,m3,hbox,hpl,hmp,b3⟩
  have hB0l : B0 < w3.heap.size:=(Array.getElem?_eq_some_iff.1 hbox).1
  have hW3 : WCore w2.heap.size w2 w3 B0 gp Bm an nn cn ar nr cr (start nn).1 (start nn).2 (.slice none 0 0) :=
   ⟨b3,hbox,hpl,by simp [start],World.ownsRow_nil _ _ _ _,hmp.lt,l1,l2,l3,m1,m2,m3,(by intro h;cases h),(by intro h;cases h),(by intro h;cases h)⟩
  have HW3:=hid hW3
  have HM3 : Hid (MapIs w3 Bm ns (start nn).2):=MapIs.new hmp
  obtain ⟨z1,z2⟩:=(Y1.out.on b3).c
  clear hbox hpl hmp hW3 m1 m2 m3 l1 l2 l3 v1 v2 fv1 fv2
  have HB3:=hid b3
  clear b3
  go_wp2_with fail
  go_loopw [15] (fun i wr=>∃ m : Nat,m <= nr /\ i = .int .i64 m /\ Hid (∃ vo,WCore w2.heap.size w2 wr B0 gp Bm an nn cn ar nr cr (followR ns f (rs.take m) (start nn)).1 (followR ns f (rs.take m) (start nn)).2 vo /\ MapIs wr Bm ns (followR ns f (rs.take m) (start nn)).2 /\ Sv ns nn (followR ns f (rs.take m) (start nn)).1 (followR ns f (rs.take m) (start nn)).2)) (fun i _=>nr - (intOf i).toNat)
  case atStart=>exact ⟨0,Nat.zero_le _,rfl,_,HW3.out,HM3.out,hS0.out⟩
  case round =>
   obtain ⟨m,hmn,rfl,hI⟩:=hrel
   obtain ⟨vo,h1,h2,h3⟩:=hI.out
   have HBR:=hid h1.bel
   by_cases hlt : m < nr
   ·obtain ⟨b, o, rfl, hl, hcr⟩ := HG.out.roots.some (by omega)
    have hml : m < rs.length:=by rw [HG.out.roots.len];exact hlt
    have cm : wr.cell? ⟨b,o + m,none⟩ = some (.int .i64 (rs.getD m 0)) :=
     (h1.bel.cell (p:=⟨b,o + m,none⟩) (Nat.lt_of_lt_of_le hl HB2.out.size)).trans ((HB2.out.cell (p:=⟨b,o + m,none⟩) hl).trans (hcr m hlt))
    have hst : Hid (rs.take (m + 1) = rs.take m ++ [rs.getD m 0]):=by
     unfold Hid
     rw [List.take_succ_eq_append_getElem hml,List.getD_eq_getElem?_getD,List.getElem?_eq_getElem hml];rfl
    have hrr:=HRR.out (rs.getD m 0) (by rw [List.getD_eq_getElem?_getD,List.getElem?_eq_getElem hml];exact List.getElem_mem hml)
    generalize rs.getD m 0 = r at *
    have H1:=hid h1
    have H2:=hid h2
    have H3:=hid h3
    clear h1 h2 h3 hI hcr
    go_wp2_with fail
    refine (follow_any w2.heap.size w2 wr B0 gp Bm _ nn cn _ nr cr ns rs _ _ vo r f hn hf2 rfl (HG.out.below HB2.out) H1.out H2.out (H3.out.fv hrr hf)).mono ?_
    rintro e w4 ⟨rfl,vo',q1,q2,q3⟩
    have Q1:=hid q1
    have Q2:=hid q2
    clear q1 q2
    go_wp2_with fail
    have hS:=H3.out.follow hn hrr hf
    rw [<- followR_snoc,<- hst.out] at hS
    refine ⟨⟨m + 1,by omega,by go_num,vo',?_,?_,hS⟩,by simp [intOf] <;> omega⟩
    ·have:=Q1.out;rw [<- followR_snoc,<- hst.out] at this;exact this
    ·have:=Q2.out;rw [<- followR_snoc,<- hst.out] at this;exact this
   ·obtain rfl : m = nr := by omega
    rw [List.take_of_length_le (by rw [HG.out.roots.len];omega)] at h1 h2 h3
    have H1:=hid h1
    have H3:=hid h3
    clear h1 h2 h3 hI
    go_wp2_with fail
    refine (met_any w2.heap.size w2 wr B0 gp Bm an nn cn ar m cr ns rs _ _ vo hn rfl H3.out.len hnr (HG.out.below HB2.out) H1.out H3.out.rng (fun d hd=>⟨HKP.out d hd,by have:=HK.out d hd;omega⟩) HRP.out H3.out.i64).mono ?_
    rintro e w4 ⟨an',nn',cn',ar',nr',cr',rfl,hGI,b4⟩
    unfold GVal
    have y4:=(b4.block gr (Nat.lt_of_lt_of_le hne.out.2.2.2.2 HW12.out)).trans ((HBR.out.block gr (Nat.lt_of_lt_of_le hne.out.2.2.2.2 HW12.out)).trans Y2.out)
    have Y4:=hid y4
    have v1 : w4.cell? ⟨gr,0,none⟩ = some (.slice none 0 0):=blk_cell y4 0
    have v2 : w4.cell? ⟨gr,1,none⟩ = some (.slice none 0 0):=blk_cell y4 1
    have fv1 : w4.frozen? ⟨gr,0,none⟩ = false:=blk_free y4 0
    have fv2 : w4.frozen? ⟨gr,1,none⟩ = false:=blk_free y4 1
    have HGI:=hid hGI
    have HB4:=hid ((HB2.out.trans (HBR.out.mono HB2.out.size)).trans (b4.mono HB2.out.size))
    clear y4 hGI b4
    go_wp2_with fail
    have hst:=store2 (v1:=.slice an' nn' cn') (v2:=.slice ar' nr' cr') Y4.out
    have r0:=blk_cell hst 0
    have r1:=blk_cell hst 1
    (try simp only [Exit.inBlock,Exit.then]);refine bodyPost_ret (by simp [results,Tryz.results40,go_sem,r0,r1];rfl) rfl ?_
    rw [hc.out]
    have hss : ((w4.setCell ⟨gr,0,none⟩ (.slice an' nn' cn')).setCell ⟨gr,1,none⟩ (.slice ar' nr' cr')).heap.size = w4.heap.size:=by simp [World.setCell]
    exact ⟨_,_,_,_,_,_,rfl,HGI.out _ (fun b hb _=>store2_far (by have:=hne.out.2.2.2.2;have:=HW12.out;omega)) (by simp [World.setCell]),fun wz hz1 hz2=>HGI.out wz (fun b hb hb2=>(hz2 b (Nat.le_trans HB2.out.size hb) (by rw [hss];exact hb2)).trans (store2_far (by have:=hne.out.2.2.2.2;have:=HW12.out;omega))) (by rw [hss] at hz1;exact hz1),store2_below HB4.out hne.out.2.2.1⟩
theorem getD_set_self {l : List Int} {i : Nat} {z d : Int} (h : i < l.length) : (l.set i z).getD i d = z:=by
 rw [List.getD_eq_getElem?_getD,List.getElem?_set_self h];rfl
theorem getDi_set_ne {l : List Int} {i j : Nat} {z d : Int} (h : i ≠ j) : (l.set i z).getD j d = l.getD j d:=by
 rw [List.getD_eq_getElem?_getD,List.getElem?_set_ne h,List.getD_eq_getElem?_getD]
theorem sameA.symm {a b : Nd} (h : sameA a b) : sameA b a:=⟨h.1.symm,h.2.1.symm,h.2.2.symm⟩
theorem sameA.trans {a b c : Nd} (h : sameA a b) (h2 : sameA b c) : sameA a c:=⟨h.1.trans h2.1,h.2.1.trans h2.2.1,h.2.2.trans h2.2.2⟩
theorem sameA.rfl' (a : Nd) : sameA a a:=⟨rfl,rfl,rfl⟩
theorem decide_sameA {a b c d : Nd} (h : sameA a c) (h2 : sameA b d) : decide (sameA a b) = decide (sameA c d):=by
 by_cases q : sameA a b
 ·have : sameA c d := h.symm.trans (q.trans h2)
  simp [q,this]
 ·have : ¬ sameA c d := fun q2 => q (h.trans (q2.trans h2.symm))
  simp [q,this]
theorem findA_map {ns ns' : List Nd} {φ : Int -> Int} : ∀ {ord : List Int} {d e : Nd},(∀ o∈ord,sameA (ns'.getD (φ o).toNat default) (ns.getD o.toNat default)) -> sameA d e -> findA ns' (ord.map φ) d = findA ns ord e
 | [],_,_,_,_=>rfl
 | o :: ord,d,e,h,hd=>by
  have ih:=findA_map (ord:=ord) (fun x hx=>h x (by simp [hx])) hd
  have h0:=h o (by simp)
  unfold findA at *
  simp only [List.map_cons,List.findIdx?_cons,ih,decide_sameA h0 hd,h0.1]
theorem findA_congr {ns : List Nd} {ord : List Int} {d e : Nd} (h : sameA d e) : findA ns ord d = findA ns ord e:=by
 have:=findA_map (ns:=ns) (ns':=ns) (φ:=id) (ord:=ord) (fun o _=>sameA.rfl' _) h
 simpa using this
theorem findA_snoc_some {ns : List Nd} {ord : List Int} {d : Nd} {o : Int} {j : Nat} (h : findA ns ord d = some j) : findA ns (ord ++ [o]) d = some j:=by
 unfold findA at *
 rw [List.findIdx?_append,h];rfl
theorem findA_snoc_none {ns : List Nd} {ord : List Int} {d : Nd} {o : Int} (h : findA ns ord d = none) (ha : atomB (ns.getD o.toNat default).kind = true) (hs : sameA (ns.getD o.toNat default) d) : findA ns (ord ++ [o]) d = some ord.length:=by
 unfold findA at *
 rw [List.findIdx?_append,h]
 rw [List.findIdx?_cons,ha,decide_eq_true hs];simp
theorem findA_lt {ns : List Nd} {ord : List Int} {d : Nd} {j : Nat} (h : findA ns ord d = some j) : j < ord.length:=by
 unfold findA at h
 exact (List.findIdx?_eq_some_iff_getElem.1 h).1
theorem findA_get {ns : List Nd} {ord : List Int} {d : Nd} {j : Nat} (h : findA ns ord d = some j) : atomB (ns.getD (ord.getD j 0).toNat default).kind = true /\ sameA (ns.getD (ord.getD j 0).toNat default) d:=by
 unfold findA at h
 obtain ⟨h1,h2,_⟩:=List.findIdx?_eq_some_iff_getElem.1 h
 have e : ord.getD j 0 = ord[j]:=by rw [List.getD_eq_getElem?_getD,List.getElem?_eq_getElem h1];rfl
 rw [e]
 rw [Bool.and_eq_true,decide_eq_true_eq] at h2
 exact h2
structure Sim (ns ns' : List Nd) (φ : Int -> Int) (M : Int -> Prop) : Prop where
 rng : ∀ i,M i -> 0 <= i /\ i < ns.length
 rng' : ∀ i,M i -> 0 <= φ i /\ φ i < ns'.length
 kids : ∀ i,M i -> ∀ k∈(ns.getD i.toNat default).kids,M k
 node : ∀ i,M i -> ns'.getD (φ i).toNat default = { ns.getD i.toNat default with kids:=(ns.getD i.toNat default).kids.map φ }
 inj : ∀ i i',M i -> M i' -> φ i = φ i' -> i = i' \/ atomB (ns.getD i.toNat default).kind = true
 bare : ∀ i,M i -> atomB (ns.getD i.toNat default).kind = true -> (ns.getD i.toNat default).kids = []
structure Rel (ns ns' : List Nd) (φ : Int -> Int) (M : Int -> Prop) (pl ord pl' ord' : List Int) : Prop where
 plen : pl.length = ns.length
 plen' : pl'.length = ns'.length
 ord_ : ord' = ord.map φ
 om : ∀ o∈ord,M o
 pl_ : ∀ i,M i -> pl.getD i.toNat 0 ≠ -1 -> pl'.getD (φ i).toNat 0 = pl.getD i.toNat 0
 un : ∀ i,M i -> pl.getD i.toNat 0 = -1 -> pl'.getD (φ i).toNat 0 = -1 \/ (atomB (ns.getD i.toNat default).kind = true /\ ∃ j,findA ns ord (ns.getD i.toNat default) = some j /\ pl'.getD (φ i).toNat 0 = (j : Int))
section
variable {ns ns' : List Nd} {φ : Int -> Int} {M : Int -> Prop}
theorem Sim.same (S : Sim ns ns' φ M) {i : Int} (h : M i) : sameA (ns'.getD (φ i).toNat default) (ns.getD i.toNat default):=by
 rw [S.node i h];exact ⟨rfl,rfl,rfl⟩
theorem Sim.find (S : Sim ns ns' φ M) {i : Int} (h : M i) {ord : List Int} (ho : ∀ o∈ord,M o) : findA ns' (ord.map φ) (ns'.getD (φ i).toNat default) = findA ns ord (ns.getD i.toNat default) :=
 findA_map (fun o h2=>S.same (ho o h2)) (S.same h)
theorem Rel.both (S : Sim ns ns' φ M) {pl ord pl' ord' : List Int} (R : Rel ns ns' φ M pl ord pl' ord') {o : Int} (ho : M o) (hp : pl.getD o.toNat 0 = -1) (hp' : pl'.getD (φ o).toNat 0 = -1) (z : Nat) (ord2 ord2' : List Int) (e : ord2' = ord2.map φ) (om : ∀ x∈ord2,M x)
  (hz : ∀ i,M i -> φ i = φ o -> i ≠ o -> findA ns ord2 (ns.getD i.toNat default) = some z) (hk : ∀ i j,findA ns ord (ns.getD i default) = some j -> findA ns ord2 (ns.getD i default) = some j) : Rel ns ns' φ M (pl.set o.toNat z) ord2 (pl'.set (φ o).toNat z) ord2':=by
 have r0:=S.rng o ho
 have r1:=S.rng' o ho
 refine ⟨by rw [List.length_set];exact R.plen,by rw [List.length_set];exact R.plen',e,om,fun i hi hn=>?_,fun i hi hn=>?_⟩
 ·have q0 := S.rng i hi
  have q1:=S.rng' i hi
  by_cases hio : i = o
  ·subst hio
   rw [getD_set_self (by rw [R.plen'];omega),getD_set_self (by rw [R.plen];omega)]
  ·rw [getDi_set_ne (by omega)] at hn
   rw [getDi_set_ne (by omega : o.toNat ≠ i.toNat)]
   have:=R.pl_ i hi hn
   by_cases hf : φ i = φ o
   ·rw [hf,hp'] at this;exact absurd this.symm hn
   ·rw [getDi_set_ne (by omega)];exact this
 ·have q0 := S.rng i hi
  have q1:=S.rng' i hi
  have hio : i ≠ o:=by
   rintro rfl
   rw [getD_set_self (by rw [R.plen];omega)] at hn;omega
  rw [getDi_set_ne (by omega)] at hn
  by_cases hf : φ i = φ o
  ·right
   refine ⟨?_,z,hz i hi hf hio,?_⟩
   ·rcases S.inj i o hi ho hf with h | h
    ·exact absurd h hio
    ·exact h
   ·rw [hf,getD_set_self (by rw [R.plen'];omega)]
  ·rw [getDi_set_ne (by omega)]
   rcases R.un i hi hn with h | ⟨h1,j,h2,h3⟩
   ·exact .inl h
   ·exact .inr ⟨h1,j,hk _ _ h2,h3⟩
theorem sim_follow (S : Sim ns ns' φ M) : ∀ {f : Nat} {st pl ord pl' ord' : List Int}, (∀ z ∈ st, M z) -> Rel ns ns' φ M pl ord pl' ord' ->
  Rel ns ns' φ M (followS ns f st pl ord).1 (followS ns f st pl ord).2 (followS ns' f (st.map φ) pl' ord').1 (followS ns' f (st.map φ) pl' ord').2
 | 0,_,_,_,_,_,_,R=>R
 | f + 1,[],_,_,_,_,_,R=>R
 | f + 1, o :: st, pl, ord, pl', ord', hs, R => by
  have ho:=hs o (by simp)
  have hst : ∀ z∈st,M z:=fun z hz=>hs z (by simp [hz])
  have r0:=S.rng o ho
  have r1:=S.rng' o ho
  unfold followS
  simp only [List.map_cons]
  by_cases hp : pl.getD o.toNat 0 = -1
  ·rw [if_neg (fun hq => hq hp)]
   by_cases hp' : pl'.getD (φ o).toNat 0 = -1
   ·rw [if_neg (fun hq => hq hp')]
    have hn:=S.node o ho
    have hkids : (ns'.getD (φ o).toNat default).kids ++ List.map φ st = ((ns.getD o.toNat default).kids ++ st).map φ:=by rw [hn,List.map_append]
    rw [hkids]
    refine sim_follow S ?_ ?_
    ·intro z hz
     rcases List.mem_append.1 hz with hz | hz
     ·exact S.kids o ho z hz
     ·exact hst z hz
    ·have hkind : (ns'.getD (φ o).toNat default).kind = (ns.getD o.toNat default).kind := by rw [hn]
     have hfind:=S.find ho (ord:=ord) R.om
     rw [<- R.ord_] at hfind
     have hol : ord'.length = ord.length:=by rw [R.ord_,List.length_map]
     have fresh : atomB (ns.getD o.toNat default).kind = false \/ findA ns ord (ns.getD o.toNat default) = none -> Rel ns ns' φ M (pl.set o.toNat ord.length) (ord ++ [o]) (pl'.set (φ o).toNat ord'.length) (ord' ++ [φ o]):=by
      intro hf
      rw [hol]
      refine Rel.both S R ho hp hp' _ _ _ (by rw [R.ord_];simp) ?_ ?_ (fun _ _ h=>findA_snoc_some h)
      ·intro x hx
       rcases List.mem_append.1 hx with hx | hx
       ·exact R.om x hx
       ·have : x = o := by simpa using hx
        rw [this];exact ho
      ·intro i hi hfi hio
       have hsm : sameA (ns.getD o.toNat default) (ns.getD i.toNat default):=(S.same ho).symm.trans (by rw [<- hfi];exact S.same hi)
       have hat : atomB (ns.getD o.toNat default).kind = true:=by
        rcases S.inj o i ho hi hfi.symm with h | h
        ·exact absurd h.symm hio
        ·exact h
       rcases hf with hf | hf
       ·rw [hf] at hat;cases hat
       ·rw [findA_congr hsm] at hf
        exact findA_snoc_none hf hat hsm
     unfold meetS
     rw [hkind,hfind,Int.toNat_of_nonneg r0.1,Int.toNat_of_nonneg r1.1]
     by_cases hat : atomB (ns.getD o.toNat default).kind = true
     ·rw [if_pos hat, if_pos hat]
      cases hfo : findA ns ord (ns.getD o.toNat default) with
      | some j =>
       refine Rel.both S R ho hp hp' j _ _ R.ord_ R.om ?_ (fun _ _ h=>h)
       intro i hi hfi hio
       have hsm : sameA (ns.getD o.toNat default) (ns.getD i.toNat default):=(S.same ho).symm.trans (by rw [<- hfi];exact S.same hi)
       rw [<- findA_congr hsm];exact hfo
      | none=>exact fresh (.inr hfo)
     ·rw [if_neg hat, if_neg hat]
      exact fresh (.inl (by simpa using hat))
   ·rw [if_pos hp']
    rcases R.un o ho hp with h | ⟨hat,j,hj,hpj⟩
    ·exact absurd h hp'
    ·rw [S.bare o ho hat, List.nil_append]
     have hm : meetS ns pl ord o.toNat = (pl.set o.toNat j,ord):=by unfold meetS;rw [if_pos hat,hj]
     rw [hm]
     refine sim_follow S hst ⟨by rw [List.length_set];exact R.plen,R.plen',R.ord_,R.om,fun i hi hn=>?_,fun i hi hn=>?_⟩
     ·have q0 := S.rng i hi
      by_cases hio : i = o
      ·subst hio
       rw [getD_set_self (by rw [R.plen];omega)];exact hpj
      ·rw [getDi_set_ne (by omega)] at hn ⊢
       exact R.pl_ i hi hn
     ·have q0 := S.rng i hi
      have hio : i ≠ o:=by
       rintro rfl
       rw [getD_set_self (by rw [R.plen];omega)] at hn;omega
      rw [getDi_set_ne (by omega)] at hn
      exact R.un i hi hn
  ·rw [if_pos hp, if_pos (by rw [R.pl_ o ho hp]; exact hp)]
   exact sim_follow S hst R
theorem sim_roots (S : Sim ns ns' φ M) (f : Nat) : ∀ {rs : List Int} {s s' : List Int × List Int},(∀ z∈rs,M z) -> Rel ns ns' φ M s.1 s.2 s'.1 s'.2 ->
  Rel ns ns' φ M (followR ns f rs s).1 (followR ns f rs s).2 (followR ns' f (rs.map φ) s').1 (followR ns' f (rs.map φ) s').2
 | [],_,_,_,R=>R
 | r :: rs,s,s',h,R=>by
  have:=sim_follow S (f:=f) (st:=[r]) (fun z hz=>h z (by simp_all)) R
  exact sim_roots S f (rs:=rs) (s:=followS ns f [r] s.1 s.2) (s':=followS ns' f [φ r] s'.1 s'.2) (fun z hz=>h z (by simp [hz])) this
theorem sim_start (S : Sim ns ns' φ M) : Rel ns ns' φ M (start ns.length).1 (start ns.length).2 (start ns'.length).1 (start ns'.length).2:=by
 have rep : ∀ (n : Nat) (i : Int),0 <= i /\ i < n -> (List.replicate n (-1 : Int)).getD i.toNat 0 = -1:=fun n i h=>by
  rw [List.getD_eq_getElem?_getD,List.getElem?_replicate,if_pos (by omega)];rfl
 refine ⟨by simp [start],by simp [start],rfl,(fun o ho=>by cases ho),fun i hi hn=>?_,fun i hi hn=>?_⟩
 ·exact absurd (rep _ _ (S.rng i hi)) hn
 ·exact .inl (rep _ _ (S.rng' i hi))
end
theorem getD_snoc_lt {l : List Int} {x : Int} {j : Nat} (h : j < l.length) : (l ++ [x]).getD j 0 = l.getD j 0:=by
 rw [List.getD_eq_getElem?_getD,List.getElem?_append_left h,List.getD_eq_getElem?_getD]
theorem getD_snoc_eq (l : List Int) (x : Int) : (l ++ [x]).getD l.length 0 = x:=by
 rw [List.getD_eq_getElem?_getD,List.getElem?_append_right (Nat.le_refl _)];simp
structure Cv (ns : List Nd) (rs st pl ord : List Int) : Prop where
 plen : pl.length = ns.length
 kids : ∀ d∈ns,placesB d.kids ns.length = true
 bare : ∀ d∈ns,atomB d.kind = true -> d.kids = []
 srng : ∀ z∈st,0 <= z /\ z < ns.length
 cl : ∀ i : Int,0 <= i -> i < ns.length -> pl.getD i.toNat 0 ≠ -1 -> ∀ k∈(ns.getD i.toNat default).kids,pl.getD k.toNat 0 ≠ -1 \/ k∈st
 val : ∀ i : Int,0 <= i -> i < ns.length -> pl.getD i.toNat 0 ≠ -1 -> 0 <= pl.getD i.toNat 0 /\ pl.getD i.toNat 0 < ord.length /\ (ord.getD (pl.getD i.toNat 0).toNat 0 = i \/ atomB (ns.getD i.toNat default).kind = true /\ sameA (ns.getD (ord.getD (pl.getD i.toNat 0).toNat 0).toNat default) (ns.getD i.toNat default))
 ordr : ∀ j,j < ord.length -> 0 <= ord.getD j 0 /\ ord.getD j 0 < ns.length /\ pl.getD (ord.getD j 0).toNat 0 = (j : Int)
 dist : ∀ j j',j < j' -> j' < ord.length -> atomB (ns.getD (ord.getD j 0).toNat default).kind = true -> ¬ sameA (ns.getD (ord.getD j 0).toNat default) (ns.getD (ord.getD j' 0).toNat default)
 src : ∀ j,j < ord.length -> ord.getD j 0∈rs \/ ∃ i,i < j /\ ord.getD j 0∈(ns.getD (ord.getD i 0).toNat default).kids
 ssrc : ∀ z∈st,z∈rs \/ ∃ i,i < ord.length /\ z∈(ns.getD (ord.getD i 0).toNat default).kids
section
variable {ns : List Nd} {rs : List Int}
theorem Cv.skip {o : Int} {st pl ord : List Int} (h : Cv ns rs (o :: st) pl ord) (hp : pl.getD o.toNat 0 ≠ -1) : Cv ns rs st pl ord :=
 ⟨h.plen,h.kids,h.bare,fun z hz=>h.srng z (by simp [hz]),fun i h0 h1 hi k hk=>by
  rcases h.cl i h0 h1 hi k hk with q | q
  ·exact .inl q
  ·rcases List.mem_cons.1 q with rfl | q
   ·exact .inl hp
   ·exact .inr q,h.val,h.ordr,h.dist,h.src,fun z hz=>h.ssrc z (by simp [hz])⟩
theorem Cv.meet {o : Int} {st pl ord : List Int} (h : Cv ns rs (o :: st) pl ord) (hp : pl.getD o.toNat 0 = -1) : Cv ns rs ((ns.getD o.toNat default).kids ++ st) (meetS ns pl ord o.toNat).1 (meetS ns pl ord o.toNat).2:=by
 obtain ⟨h0,h1⟩:=h.srng o (by simp)
 have hmem : ns.getD o.toNat default∈ns:=getD_mem_nd (by omega)
 have hol : o.toNat < pl.length:=by rw [h.plen];omega
 have hcl : ∀ z : Int,z ≠ -1 -> ∀ i : Int,0 <= i -> i < ns.length -> (pl.set o.toNat z).getD i.toNat 0 ≠ -1 -> ∀ k∈(ns.getD i.toNat default).kids,(pl.set o.toNat z).getD k.toNat 0 ≠ -1 \/ k∈(ns.getD o.toNat default).kids ++ st:=by
  intro z hz i i0 i1 hi k hk
  by_cases hio : i = o
  ·subst hio;exact .inr (List.mem_append_left _ hk)
  ·rw [getDi_set_ne (by omega)] at hi
   have hkr:=places_rng (h.kids _ (getD_mem_nd (by omega : i.toNat < ns.length))) k hk
   by_cases hko : k = o
   ·subst hko;rw [getD_set_self hol];exact .inl hz
   ·rw [getDi_set_ne (by omega)]
    rcases h.cl i i0 i1 hi k hk with q | q
    ·exact .inl q
    ·rcases List.mem_cons.1 q with rfl | q
     ·exact absurd rfl hko
     ·exact .inr (List.mem_append_right _ q)
 have hsr : ∀ z∈(ns.getD o.toNat default).kids ++ st,0 <= z /\ z < ns.length:=by
  intro z hz
  rcases List.mem_append.1 hz with hz | hz
  ·exact places_rng (h.kids _ hmem) z hz
  ·exact h.srng z (by simp [hz])
 have hno : ∀ j,j < ord.length -> ord.getD j 0 ≠ o:=by
  intro j hj e
  have:=(h.ordr j hj).2.2
  rw [e,hp] at this;omega
 have fresh : (atomB (ns.getD o.toNat default).kind = false \/ findA ns ord (ns.getD o.toNat default) = none) -> Cv ns rs ((ns.getD o.toNat default).kids ++ st) (pl.set o.toNat ord.length) (ord ++ [o]):=by
  intro hf
  refine ⟨by rw [List.length_set];exact h.plen,h.kids,h.bare,hsr,hcl _ (by omega),fun i i0 i1 hi=>?_,fun j hj=>?_,fun j j' hj hj' ha=>?_,fun j hj=>?_,fun z hz=>?_⟩
  ·by_cases hio : i = o
   ·subst hio
    rw [getD_set_self hol]
    refine ⟨by omega,by rw [List.length_append,List.length_singleton];omega,.inl ?_⟩
    rw [Int.toNat_natCast,getD_snoc_eq]
   ·rw [getDi_set_ne (by omega)] at hi ⊢
    obtain ⟨q1,q2,q3⟩:=h.val i i0 i1 hi
    rw [getD_snoc_lt (by omega)]
    exact ⟨q1,by rw [List.length_append,List.length_singleton];omega,q3⟩
  ·rw [List.length_append, List.length_singleton] at hj
   by_cases hjl : j < ord.length
   ·rw [getD_snoc_lt hjl]
    obtain ⟨q1,q2,q3⟩:=h.ordr j hjl
    have:=hno j hjl
    exact ⟨q1,q2,by rw [getDi_set_ne (by omega)];exact q3⟩
   ·obtain rfl : j = ord.length := by omega
    rw [getD_snoc_eq]
    exact ⟨h0,h1,getD_set_self hol⟩
  ·rw [List.length_append, List.length_singleton] at hj'
   have hjl : j < ord.length:=by omega
   rw [getD_snoc_lt hjl] at ha ⊢
   by_cases hjl' : j' < ord.length
   ·rw [getD_snoc_lt hjl'];exact h.dist j j' hj hjl' ha
   ·obtain rfl : j' = ord.length := by omega
    rw [getD_snoc_eq]
    intro hs
    rcases hf with hf | hf
    ·rw [hs.1,hf] at ha;cases ha
    ·unfold findA at hf
     rw [List.findIdx?_eq_none_iff] at hf
     have hm : ord.getD j 0∈ord:=by rw [List.getD_eq_getElem?_getD,List.getElem?_eq_getElem hjl];exact List.getElem_mem hjl
     have:=hf _ hm
     rw [ha,decide_eq_true hs] at this;cases this
  ·rw [List.length_append, List.length_singleton] at hj
   by_cases hjl : j < ord.length
   ·rw [getD_snoc_lt hjl]
    rcases h.src j hjl with q | ⟨i,q1,q2⟩
    ·exact .inl q
    ·exact .inr ⟨i,q1,by rw [getD_snoc_lt (by omega)];exact q2⟩
   ·obtain rfl : j = ord.length := by omega
    rw [getD_snoc_eq]
    rcases h.ssrc o (by simp) with q | ⟨i,q1,q2⟩
    ·exact .inl q
    ·exact .inr ⟨i,q1,by rw [getD_snoc_lt q1];exact q2⟩
  ·rcases List.mem_append.1 hz with hz | hz
   ·exact .inr ⟨ord.length,by simp,by rw [getD_snoc_eq];exact hz⟩
   ·rcases h.ssrc z (by simp [hz]) with q | ⟨i, q1, q2⟩
    ·exact .inl q
    ·exact .inr ⟨i,by simp;omega,by rw [getD_snoc_lt q1];exact q2⟩
 unfold meetS
 rw [Int.toNat_of_nonneg h0]
 by_cases hat : atomB (ns.getD o.toNat default).kind = true
 ·rw [if_pos hat]
  cases hfo : findA ns ord (ns.getD o.toNat default) with
  | none=>exact fresh (.inr hfo)
  | some j =>
   have hj:=findA_lt hfo
   obtain ⟨g1,g2⟩:=findA_get hfo
   have hk0:=h.bare _ hmem hat
   show Cv ns rs ((ns.getD o.toNat default).kids ++ st) (pl.set o.toNat (j : Int)) ord
   refine ⟨by rw [List.length_set];exact h.plen,h.kids,h.bare,hsr,hcl _ (by omega),fun i i0 i1 hi=>?_,fun j2 hj2=>?_,h.dist,h.src,fun z hz=>?_⟩
   ·by_cases hio : i = o
    ·subst hio
     rw [getD_set_self hol]
     exact ⟨by omega,by omega,.inr ⟨hat,by rw [Int.toNat_natCast];exact g2⟩⟩
    ·rw [getDi_set_ne (by omega)] at hi ⊢
     exact h.val i i0 i1 hi
   ·obtain ⟨q1, q2, q3⟩ := h.ordr j2 hj2
    have:=hno j2 hj2
    exact ⟨q1,q2,by rw [getDi_set_ne (by omega)];exact q3⟩
   ·rw [hk0, List.nil_append] at hz
    exact h.ssrc z (by simp [hz])
 ·rw [if_neg hat];exact fresh (.inl (by simpa using hat))
theorem meetS_mono {pl ord : List Int} {old : Nat} {i : Nat} (h : pl.getD i 0 ≠ -1) (hl : old < pl.length) : (meetS ns pl ord old).1.getD i 0 ≠ -1:=by
 obtain ⟨z,hz1,hz2,hz3,hz4⟩:=meetS_facts ns pl ord old
 rw [hz3]
 by_cases e : old = i
 ·subst e;rw [getD_set_self hl];exact hz1
 ·rw [getDi_set_ne e];exact h
theorem Cv.end_ {nn : Nat} : ∀ {f : Nat} {st pl ord : List Int},Fv ns nn st pl ord f -> Cv ns rs st pl ord ->
  Cv ns rs [] (followS ns f st pl ord).1 (followS ns f st pl ord).2 /\ (∀ i,pl.getD i 0 ≠ -1 -> (followS ns f st pl ord).1.getD i 0 ≠ -1) /\ (∀ z∈st,(followS ns f st pl ord).1.getD z.toNat 0 ≠ -1)
 | 0,st,pl,ord,h,c=>by
  have:=h.fu
  obtain rfl : st = []:=List.length_eq_zero_iff.1 (by omega)
  exact ⟨c,fun _ h=>h,fun z hz=>by cases hz⟩
 | f + 1,[],pl,ord,h,c=>⟨c,fun _ h=>h,fun z hz=>by cases hz⟩
 | f + 1, o :: st, pl, ord, h, c => by
  unfold followS
  have hr:=h.rng o (by simp)
  have hl : o.toNat < pl.length:=by rw [h.plen];omega
  by_cases hp : pl.getD o.toNat 0 = -1
  ·rw [if_neg (fun hq => hq hp)]
   obtain ⟨q1,q2,q3⟩:=(Cv.end_ (h.meet hp) (c.meet hp))
   refine ⟨q1,fun i hi=>q2 i (meetS_mono hi hl),fun z hz=>?_⟩
   rcases List.mem_cons.1 hz with rfl | hz
   ·refine q2 _ ?_
    obtain ⟨y,hy1,hy2,hy3,hy4⟩:=meetS_facts ns pl ord z.toNat
    rw [hy3,getD_set_self hl];exact hy1
   ·exact q3 z (by simp [hz])
  ·rw [if_pos hp]
   obtain ⟨q1,q2,q3⟩:=(Cv.end_ h.skip (c.skip hp))
   refine ⟨q1,q2,fun z hz=>?_⟩
   rcases List.mem_cons.1 hz with rfl | hz
   ·exact q2 _ hp
   ·exact q3 z hz
theorem Cv.push {pl ord : List Int} (h : Cv ns rs [] pl ord) {r : Int} (hr : r∈rs) (hrr : 0 <= r /\ r < ns.length) : Cv ns rs [r] pl ord :=
 ⟨h.plen,h.kids,h.bare,(fun z hz=>by obtain rfl : z = r:=(by simpa using hz);exact hrr),(fun i i0 i1 hi k hk=>by
  rcases h.cl i i0 i1 hi k hk with q | q
  ·exact .inl q
  ·cases q),h.val,h.ordr,h.dist,h.src,(fun z hz=>by obtain rfl : z = r:=(by simpa using hz);exact .inl hr)⟩
theorem Cv.roots {nn : Nat} {f : Nat} (hf : 1 + 100 * nn <= f) (hnn : nn <= 2500) : ∀ {l : List Int} {s : List Int × List Int},(∀ z∈l,z∈rs) -> (∀ z∈l,0 <= z /\ z < (nn : Int)) -> Sv ns nn s.1 s.2 -> Cv ns rs [] s.1 s.2 ->
  Sv ns nn (followR ns f l s).1 (followR ns f l s).2 /\ Cv ns rs [] (followR ns f l s).1 (followR ns f l s).2 /\ (∀ i,s.1.getD i 0 ≠ -1 -> (followR ns f l s).1.getD i 0 ≠ -1) /\ (∀ z∈l,(followR ns f l s).1.getD z.toNat 0 ≠ -1)
 | [],s,_,_,S,C=>⟨S,C,fun _ h=>h,fun z hz=>by cases hz⟩
 | r :: l,s,hl,hr,S,C=>by
  have r0:=hr r (by simp)
  obtain ⟨q1,q2,q3⟩:=Cv.end_ (f:=f) (S.fv r0 hf) (C.push (hl r (by simp)) (by rw [S.nlen];exact r0))
  obtain ⟨p0,p1,p2,p3⟩:=Cv.roots (nn:=nn) hf hnn (l:=l) (s:=followS ns f [r] s.1 s.2) (fun z hz=>hl z (by simp [hz])) (fun z hz=>hr z (by simp [hz])) (S.follow hnn r0 hf) q1
  refine ⟨p0,p1,fun i hi=>p2 i (q2 i hi),fun z hz=>?_⟩
  rcases List.mem_cons.1 hz with rfl | hz
  ·exact p2 _ (q3 z (by simp))
  ·exact p3 z hz
end
end Go.Proofs.YticimejfjjmikaaGreatDoor
