import Derived.Test.YticimejfjjmikaaGreatDoorX0
import Derived.Test.YticimejfjjmikaaGreatDoorProg
import Derived.Laws.BitsAllLaws
import Derived.Test.YticimejfjjmikaaGreatDoorW16
import Derived.Deep.RegionLaw
set_option linter.unusedVariables false
set_option linter.unusedSimpArgs false
set_option maxRecDepth 100000
namespace Go.Proofs.YticimejfjjmikaaGreatDoor
open Go.RowKit
theorem wletter_any (n : Int) (w : World) : Calls Tryz.prog 83 #[.int .i64 n] w fun e w'=>e = .returned (.bool (ltrB n)) /\ w' = w:=by
 unfold ltrB
 by_cases h1 : 0 <= n <;> by_cases h2 : n <= 1114111 <;> by_cases h3 : n < 55296 <;> by_cases h4 : 57343 < n <;>
 ·go_enter Tryz.func83, Tryz.ntmps83
  go_wp2
  go_ret
  exact ⟨by simp [h1,h2,h3,h4],rfl⟩
def Z64 (n : Int) : Prop:=-9223372036854775808 <= n /\ n <= 9223372036854775807
def SVal (k n t : Int) : Value:=.agg #[.int .i64 k,.int .i64 n,.int .i64 t]
set_option maxHeartbeats 4000000 in
theorem right_any (k n t : Int) (hk : Z64 k) (hn : Z64 n) (ht : Z64 t) (w : World) :
  Calls Tryz.prog 150 #[SVal k n t] w fun e w'=>e = .returned (.bool (rightB k n t)) /\ Below w.heap.size w w':=by
 unfold SVal
 unfold Z64 at hk hn ht
 have bA:=hid (Ba w (.cells #[.int .i64 k,.int .i64 n,.int .i64 t] 161))
 go_enter Tryz.func150,Tryz.ntmps150
 go_wp2_with (go_at_call 83;refine (wletter_any _ _).mono ?_;rintro e w9 ⟨rfl,hw9⟩;rw [hw9])
 all_goals go_ret
 all_goals refine ⟨?_,bA.out⟩
 all_goals clear bA
 all_goals (simp only [beq_iff_eq,beq_eq_false_iff_ne,ne_eq] at *)
 all_goals (unfold rightB;simp_all;try omega)
set_option maxHeartbeats 4000000 in
theorem rword_any (k n t : Int) (hk : Z64 k) (hn : Z64 n) (ht : Z64 t) (w : World) :
  Calls Tryz.prog 147 #[SVal k n t] w fun e w'=>e = .returned (.tuple #[.int .u64 (wordR k n t),.bool (rightB k n t)]) /\ Below w.heap.size w w':=by
 have HR:=hid (fun w=>right_any k n t hk hn ht w)
 unfold SVal at HR ⊢
 unfold Z64 at hk hn ht
 have bA:=hid (Ba w (.cells #[.int .i64 k,.int .i64 n,.int .i64 t] 161))
 go_enter Tryz.func147,Tryz.ntmps147
 go_wp2_with fail
 refine (HR.out _).mono ?_
 rintro e W ⟨rfl,b2⟩
 have hx:=(b2.block w.heap.size (by rw [size_alloc];omega)).trans (blk_new w #[.int .i64 k,.int .i64 n,.int .i64 t] 161)
 have c0 : W.cell? ⟨w.heap.size,0,none⟩ = some (.int .i64 k):=blk_cell hx 0
 have c1 : W.cell? ⟨w.heap.size,1,none⟩ = some (.int .i64 n):=blk_cell hx 1
 have c2 : W.cell? ⟨w.heap.size,2,none⟩ = some (.int .i64 t):=blk_cell hx 2
 have HB:=hid (Bt bA.out b2)
 clear hx b2 bA HR
 obtain ⟨rb,hrb⟩ : ∃ rb,rb = rightB k n t:=⟨_,rfl⟩
 rw [<- hrb]
 have HRB:=hid hrb
 clear hrb
 cases rb
 ·go_wp2_with fail
  go_ret2
  refine ⟨?_,HB.out⟩
  have:=HRB.out
  unfold wordR;simp [<- this]
 have hw : Hid (wordR k n t = wrdB k n t):=by unfold Hid wordR;rw [if_pos HRB.out.symm]
 rcases right_cases HRB.out.symm with ⟨rfl,h1,h2⟩ | ⟨rfl,h1,h2⟩ | ⟨rfl,h1,h2⟩ | ⟨rfl,h1,h2,h3⟩ | ⟨rfl | rfl | rfl,h1,h2⟩ | ⟨rfl,h1,h2,h3,h4⟩
 all_goals (go_wp2_with fail;go_ret2;refine ⟨?_,HB.out⟩;rw [hw.out];simp only [wrdB])
 all_goals (rw [<- HRB.out];simp [IntKind.wrap_u64];try omega)
theorem store3 {w : World} {g : Nat} {a b c v1 v2 v3 : Value} {t : TypeId} (h : w.heap[g]? = some (.cells #[a,b,c] t (0,0))) : (((w.setCell ⟨g,0,none⟩ v1).setCell ⟨g,1,none⟩ v2).setCell ⟨g,2,none⟩ v3).heap[g]? = some (.cells #[v1,v2,v3] t (0,0)):=by
 have h1:=blk_set (i:=0) h v1
 have h2:=blk_set (i:=1) h1 v2
 have h3:=blk_set (i:=2) h2 v3
 rw [h3];rfl
theorem store3_below {n : Nat} {w0 w : World} {g : Nat} {v1 v2 v3 : Value} (h : Below n w0 w) (hg : n <= g) : Below n w0 (((w.setCell ⟨g,0,none⟩ v1).setCell ⟨g,1,none⟩ v2).setCell ⟨g,2,none⟩ v3) :=
 ((h.setCell (p:=⟨g,0,none⟩) hg _).setCell (p:=⟨g,1,none⟩) hg _).setCell (p:=⟨g,2,none⟩) hg _
set_option maxHeartbeats 8000000 in
theorem rof_any (x : Int) (hx : U64 x) (w : World) :
  Calls Tryz.prog 97 #[.int .u64 x] w fun e w'=>e = .returned (SVal (ofR x).1 (ofR x).2.1 (ofR x).2.2) /\ Below w.heap.size w w':=by
 have HR:=hid right_any
 unfold SVal at HR ⊢
 unfold U64 at hx
 by_cases h0 : x % 8 = 0
 ·have e0 : wrap64 ((wrap64 x).tdiv 8) = sgnW x / 8 := by
   have h1 : wrap64 x = sgnW x:=by unfold wrap64 sgnW;split <;> omega
   rw [h1]
   have h2 : (sgnW x).tdiv 8 = sgnW x / 8:=Int.tdiv_eq_ediv_of_dvd (by unfold sgnW;split <;> omega)
   rw [h2]
   unfold wrap64 sgnW;split <;> omega
  obtain ⟨y,hy⟩ : ∃ y,y = sgnW x / 8:=⟨_,rfl⟩
  rw [<- hy] at e0
  have hyr : -1152921504606846976 <= y /\ y < 1152921504606846976:=by rw [hy];unfold sgnW;split <;> omega
  have HY:=hid hy
  clear hy
  go_enter Tryz.func97,Tryz.ntmps97
  go_wp2_with fail
  with_reducible refine (HR.out 1 y 0 (by unfold Z64;omega) (by unfold Z64;omega) (by unfold Z64;omega) _).mono ?_
  rintro e W ⟨rfl,b2⟩
  have HB:=hid (Bt (Baa w (.cells #[.int .i64 0,.int .i64 0,.int .i64 0] 161) (.cells #[.int .i64 1,.int .i64 y,.int .i64 0] 161)) b2)
  have hx0:=(b2.block w.heap.size (by rw [size_alloc,size_alloc];omega)).trans (((Ba (w.alloc (.cells #[.int .i64 0,.int .i64 0,.int .i64 0] 161)) (.cells #[.int .i64 1,.int .i64 y,.int .i64 0] 161)).block w.heap.size (by rw [size_alloc];omega)).trans (blk_new w #[.int .i64 0,.int .i64 0,.int .i64 0] 161))
  have hx1:=(b2.block (w.heap.size + 1) (by rw [size_alloc,size_alloc];omega)).trans (heap_alloc2_new w (.cells #[.int .i64 0,.int .i64 0,.int .i64 0] 161) (.cells #[.int .i64 1,.int .i64 y,.int .i64 0] 161))
  have hof : Hid (ofRaw x = (1,y,0)):=by
   unfold Hid ofRaw
   rw [if_pos h0,HY.out]
  have c0 : W.cell? ⟨w.heap.size,0,none⟩ = some (.int .i64 0):=blk_cell hx0 0
  have c1 : W.cell? ⟨w.heap.size,1,none⟩ = some (.int .i64 0):=blk_cell hx0 1
  have c2 : W.cell? ⟨w.heap.size,2,none⟩ = some (.int .i64 0):=blk_cell hx0 2
  have d0 : W.cell? ⟨w.heap.size + 1,0,none⟩ = some (.int .i64 1):=blk_cell hx1 0
  have d1 : W.cell? ⟨w.heap.size + 1,1,none⟩ = some (.int .i64 y):=blk_cell hx1 1
  have d2 : W.cell? ⟨w.heap.size + 1,2,none⟩ = some (.int .i64 0):=blk_cell hx1 2
  have f0:=blk_free hx0 0
  have f1:=blk_free hx0 1
  have f2:=blk_free hx0 2
  have HX:=hid hx0
  clear hx0 hx1 b2
  obtain ⟨rb,hrb⟩ : ∃ rb,rb = rightB 1 y 0:=⟨_,rfl⟩
  rw [<- hrb]
  have hR : Hid (ofR x = if rb then (1,y,0) else (0,0,0)):=by unfold Hid ofR;rw [hof.out];simp only [hrb]
  clear hrb
  cases rb
  ·go_wp2_with fail
   have hst:=store3 (v1:=.int .i64 0) (v2:=.int .i64 0) (v3:=.int .i64 0) HX.out
   have t0:=blk_cell hst 0
   have t1:=blk_cell hst 1
   have t2:=blk_cell hst 2
   (try simp only [Exit.inBlock,Exit.then]);refine bodyPost_ret (by simp [results,Tryz.results97,go_sem,t0,t1,t2];rfl) rfl ?_
   rw [hR.out]
   exact ⟨rfl,store3_below HB.out (Nat.le_refl _)⟩
  ·go_wp2_with fail
   have hst:=store3 (v1:=.int .i64 1) (v2:=.int .i64 y) (v3:=.int .i64 0) HX.out
   have t0:=blk_cell hst 0
   have t1:=blk_cell hst 1
   have t2:=blk_cell hst 2
   (try simp only [Exit.inBlock,Exit.then]);refine bodyPost_ret (by simp [results,Tryz.results97,go_sem,t0,t1,t2];rfl) rfl ?_
   rw [hR.out]
   exact ⟨rfl,store3_below HB.out (Nat.le_refl _)⟩
 by_cases h1 : x % 8 = 1
 ·go_enter Tryz.func97, Tryz.ntmps97
  go_wp2_with fail
  with_reducible refine (HR.out 2 (x / 8) 0 (by unfold Z64;omega) (by unfold Z64;omega) (by unfold Z64;omega) _).mono ?_
  rintro e W ⟨rfl,b2⟩
  have HB:=hid (Bt (Baa w (.cells #[.int .i64 0,.int .i64 0,.int .i64 0] 161) (.cells #[.int .i64 2,.int .i64 (x / 8),.int .i64 0] 161)) b2)
  have hx0:=(b2.block w.heap.size (by rw [size_alloc,size_alloc];omega)).trans (((Ba (w.alloc (.cells #[.int .i64 0,.int .i64 0,.int .i64 0] 161)) (.cells #[.int .i64 2,.int .i64 (x / 8),.int .i64 0] 161)).block w.heap.size (by rw [size_alloc];omega)).trans (blk_new w #[.int .i64 0,.int .i64 0,.int .i64 0] 161))
  have hx1:=(b2.block (w.heap.size + 1) (by rw [size_alloc,size_alloc];omega)).trans (heap_alloc2_new w (.cells #[.int .i64 0,.int .i64 0,.int .i64 0] 161) (.cells #[.int .i64 2,.int .i64 (x / 8),.int .i64 0] 161))
  have hof : Hid (ofRaw x = (2,(x / 8),0)):=by
   unfold Hid ofRaw
   rw [if_neg h0,if_pos h1]
  have c0 : W.cell? ⟨w.heap.size,0,none⟩ = some (.int .i64 0):=blk_cell hx0 0
  have c1 : W.cell? ⟨w.heap.size,1,none⟩ = some (.int .i64 0):=blk_cell hx0 1
  have c2 : W.cell? ⟨w.heap.size,2,none⟩ = some (.int .i64 0):=blk_cell hx0 2
  have d0 : W.cell? ⟨w.heap.size + 1,0,none⟩ = some (.int .i64 2):=blk_cell hx1 0
  have d1 : W.cell? ⟨w.heap.size + 1,1,none⟩ = some (.int .i64 (x / 8)):=blk_cell hx1 1
  have d2 : W.cell? ⟨w.heap.size + 1,2,none⟩ = some (.int .i64 0):=blk_cell hx1 2
  have f0:=blk_free hx0 0
  have f1:=blk_free hx0 1
  have f2:=blk_free hx0 2
  have HX:=hid hx0
  clear hx0 hx1 b2
  obtain ⟨rb,hrb⟩ : ∃ rb,rb = rightB 2 (x / 8) 0:=⟨_,rfl⟩
  rw [<- hrb]
  have hR : Hid (ofR x = if rb then (2,(x / 8),0) else (0,0,0)):=by unfold Hid ofR;rw [hof.out];simp only [hrb]
  clear hrb
  cases rb
  ·go_wp2_with fail
   have hst:=store3 (v1:=.int .i64 0) (v2:=.int .i64 0) (v3:=.int .i64 0) HX.out
   have t0:=blk_cell hst 0
   have t1:=blk_cell hst 1
   have t2:=blk_cell hst 2
   (try simp only [Exit.inBlock,Exit.then]);refine bodyPost_ret (by simp [results,Tryz.results97,go_sem,t0,t1,t2];rfl) rfl ?_
   rw [hR.out]
   exact ⟨rfl,store3_below HB.out (Nat.le_refl _)⟩
  ·go_wp2_with fail
   have hst:=store3 (v1:=.int .i64 2) (v2:=.int .i64 (x / 8)) (v3:=.int .i64 0) HX.out
   have t0:=blk_cell hst 0
   have t1:=blk_cell hst 1
   have t2:=blk_cell hst 2
   (try simp only [Exit.inBlock,Exit.then]);refine bodyPost_ret (by simp [results,Tryz.results97,go_sem,t0,t1,t2];rfl) rfl ?_
   rw [hR.out]
   exact ⟨rfl,store3_below HB.out (Nat.le_refl _)⟩
 by_cases h2 : x % 8 = 2
 ·by_cases h5 : x / 8 % 32 <= 5
  ·by_cases hz : x / 256 = 0
   ·go_enter Tryz.func97, Tryz.ntmps97
    go_wp2_with fail
    with_reducible refine (HR.out 3 (x / 8 % 32) 0 (by unfold Z64;omega) (by unfold Z64;omega) (by unfold Z64;omega) _).mono ?_
    rintro e W ⟨rfl,b2⟩
    have HB:=hid (Bt (Baa w (.cells #[.int .i64 0,.int .i64 0,.int .i64 0] 161) (.cells #[.int .i64 3,.int .i64 (x / 8 % 32),.int .i64 0] 161)) b2)
    have hx0:=(b2.block w.heap.size (by rw [size_alloc,size_alloc];omega)).trans (((Ba (w.alloc (.cells #[.int .i64 0,.int .i64 0,.int .i64 0] 161)) (.cells #[.int .i64 3,.int .i64 (x / 8 % 32),.int .i64 0] 161)).block w.heap.size (by rw [size_alloc];omega)).trans (blk_new w #[.int .i64 0,.int .i64 0,.int .i64 0] 161))
    have hx1:=(b2.block (w.heap.size + 1) (by rw [size_alloc,size_alloc];omega)).trans (heap_alloc2_new w (.cells #[.int .i64 0,.int .i64 0,.int .i64 0] 161) (.cells #[.int .i64 3,.int .i64 (x / 8 % 32),.int .i64 0] 161))
    have hof : Hid (ofRaw x = (3,(x / 8 % 32),0)):=by
     unfold Hid ofRaw
     rw [if_neg h0,if_neg h1,if_pos h2,if_pos ⟨h5,hz⟩]
    have c0 : W.cell? ⟨w.heap.size,0,none⟩ = some (.int .i64 0):=blk_cell hx0 0
    have c1 : W.cell? ⟨w.heap.size,1,none⟩ = some (.int .i64 0):=blk_cell hx0 1
    have c2 : W.cell? ⟨w.heap.size,2,none⟩ = some (.int .i64 0):=blk_cell hx0 2
    have d0 : W.cell? ⟨w.heap.size + 1,0,none⟩ = some (.int .i64 3):=blk_cell hx1 0
    have d1 : W.cell? ⟨w.heap.size + 1,1,none⟩ = some (.int .i64 (x / 8 % 32)):=blk_cell hx1 1
    have d2 : W.cell? ⟨w.heap.size + 1,2,none⟩ = some (.int .i64 0):=blk_cell hx1 2
    have f0:=blk_free hx0 0
    have f1:=blk_free hx0 1
    have f2:=blk_free hx0 2
    have HX:=hid hx0
    clear hx0 hx1 b2
    obtain ⟨rb,hrb⟩ : ∃ rb,rb = rightB 3 (x / 8 % 32) 0:=⟨_,rfl⟩
    rw [<- hrb]
    have hR : Hid (ofR x = if rb then (3,(x / 8 % 32),0) else (0,0,0)):=by unfold Hid ofR;rw [hof.out];simp only [hrb]
    clear hrb
    cases rb
    ·go_wp2_with fail
     have hst:=store3 (v1:=.int .i64 0) (v2:=.int .i64 0) (v3:=.int .i64 0) HX.out
     have t0:=blk_cell hst 0
     have t1:=blk_cell hst 1
     have t2:=blk_cell hst 2
     (try simp only [Exit.inBlock,Exit.then]);refine bodyPost_ret (by simp [results,Tryz.results97,go_sem,t0,t1,t2];rfl) rfl ?_
     rw [hR.out]
     exact ⟨rfl,store3_below HB.out (Nat.le_refl _)⟩
    ·go_wp2_with fail
     have hst:=store3 (v1:=.int .i64 3) (v2:=.int .i64 (x / 8 % 32)) (v3:=.int .i64 0) HX.out
     have t0:=blk_cell hst 0
     have t1:=blk_cell hst 1
     have t2:=blk_cell hst 2
     (try simp only [Exit.inBlock,Exit.then]);refine bodyPost_ret (by simp [results,Tryz.results97,go_sem,t0,t1,t2];rfl) rfl ?_
     rw [hR.out]
     exact ⟨rfl,store3_below HB.out (Nat.le_refl _)⟩
   ·go_enter Tryz.func97, Tryz.ntmps97
    go_wp2_with fail
    with_reducible refine (HR.out 0 0 0 (by unfold Z64;omega) (by unfold Z64;omega) (by unfold Z64;omega) _).mono ?_
    rintro e W ⟨rfl,b2⟩
    have HB:=hid (Bt (Baa w (.cells #[.int .i64 0,.int .i64 0,.int .i64 0] 161) (.cells #[.int .i64 0,.int .i64 0,.int .i64 0] 161)) b2)
    have hx0:=(b2.block w.heap.size (by rw [size_alloc,size_alloc];omega)).trans (((Ba (w.alloc (.cells #[.int .i64 0,.int .i64 0,.int .i64 0] 161)) (.cells #[.int .i64 0,.int .i64 0,.int .i64 0] 161)).block w.heap.size (by rw [size_alloc];omega)).trans (blk_new w #[.int .i64 0,.int .i64 0,.int .i64 0] 161))
    have hx1:=(b2.block (w.heap.size + 1) (by rw [size_alloc,size_alloc];omega)).trans (heap_alloc2_new w (.cells #[.int .i64 0,.int .i64 0,.int .i64 0] 161) (.cells #[.int .i64 0,.int .i64 0,.int .i64 0] 161))
    have hof : Hid (ofRaw x = (0,0,0)):=by
     unfold Hid ofRaw
     rw [if_neg h0,if_neg h1,if_pos h2,if_neg (fun e=>hz e.2),if_neg (by omega)]
    have c0 : W.cell? ⟨w.heap.size,0,none⟩ = some (.int .i64 0):=blk_cell hx0 0
    have c1 : W.cell? ⟨w.heap.size,1,none⟩ = some (.int .i64 0):=blk_cell hx0 1
    have c2 : W.cell? ⟨w.heap.size,2,none⟩ = some (.int .i64 0):=blk_cell hx0 2
    have d0 : W.cell? ⟨w.heap.size + 1,0,none⟩ = some (.int .i64 0):=blk_cell hx1 0
    have d1 : W.cell? ⟨w.heap.size + 1,1,none⟩ = some (.int .i64 0):=blk_cell hx1 1
    have d2 : W.cell? ⟨w.heap.size + 1,2,none⟩ = some (.int .i64 0):=blk_cell hx1 2
    have f0:=blk_free hx0 0
    have f1:=blk_free hx0 1
    have f2:=blk_free hx0 2
    have HX:=hid hx0
    clear hx0 hx1 b2
    obtain ⟨rb,hrb⟩ : ∃ rb,rb = rightB 0 0 0:=⟨_,rfl⟩
    rw [<- hrb]
    have hR : Hid (ofR x = if rb then (0,0,0) else (0,0,0)):=by unfold Hid ofR;rw [hof.out];simp only [hrb]
    clear hrb
    cases rb
    ·go_wp2_with fail
     have hst:=store3 (v1:=.int .i64 0) (v2:=.int .i64 0) (v3:=.int .i64 0) HX.out
     have t0:=blk_cell hst 0
     have t1:=blk_cell hst 1
     have t2:=blk_cell hst 2
     (try simp only [Exit.inBlock,Exit.then]);refine bodyPost_ret (by simp [results,Tryz.results97,go_sem,t0,t1,t2];rfl) rfl ?_
     rw [hR.out]
     exact ⟨rfl,store3_below HB.out (Nat.le_refl _)⟩
    ·go_wp2_with fail
     have hst:=store3 (v1:=.int .i64 0) (v2:=.int .i64 0) (v3:=.int .i64 0) HX.out
     have t0:=blk_cell hst 0
     have t1:=blk_cell hst 1
     have t2:=blk_cell hst 2
     (try simp only [Exit.inBlock,Exit.then]);refine bodyPost_ret (by simp [results,Tryz.results97,go_sem,t0,t1,t2];rfl) rfl ?_
     rw [hR.out]
     exact ⟨rfl,store3_below HB.out (Nat.le_refl _)⟩
  by_cases h9 : x / 8 % 32 <= 9
  ·go_enter Tryz.func97, Tryz.ntmps97
   go_wp2_with fail
   with_reducible refine (HR.out (4 + x / 8 % 32 - 6) (x / 256) 0 (by unfold Z64;omega) (by unfold Z64;omega) (by unfold Z64;omega) _).mono ?_
   rintro e W ⟨rfl,b2⟩
   have HB:=hid (Bt (Baa w (.cells #[.int .i64 0,.int .i64 0,.int .i64 0] 161) (.cells #[.int .i64 (4 + x / 8 % 32 - 6),.int .i64 (x / 256),.int .i64 0] 161)) b2)
   have hx0:=(b2.block w.heap.size (by rw [size_alloc,size_alloc];omega)).trans (((Ba (w.alloc (.cells #[.int .i64 0,.int .i64 0,.int .i64 0] 161)) (.cells #[.int .i64 (4 + x / 8 % 32 - 6),.int .i64 (x / 256),.int .i64 0] 161)).block w.heap.size (by rw [size_alloc];omega)).trans (blk_new w #[.int .i64 0,.int .i64 0,.int .i64 0] 161))
   have hx1:=(b2.block (w.heap.size + 1) (by rw [size_alloc,size_alloc];omega)).trans (heap_alloc2_new w (.cells #[.int .i64 0,.int .i64 0,.int .i64 0] 161) (.cells #[.int .i64 (4 + x / 8 % 32 - 6),.int .i64 (x / 256),.int .i64 0] 161))
   have hof : Hid (ofRaw x = ((4 + x / 8 % 32 - 6),(x / 256),0)):=by
    unfold Hid ofRaw
    rw [if_neg h0,if_neg h1,if_pos h2,if_neg (by omega),if_pos (by omega),show 4 + x / 8 % 32 - 6 = x / 8 % 32 - 2 by omega]
   have c0 : W.cell? ⟨w.heap.size,0,none⟩ = some (.int .i64 0):=blk_cell hx0 0
   have c1 : W.cell? ⟨w.heap.size,1,none⟩ = some (.int .i64 0):=blk_cell hx0 1
   have c2 : W.cell? ⟨w.heap.size,2,none⟩ = some (.int .i64 0):=blk_cell hx0 2
   have d0 : W.cell? ⟨w.heap.size + 1,0,none⟩ = some (.int .i64 (4 + x / 8 % 32 - 6)):=blk_cell hx1 0
   have d1 : W.cell? ⟨w.heap.size + 1,1,none⟩ = some (.int .i64 (x / 256)):=blk_cell hx1 1
   have d2 : W.cell? ⟨w.heap.size + 1,2,none⟩ = some (.int .i64 0):=blk_cell hx1 2
   have f0:=blk_free hx0 0
   have f1:=blk_free hx0 1
   have f2:=blk_free hx0 2
   have HX:=hid hx0
   clear hx0 hx1 b2
   obtain ⟨rb,hrb⟩ : ∃ rb,rb = rightB (4 + x / 8 % 32 - 6) (x / 256) 0:=⟨_,rfl⟩
   rw [<- hrb]
   have hR : Hid (ofR x = if rb then ((4 + x / 8 % 32 - 6),(x / 256),0) else (0,0,0)):=by unfold Hid ofR;rw [hof.out];simp only [hrb]
   clear hrb
   cases rb
   ·go_wp2_with fail
    have hst:=store3 (v1:=.int .i64 0) (v2:=.int .i64 0) (v3:=.int .i64 0) HX.out
    have t0:=blk_cell hst 0
    have t1:=blk_cell hst 1
    have t2:=blk_cell hst 2
    (try simp only [Exit.inBlock,Exit.then]);refine bodyPost_ret (by simp [results,Tryz.results97,go_sem,t0,t1,t2];rfl) rfl ?_
    rw [hR.out]
    exact ⟨rfl,store3_below HB.out (Nat.le_refl _)⟩
   ·go_wp2_with fail
    have hst:=store3 (v1:=.int .i64 (4 + x / 8 % 32 - 6)) (v2:=.int .i64 (x / 256)) (v3:=.int .i64 0) HX.out
    have t0:=blk_cell hst 0
    have t1:=blk_cell hst 1
    have t2:=blk_cell hst 2
    (try simp only [Exit.inBlock,Exit.then]);refine bodyPost_ret (by simp [results,Tryz.results97,go_sem,t0,t1,t2];rfl) rfl ?_
    rw [hR.out]
    exact ⟨rfl,store3_below HB.out (Nat.le_refl _)⟩
  ·go_enter Tryz.func97, Tryz.ntmps97
   go_wp2_with fail
   with_reducible refine (HR.out 0 0 0 (by unfold Z64;omega) (by unfold Z64;omega) (by unfold Z64;omega) _).mono ?_
   rintro e W ⟨rfl,b2⟩
   have HB:=hid (Bt (Baa w (.cells #[.int .i64 0,.int .i64 0,.int .i64 0] 161) (.cells #[.int .i64 0,.int .i64 0,.int .i64 0] 161)) b2)
   have hx0:=(b2.block w.heap.size (by rw [size_alloc,size_alloc];omega)).trans (((Ba (w.alloc (.cells #[.int .i64 0,.int .i64 0,.int .i64 0] 161)) (.cells #[.int .i64 0,.int .i64 0,.int .i64 0] 161)).block w.heap.size (by rw [size_alloc];omega)).trans (blk_new w #[.int .i64 0,.int .i64 0,.int .i64 0] 161))
   have hx1:=(b2.block (w.heap.size + 1) (by rw [size_alloc,size_alloc];omega)).trans (heap_alloc2_new w (.cells #[.int .i64 0,.int .i64 0,.int .i64 0] 161) (.cells #[.int .i64 0,.int .i64 0,.int .i64 0] 161))
   have hof : Hid (ofRaw x = (0,0,0)):=by
    unfold Hid ofRaw
    rw [if_neg h0,if_neg h1,if_pos h2,if_neg (by omega),if_neg (by omega)]
   have c0 : W.cell? ⟨w.heap.size,0,none⟩ = some (.int .i64 0):=blk_cell hx0 0
   have c1 : W.cell? ⟨w.heap.size,1,none⟩ = some (.int .i64 0):=blk_cell hx0 1
   have c2 : W.cell? ⟨w.heap.size,2,none⟩ = some (.int .i64 0):=blk_cell hx0 2
   have d0 : W.cell? ⟨w.heap.size + 1,0,none⟩ = some (.int .i64 0):=blk_cell hx1 0
   have d1 : W.cell? ⟨w.heap.size + 1,1,none⟩ = some (.int .i64 0):=blk_cell hx1 1
   have d2 : W.cell? ⟨w.heap.size + 1,2,none⟩ = some (.int .i64 0):=blk_cell hx1 2
   have f0:=blk_free hx0 0
   have f1:=blk_free hx0 1
   have f2:=blk_free hx0 2
   have HX:=hid hx0
   clear hx0 hx1 b2
   obtain ⟨rb,hrb⟩ : ∃ rb,rb = rightB 0 0 0:=⟨_,rfl⟩
   rw [<- hrb]
   have hR : Hid (ofR x = if rb then (0,0,0) else (0,0,0)):=by unfold Hid ofR;rw [hof.out];simp only [hrb]
   clear hrb
   cases rb
   ·go_wp2_with fail
    have hst:=store3 (v1:=.int .i64 0) (v2:=.int .i64 0) (v3:=.int .i64 0) HX.out
    have t0:=blk_cell hst 0
    have t1:=blk_cell hst 1
    have t2:=blk_cell hst 2
    (try simp only [Exit.inBlock,Exit.then]);refine bodyPost_ret (by simp [results,Tryz.results97,go_sem,t0,t1,t2];rfl) rfl ?_
    rw [hR.out]
    exact ⟨rfl,store3_below HB.out (Nat.le_refl _)⟩
   ·go_wp2_with fail
    have hst:=store3 (v1:=.int .i64 0) (v2:=.int .i64 0) (v3:=.int .i64 0) HX.out
    have t0:=blk_cell hst 0
    have t1:=blk_cell hst 1
    have t2:=blk_cell hst 2
    (try simp only [Exit.inBlock,Exit.then]);refine bodyPost_ret (by simp [results,Tryz.results97,go_sem,t0,t1,t2];rfl) rfl ?_
    rw [hR.out]
    exact ⟨rfl,store3_below HB.out (Nat.le_refl _)⟩
 by_cases h7 : x % 8 = 7
 ·go_enter Tryz.func97, Tryz.ntmps97
  go_wp2_with fail
  with_reducible refine (HR.out 8 (x / 2048) (x / 8 % 256) (by unfold Z64;omega) (by unfold Z64;omega) (by unfold Z64;omega) _).mono ?_
  rintro e W ⟨rfl,b2⟩
  have HB:=hid (Bt (Baa w (.cells #[.int .i64 0,.int .i64 0,.int .i64 0] 161) (.cells #[.int .i64 8,.int .i64 (x / 2048),.int .i64 (x / 8 % 256)] 161)) b2)
  have hx0:=(b2.block w.heap.size (by rw [size_alloc,size_alloc];omega)).trans (((Ba (w.alloc (.cells #[.int .i64 0,.int .i64 0,.int .i64 0] 161)) (.cells #[.int .i64 8,.int .i64 (x / 2048),.int .i64 (x / 8 % 256)] 161)).block w.heap.size (by rw [size_alloc];omega)).trans (blk_new w #[.int .i64 0,.int .i64 0,.int .i64 0] 161))
  have hx1:=(b2.block (w.heap.size + 1) (by rw [size_alloc,size_alloc];omega)).trans (heap_alloc2_new w (.cells #[.int .i64 0,.int .i64 0,.int .i64 0] 161) (.cells #[.int .i64 8,.int .i64 (x / 2048),.int .i64 (x / 8 % 256)] 161))
  have hof : Hid (ofRaw x = (8,(x / 2048),(x / 8 % 256))):=by
   unfold Hid ofRaw
   rw [if_neg h0,if_neg h1,if_neg h2,if_pos h7]
  have c0 : W.cell? ⟨w.heap.size,0,none⟩ = some (.int .i64 0):=blk_cell hx0 0
  have c1 : W.cell? ⟨w.heap.size,1,none⟩ = some (.int .i64 0):=blk_cell hx0 1
  have c2 : W.cell? ⟨w.heap.size,2,none⟩ = some (.int .i64 0):=blk_cell hx0 2
  have d0 : W.cell? ⟨w.heap.size + 1,0,none⟩ = some (.int .i64 8):=blk_cell hx1 0
  have d1 : W.cell? ⟨w.heap.size + 1,1,none⟩ = some (.int .i64 (x / 2048)):=blk_cell hx1 1
  have d2 : W.cell? ⟨w.heap.size + 1,2,none⟩ = some (.int .i64 (x / 8 % 256)):=blk_cell hx1 2
  have f0:=blk_free hx0 0
  have f1:=blk_free hx0 1
  have f2:=blk_free hx0 2
  have HX:=hid hx0
  clear hx0 hx1 b2
  obtain ⟨rb,hrb⟩ : ∃ rb,rb = rightB 8 (x / 2048) (x / 8 % 256):=⟨_,rfl⟩
  rw [<- hrb]
  have hR : Hid (ofR x = if rb then (8,(x / 2048),(x / 8 % 256)) else (0,0,0)):=by unfold Hid ofR;rw [hof.out];simp only [hrb]
  clear hrb
  cases rb
  ·go_wp2_with fail
   have hst:=store3 (v1:=.int .i64 0) (v2:=.int .i64 0) (v3:=.int .i64 0) HX.out
   have t0:=blk_cell hst 0
   have t1:=blk_cell hst 1
   have t2:=blk_cell hst 2
   (try simp only [Exit.inBlock,Exit.then]);refine bodyPost_ret (by simp [results,Tryz.results97,go_sem,t0,t1,t2];rfl) rfl ?_
   rw [hR.out]
   exact ⟨rfl,store3_below HB.out (Nat.le_refl _)⟩
  ·go_wp2_with fail
   have hst:=store3 (v1:=.int .i64 8) (v2:=.int .i64 (x / 2048)) (v3:=.int .i64 (x / 8 % 256)) HX.out
   have t0:=blk_cell hst 0
   have t1:=blk_cell hst 1
   have t2:=blk_cell hst 2
   (try simp only [Exit.inBlock,Exit.then]);refine bodyPost_ret (by simp [results,Tryz.results97,go_sem,t0,t1,t2];rfl) rfl ?_
   rw [hR.out]
   exact ⟨rfl,store3_below HB.out (Nat.le_refl _)⟩
 ·go_enter Tryz.func97, Tryz.ntmps97
  go_wp2_with fail
  with_reducible refine (HR.out 0 0 0 (by unfold Z64;omega) (by unfold Z64;omega) (by unfold Z64;omega) _).mono ?_
  rintro e W ⟨rfl,b2⟩
  have HB:=hid (Bt (Baa w (.cells #[.int .i64 0,.int .i64 0,.int .i64 0] 161) (.cells #[.int .i64 0,.int .i64 0,.int .i64 0] 161)) b2)
  have hx0:=(b2.block w.heap.size (by rw [size_alloc,size_alloc];omega)).trans (((Ba (w.alloc (.cells #[.int .i64 0,.int .i64 0,.int .i64 0] 161)) (.cells #[.int .i64 0,.int .i64 0,.int .i64 0] 161)).block w.heap.size (by rw [size_alloc];omega)).trans (blk_new w #[.int .i64 0,.int .i64 0,.int .i64 0] 161))
  have hx1:=(b2.block (w.heap.size + 1) (by rw [size_alloc,size_alloc];omega)).trans (heap_alloc2_new w (.cells #[.int .i64 0,.int .i64 0,.int .i64 0] 161) (.cells #[.int .i64 0,.int .i64 0,.int .i64 0] 161))
  have hof : Hid (ofRaw x = (0,0,0)):=by
   unfold Hid ofRaw
   rw [if_neg h0,if_neg h1,if_neg h2,if_neg h7]
  have c0 : W.cell? ⟨w.heap.size,0,none⟩ = some (.int .i64 0):=blk_cell hx0 0
  have c1 : W.cell? ⟨w.heap.size,1,none⟩ = some (.int .i64 0):=blk_cell hx0 1
  have c2 : W.cell? ⟨w.heap.size,2,none⟩ = some (.int .i64 0):=blk_cell hx0 2
  have d0 : W.cell? ⟨w.heap.size + 1,0,none⟩ = some (.int .i64 0):=blk_cell hx1 0
  have d1 : W.cell? ⟨w.heap.size + 1,1,none⟩ = some (.int .i64 0):=blk_cell hx1 1
  have d2 : W.cell? ⟨w.heap.size + 1,2,none⟩ = some (.int .i64 0):=blk_cell hx1 2
  have f0:=blk_free hx0 0
  have f1:=blk_free hx0 1
  have f2:=blk_free hx0 2
  have HX:=hid hx0
  clear hx0 hx1 b2
  obtain ⟨rb,hrb⟩ : ∃ rb,rb = rightB 0 0 0:=⟨_,rfl⟩
  rw [<- hrb]
  have hR : Hid (ofR x = if rb then (0,0,0) else (0,0,0)):=by unfold Hid ofR;rw [hof.out];simp only [hrb]
  clear hrb
  cases rb
  ·go_wp2_with fail
   have hst:=store3 (v1:=.int .i64 0) (v2:=.int .i64 0) (v3:=.int .i64 0) HX.out
   have t0:=blk_cell hst 0
   have t1:=blk_cell hst 1
   have t2:=blk_cell hst 2
   (try simp only [Exit.inBlock,Exit.then]);refine bodyPost_ret (by simp [results,Tryz.results97,go_sem,t0,t1,t2];rfl) rfl ?_
   rw [hR.out]
   exact ⟨rfl,store3_below HB.out (Nat.le_refl _)⟩
  ·go_wp2_with fail
   have hst:=store3 (v1:=.int .i64 0) (v2:=.int .i64 0) (v3:=.int .i64 0) HX.out
   have t0:=blk_cell hst 0
   have t1:=blk_cell hst 1
   have t2:=blk_cell hst 2
   (try simp only [Exit.inBlock,Exit.then]);refine bodyPost_ret (by simp [results,Tryz.results97,go_sem,t0,t1,t2];rfl) rfl ?_
   rw [hR.out]
   exact ⟨rfl,store3_below HB.out (Nat.le_refl _)⟩
theorem u64_nat {x : Int} (h : U64 x) : ∃ a : Nat,x = (a : Int) /\ a < 18446744073709551616:=⟨x.toNat,by unfold U64 at h;omega,by unfold U64 at h;omega⟩
theorem u64_or_nat (a b : Nat) (ha : a < 18446744073709551616) (hb : b < 18446744073709551616) : bits .or .u64 (a : Int) (b : Int) = ((a ||| b : Nat) : Int):=by
 have hx : a ||| b < 2 ^ 64:=Nat.or_lt_two_pow (by omega) (by omega)
 have h1 : (BitVec.ofInt 64 (a : Int)).toNat = a:=by
  rw [BitVec.ofInt_natCast,BitVec.toNat_ofNat];exact Nat.mod_eq_of_lt (by omega)
 have h2 : (BitVec.ofInt 64 (b : Int)).toNat = b:=by
  rw [BitVec.ofInt_natCast,BitVec.toNat_ofNat];exact Nat.mod_eq_of_lt (by omega)
 show IntKind.u64.wrap ((BitVec.ofInt 64 (a : Int) ||| BitVec.ofInt 64 (b : Int)).toNat : Int) = _
 rw [BitVec.toNat_or,h1,h2,IntKind.wrap_u64]
 omega
theorem u64_and_nat (a b : Nat) (ha : a < 18446744073709551616) (hb : b < 18446744073709551616) : bits .and .u64 (a : Int) (b : Int) = ((a &&& b : Nat) : Int):=by
 have hx : a &&& b <= a:=Nat.and_le_left
 have h1 : (BitVec.ofInt 64 (a : Int)).toNat = a:=by
  rw [BitVec.ofInt_natCast,BitVec.toNat_ofNat];exact Nat.mod_eq_of_lt (by omega)
 have h2 : (BitVec.ofInt 64 (b : Int)).toNat = b:=by
  rw [BitVec.ofInt_natCast,BitVec.toNat_ofNat];exact Nat.mod_eq_of_lt (by omega)
 show IntKind.u64.wrap ((BitVec.ofInt 64 (a : Int) &&& BitVec.ofInt 64 (b : Int)).toNat : Int) = _
 rw [BitVec.toNat_and,h1,h2,IntKind.wrap_u64]
 omega
theorem nat_or_join (k a b : Nat) (hb : b < 2 ^ k) : a * 2 ^ k ||| b = a * 2 ^ k + b:=by
 rw [Nat.mul_comm,Nat.two_pow_add_eq_or_of_lt hb]
theorem u64_or (k : Nat) {x b : Int} (hx : U64 x) (hd : ∃ a : Nat,x = (a : Int) * 2 ^ k) (hb0 : 0 <= b) (hb : b < 2 ^ k) (hb2 : b < 18446744073709551616) : bits .or .u64 x b = x + b:=by
 obtain ⟨a,rfl⟩:=hd
 obtain ⟨m,rfl⟩ : ∃ m : Nat,b = (m : Int):=⟨b.toNat,by omega⟩
 have e : ((a : Int) * 2 ^ k) = ((a * 2 ^ k : Nat) : Int):=by push_cast;rfl
 rw [e] at hx ⊢
 unfold U64 at hx
 rw [u64_or_nat _ _ (by omega) (by omega),nat_or_join k a m (by exact_mod_cast hb)]
 push_cast;rfl
theorem u64_and (k : Nat) {x : Int} (hx : U64 x) (hk : 2 ^ k <= 18446744073709551616) : bits .and .u64 x ((2 ^ k - 1 : Nat) : Int) = x % ((2 ^ k : Nat) : Int):=by
 obtain ⟨a,rfl,ha⟩:=u64_nat hx
 have h0 : 0 < 2 ^ k:=Nat.two_pow_pos k
 rw [u64_and_nat a (2 ^ k - 1) ha (by omega),Nat.and_two_pow_sub_one_eq_mod]
 rfl
theorem and7 {x : Int} (hx : U64 x) : bits .and .u64 x 7 = x % 8:=u64_and 3 hx (by decide)
theorem and255w {x : Int} (hx : U64 x) : bits .and .u64 x 255 = x % 256:=u64_and 8 hx (by decide)
theorem or_low3 {x b : Int} (hx : U64 x) (hd : x % 8 = 0) (hb : 0 <= b /\ b < 8) : bits .or .u64 x b = x + b :=
 u64_or 3 hx ⟨(x / 8).toNat,by unfold U64 at hx;omega⟩ hb.1 (by omega) (by omega)
theorem or_low8 {x b : Int} (hx : U64 x) (hd : x % 256 = 0) (hb : 0 <= b /\ b < 256) : bits .or .u64 x b = x + b :=
 u64_or 8 hx ⟨(x / 256).toNat,by unfold U64 at hx;omega⟩ hb.1 (by omega) (by omega)
theorem or_low11 {x b : Int} (hx : U64 x) (hd : x % 2048 = 0) (hb : 0 <= b /\ b < 2048) : bits .or .u64 x b = x + b :=
 u64_or 11 hx ⟨(x / 2048).toNat,by unfold U64 at hx;omega⟩ hb.1 (by omega) (by omega)
section
variable {P : Program} {w : World} {ops : Array Oper} {o : Oper} {a : Act} {K : Act -> World -> Prop} {Q : Exit -> Act -> World -> Prop} {E : Prop}
end
section
variable {P : Program} {ops : Array Oper} {Q : Exit -> Act -> World -> Prop} {md : Region.Mode} {S : World -> Prop}
theorem htake (i : Nat) (d : Option Nat) (v : Value) {oi : Oper} {fuel : Nat} {listed : Array Bool} {a : Act} {w : World} (hi : ops[i]? = some oi) (hd : oi.dst = d)
  (hs : Region.noSelect ops = true) (hf : Region.free md ops listed i = true) (hr : (Region.ready md ops listed).contains i = true)
  (hQ : ∀ c a w,Q (.panic c) (a.put d v) w -> Q (.panic c) a w) (hy : YieldsIf P ops S oi v a) (hS : S w)
  (h : wpAnyH P md ops Q S fuel (listed.setIfInBounds i true) (a.put d v) w) : wpAnyH P md ops Q S (fuel + 1) listed a w:=by
 subst hd
 exact wpAnyH_take hi hs hf hr hQ hy hS h
theorem hone (i : Nat) (o : Oper) {fuel : Nat} {listed : Array Bool} {a : Act} {w : World} (ho : ops[i]? = some o) (hr : Region.ready md ops listed = [i])
  (h : ∀ K' : Act -> World -> Prop,Shut (∀ a w,S w -> (S w -> wpAnyH P md ops Q S fuel (listed.setIfInBounds i true) a w) -> K' a w) -> if Region.wanted o (yielded ops a.tmps) = true then Oper.wp P o a w K' Q else K' (a.put o.dst undef) w) :
  wpAnyH P md ops Q S (fuel + 1) listed a w:=wpAnyH_ready hr (by simp) (AllReadyH.cons ho h AllReadyH.nil)
end
section
variable {P : Program} {ops : Array Oper} {Q : Exit -> Act -> World -> Prop} {md : Region.Mode} {S : World -> Prop} {σ : Type} {L : σ -> Array Bool} {m : σ -> Nat} {Inv : σ -> Act -> World -> Prop}
def Steps (P : Program) (ops : Array Oper) (Q : Exit -> Act -> World -> Prop) (S : World -> Prop) (L : σ -> Array Bool) (m : σ -> Nat) (Inv : σ -> Act -> World -> Prop) (s : σ) (a : Act) (w : World) (rs : List Nat) : Prop :=
 ∀ i∈rs,wpOp P ops Q i (fun a' w'=>S w' /\ ∃ s',L s' = (L s).setIfInBounds i true /\ m s = m s' + 1 /\ Inv s' a' w') a w
theorem Steps.nil {s : σ} {a : Act} {w : World} : Steps P ops Q S L m Inv s a w []:=fun _ h=>by cases h
theorem Steps.cons {s : σ} {a : Act} {w : World} {i : Nat} {o : Oper} {rs : List Nat} (s' : σ) (ho : ops[i]? = some o) (hL : L s' = (L s).setIfInBounds i true) (hm : m s = m s' + 1)
  (h : ∀ K' : Act -> World -> Prop,Shut (∀ a w,S w -> Inv s' a w -> K' a w) -> if Region.wanted o (yielded ops a.tmps) = true then Oper.wp P o a w K' Q else K' (a.put o.dst undef) w)
  (hs : Steps P ops Q S L m Inv s a w rs) : Steps P ops Q S L m Inv s a w (i :: rs):=fun j hj=>by
 rcases List.mem_cons.1 hj with rfl | hj
 ·exact wpOp_step ho (fun K' hK=>h K' (fun a w hS hW=>hK a w ⟨hS,s',hL,hm,hW⟩))
 ·exact hs j hj
theorem wpAnyH_inv (L : σ -> Array Bool) (m : σ -> Nat) (Inv : σ -> Act -> World -> Prop) (base : Nat)
  (h : ∀ s a w,Inv s a w -> (m s = 0 /\ wpAnyH P md ops Q S base (L s) a w) \/ (∃ rs,0 < m s /\ Region.ready md ops (L s) = rs /\ rs ≠ [] /\ Steps P ops Q S L m Inv s a w rs)) :
  ∀ n s a w,m s = n -> Inv s a w -> wpAnyH P md ops Q S (base + n) (L s) a w
 | 0,s,a,w,hn,hI=>by
  rcases h s a w hI with ⟨_,h1⟩ | ⟨rs,h1,_⟩
  ·exact h1
  ·omega
 | n + 1, s, a, w, hn, hI => by
  rcases h s a w hI with ⟨h0,_⟩ | ⟨rs,_,h1,h2,h3⟩
  ·omega
  ·refine wpAnyH_all h1 h2 (fun i hi => wpOp_mono (fun a' w' => ?_) (h3 i hi))
   rintro ⟨hS,s',hL,hm,hI'⟩
   refine ⟨hS,?_⟩
   rw [<- hL]
   exact wpAnyH_inv L m Inv base h n s' a' w' (by omega) hI'
theorem wpAnyH_from (L : σ -> Array Bool) (m : σ -> Nat) (Inv : Act -> σ -> Act -> World -> Prop) (base n : Nat) (s : σ) {a0 : Act} {w : World} (hn : m s = n) (h0 : Inv a0 s a0 w)
  (h : ∀ s a w,Inv a0 s a w -> (m s = 0 /\ wpAnyH P md ops Q S base (L s) a w) \/ (∃ rs,0 < m s /\ Region.ready md ops (L s) = rs /\ rs ≠ [] /\ Steps P ops Q S L m (Inv a0) s a w rs)) :
  wpAnyH P md ops Q S (base + n) (L s) a0 w:=wpAnyH_inv L m (Inv a0) base h n s a0 w hn h0
end
end Go.Proofs.YticimejfjjmikaaGreatDoor
