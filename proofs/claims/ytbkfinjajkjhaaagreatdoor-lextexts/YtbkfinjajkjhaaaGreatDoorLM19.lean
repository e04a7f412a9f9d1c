import Derived.Test.YtbkfinjajkjhaaaGreatDoorLM17
import Derived.Test.YtbkfinjajkjhaaaGreatDoorRL15
import Derived.Test.YtbkfinjajkjhaaaGreatDoorSG3
set_option linter.unusedVariables false
set_option linter.unusedSimpArgs false
set_option maxRecDepth 100000
namespace Go.Proofs.YtbkfinjajkjhaaaGreatDoor
def eN (n : Nat) : List Nat := bs (Utf8.encode (n : Int))
def eNs (I : List Nat) : List Nat := I.flatMap eN
def qb (c : Nat) : List Nat :=
 if c = 34 \/ c = 92 then [92, c] else if c = 10 then [92, 110] else if c = 9 then [92, 116] else if c = 13 then [92, 114]
 else if c < 32 \/ c = 127 then 92 :: 120 :: (hx c ++ [59]) else [c]
def qt (l : List Nat) : List Nat := 34 :: (l.flatMap qb ++ [34])
def qe (i : Nat) : List Nat := (eN i).flatMap qb
def LB (I : List Nat) : Prop := ∀ i ∈ I, letB (i : Int) = true
theorem bs_enc (n : Nat) : eN n = (Utf8.encode (n : Int)).data.toList.map UInt8.toNat := by unfold eN bs; first | rfl | simp
theorem low_letB {n : Nat} (h : n < 128) : letB (n : Int) = true := by unfold letB; simp; omega
theorem eN_low {n : Nat} (h : n < 128) : eN n = [n] := by
 rw [bs_enc, enc_1 (low_letB h) h]
 simp; omega
theorem eN_high {n : Nat} (hv : letB (n : Int) = true) (h : 128 <= n) : (∀ c ∈ eN n, 128 <= c /\ c < 256) /\ eN n ≠ [] /\ (eN n).length <= 4 := by
 have hr := letB_rng hv
 rw [bs_enc]
 by_cases h2 : n < 2048
 ·rw [enc_2 hv h h2]
  refine ⟨fun c hc => ?_, by simp, by simp⟩
  simp only [List.map_cons, List.map_nil, List.mem_cons, List.not_mem_nil, or_false] at hc
  rcases hc with rfl | rfl <;>(rw [u8n (by omega)]; omega)
 by_cases h3 : n < 65536
 ·rw [enc_3 hv (by omega) h3]
  refine ⟨fun c hc => ?_, by simp, by simp⟩
  simp only [List.map_cons, List.map_nil, List.mem_cons, List.not_mem_nil, or_false] at hc
  rcases hc with rfl | rfl | rfl <;>(rw [u8n (by omega)]; omega)
 ·rw [enc_4 hv (by omega)]
  refine ⟨fun c hc => ?_, by simp, by simp⟩
  simp only [List.map_cons, List.map_nil, List.mem_cons, List.not_mem_nil, or_false] at hc
  rcases hc with rfl | rfl | rfl | rfl <;>(rw [u8n (by omega)]; omega)
theorem eN_dg (n : Nat) : Dg 256 (eN n) := bs_lt _
theorem dec_eN {n : Nat} (h : letB (n : Int) = true) {rest : List Nat} (hd : Dg 256 rest) : decN (eN n ++ rest) = (n, (eN n).length) := by
 rw [<- decodeL_is ((eN_dg n).append hd), List.map_append]
 have e : (eN n).map UInt8.ofNat = (Utf8.encode (n : Int)).data.toList := by
  rw [bs_enc, List.map_map]
  have : (UInt8.ofNat ∘ UInt8.toNat) = id := by funext x; simp
  rw [this, List.map_id]
 rw [e, dec_enc h, bs_enc, List.length_map]
theorem eN_vd {n : Nat} (h : letB (n : Int) = true) : Vd (eN n) := by
 have hd := dec_eN h (rest := []) (Dg.nil _)
 rw [List.append_nil] at hd
 have hne : eN n ≠ [] := by
  by_cases h1 : n < 128
  ·rw [eN_low h1]; exact List.cons_ne_nil _ _
  ·exact (eN_high h (by omega)).2.1
 refine .step hne ?_ ?_
 ·rw [hd]
  intro e
  simp only [Prod.mk.injEq] at e
  obtain ⟨rfl, e2⟩ := e
  rw [bs_enc, enc_3 h (by omega) (by omega)] at e2
  simp at e2
 ·rw [hd, List.drop_eq_nil_of_le (Nat.le_refl _)]; exact .nil
theorem qb_high {c : Nat} (h : 128 <= c) : qb c = [c] := by
 unfold qb
 rw [if_neg (by omega), if_neg (by omega), if_neg (by omega), if_neg (by omega), if_neg (by omega)]
theorem qb_flat : ∀ {l : List Nat}, (∀ c ∈ l, 128 <= c) -> l.flatMap qb = l
 | [], _ => rfl
 | c :: l, h => by
  rw [List.flatMap_cons, qb_high (h c List.mem_cons_self), qb_flat (fun x hx => h x (List.mem_cons_of_mem _ hx))]; rfl
theorem qe_low {n : Nat} (h : n < 128) : qe n = qb n := by unfold qe; rw [eN_low h]; simp
theorem qe_high {n : Nat} (hv : letB (n : Int) = true) (h : 128 <= n) : qe n = eN n := qb_flat (fun c hc => ((eN_high hv h).1 c hc).1)
theorem qb_low {c : Nat} (h : c < 128) : ∀ x ∈ qb c, x < 128 := by
 intro x hx
 unfold qb at hx
 repeat' split at hx
 all_goals try (simp at hx; omega)
 simp only [List.mem_cons, List.mem_append, List.not_mem_nil, or_false] at hx
 rcases hx with rfl | rfl | hx | rfl
 ·decide
 ·decide
 ·exact (hx_low c c (Nat.le_refl _) x hx).1
 ·decide
theorem qb_len {c : Nat} (h : c < 128) : 1 <= (qb c).length /\ (qb c).length <= 5 := by
 have h2 := hx_len 1 c (by omega)
 unfold qb
 repeat' split
 all_goals first
  | (simp; done)
  | (simp only [List.length_cons, List.length_append, List.length_nil]; omega)
theorem qe_len {n : Nat} (hv : letB (n : Int) = true) : 1 <= (qe n).length /\ (qe n).length <= 5 := by
 by_cases h : n < 128
 ·rw [qe_low h]; exact qb_len h
 ·rw [qe_high hv (by omega)]
  obtain ⟨_, h2, h3⟩ := eN_high hv (by omega)
  exact ⟨List.length_pos_iff.2 h2, by omega⟩
theorem qe_vd {n : Nat} (hv : letB (n : Int) = true) : Vd (qe n) /\ Dg 256 (qe n) := by
 by_cases h : n < 128
 ·rw [qe_low h]; exact ⟨low_vd (qb_low h), low_dg (qb_low h)⟩
 ·rw [qe_high hv (by omega)]; exact ⟨eN_vd hv, eN_dg n⟩
theorem item_q {n : Nat} (hv : letB (n : Int) = true) {rest : List Nat} (hd : Dg 256 rest) : itemM (qe n ++ rest) = (n, (qe n).length) /\ (qe n ++ rest).getD 0 0 ≠ 34 := by
 by_cases h : n < 128
 ·rw [qe_low h]
  unfold qb
  have esc : ∀ (a v : Nat) (t : List Nat) , escM (92 :: a :: t) = some (v, 2) -> itemM (92 :: a :: t) = (v, 2) := fun a v t he => by
   unfold itemM escV
   rw [if_pos (show (92 :: a :: t).getD 0 0 = 92 from rfl), he]; rfl
  by_cases c1 : n = 34 \/ n = 92
  ·rw [if_pos c1]
   refine ⟨esc n n rest ?_, by show (92 : Nat) ≠ 34; decide⟩
   unfold escM
   rw [if_neg (by simp)]
   show (if n = 34 then some (34, 2) else if n = 92 then some (92, 2) else _) = some (n, 2)
   rcases c1 with rfl | rfl
   ·rfl
   ·rfl
  rw [if_neg c1]
  by_cases c2 : n = 10
  ·subst c2; rw [if_pos rfl]; exact ⟨esc 110 10 rest (by unfold escM; rw [if_neg (by simp)]; rfl), by show (92 : Nat) ≠ 34; decide⟩
  rw [if_neg c2]
  by_cases c3 : n = 9
  ·subst c3; rw [if_pos rfl]; exact ⟨esc 116 9 rest (by unfold escM; rw [if_neg (by simp)]; rfl), by show (92 : Nat) ≠ 34; decide⟩
  rw [if_neg c3]
  by_cases c4 : n = 13
  ·subst c4; rw [if_pos rfl]; exact ⟨esc 114 13 rest (by unfold escM; rw [if_neg (by simp)]; rfl), by show (92 : Nat) ≠ 34; decide⟩
  rw [if_neg c4]
  by_cases c5 : n < 32 \/ n = 127
  ·rw [if_pos c5]
   have hs : semiN (hx n ++ 59 :: rest) = (hx n).length := by
    refine semiN_of _ _ (by rw [List.length_append, List.length_cons]; omega) (fun j hj => ?_) ?_
    ·rw [getD_app_left hj, List.getD_eq_getElem?_getD, List.getElem?_eq_getElem hj]
     have := (hx_low n n (Nat.le_refl _) _ (List.getElem_mem hj)).2
     show (hx n)[j] ≠ 59
     omega
    ·rw [List.getD_eq_getElem?_getD, List.getElem?_append_right (Nat.le_refl _), Nat.sub_self]; rfl
   have he : escM (92 :: 120 :: (hx n ++ [59]) ++ rest) = some (n, (hx n).length + 3) := by
    rw [show 92 :: 120 :: (hx n ++ [59]) ++ rest = 92 :: 120 :: (hx n ++ 59 :: rest) by simp]
    unfold escM
    rw [if_neg (by simp), if_neg (show ¬ (92 :: 120 :: (hx n ++ 59 :: rest)).getD 1 0 = 34 by show ¬ (120 : Nat) = 34; decide), if_neg (show ¬ (92 :: 120 :: (hx n ++ 59 :: rest)).getD 1 0 = 92 by show ¬ (120 : Nat) = 92; decide), if_neg (show ¬ (92 :: 120 :: (hx n ++ 59 :: rest)).getD 1 0 = 110 by show ¬ (120 : Nat) = 110; decide), if_neg (show ¬ (92 :: 120 :: (hx n ++ 59 :: rest)).getD 1 0 = 116 by show ¬ (120 : Nat) = 116; decide), if_neg (show ¬ (92 :: 120 :: (hx n ++ 59 :: rest)).getD 1 0 = 114 by show ¬ (120 : Nat) = 114; decide), if_pos (show (92 :: 120 :: (hx n ++ 59 :: rest)).getD 1 0 = 120 from rfl)]
    show (if semiN (hx n ++ 59 :: rest) < (hx n ++ 59 :: rest).length then (numH ((hx n ++ 59 :: rest).take (semiN (hx n ++ 59 :: rest)))).map (fun n' => (n', semiN (hx n ++ 59 :: rest) + 3)) else none) = _
    rw [hs, if_pos (by rw [List.length_append, List.length_cons]; omega), List.take_left, hx_numH hv]
    rfl
   refine ⟨?_, by show (92 : Nat) ≠ 34; decide⟩
   have h92 : (92 :: 120 :: (hx n ++ [59]) ++ rest).getD 0 0 = 92 := rfl
   unfold itemM escV
   rw [if_pos h92, he]
   simp
  ·rw [if_neg c5]
   have hne : ¬ (n :: rest).getD 0 0 = 92 := by show ¬ n = 92; omega
   refine ⟨?_, by show n ≠ 34; omega⟩
   show itemM (n :: rest) = (n, 1)
   unfold itemM
   rw [if_neg hne, runeL_dec (fun c hc => by
    rcases List.mem_cons.1 hc with rfl | hc
    ·omega
    ·exact hd c hc), decN_low (show (n :: rest).getD 0 0 < 128 from h), if_neg (by intro e; have := congrArg Prod.fst e; simp at this; omega)]
   rfl
 ·have hh := eN_high hv (by omega)
  rw [qe_high hv (by omega)]
  have h0 : 128 <= (eN n ++ rest).getD 0 0 := by
   rw [getD_app_left (List.length_pos_iff.2 hh.2.1), List.getD_eq_getElem?_getD, List.getElem?_eq_getElem (List.length_pos_iff.2 hh.2.1)]
   exact (hh.1 _ (List.getElem_mem _)).1
  have hd2 := dec_eN hv hd
  refine ⟨?_, by omega⟩
  unfold itemM
  rw [if_neg (by omega), runeL_dec ((eN_dg n).append hd), hd2, if_neg]
  intro e
  simp only [Prod.mk.injEq] at e
  obtain ⟨rfl, e2⟩ := e
  rw [bs_enc, enc_3 hv (by omega) (by omega)] at e2
  simp at e2
def encB (T : ByteArray) (I : List Nat) : ByteArray := I.foldl (fun (T : ByteArray) (i : Nat) => T ++ Utf8.encode (i : Int)) T
theorem bs_encB : ∀ (I : List Nat) (T : ByteArray), bs (encB T I) = bs T ++ eNs I
 | [], T => by simp [encB, eNs]
 | i :: I, T => by
  show bs (encB (T ++ Utf8.encode (i : Int)) I) = _
  rw [bs_encB I, bs_append, show eNs (i :: I) = eN i ++ eNs I from List.flatMap_cons, List.append_assoc]; rfl
theorem qe_flat (I : List Nat) : (eNs I).flatMap qb = I.flatMap qe := by
 unfold eNs qe; rw [List.flatMap_assoc]
theorem qe_all : ∀ {I : List Nat}, LB I -> Vd (I.flatMap qe) /\ Dg 256 (I.flatMap qe)
 | [], _ => ⟨.nil, Dg.nil _⟩
 | i :: I, h => by
  have h1 := qe_vd (h i List.mem_cons_self)
  have h2 := qe_all (I := I) (fun x hx => h x (List.mem_cons_of_mem _ hx))
  rw [List.flatMap_cons]
  exact ⟨vd_app h1.1 h2.1, h1.2.append h2.2⟩
theorem txA_q (rest : List Nat) (hd : Dg 256 rest) : ∀ (I : List Nat) (f : Nat) (T : ByteArray) (c k : Nat), LB I -> (I.flatMap qe ++ 34 :: rest).length <= f -> txA f (I.flatMap qe ++ 34 :: rest) T c k = some (encB T I, c + I.length, k + (I.flatMap qe).length + 1) := by
 intro I
 induction I with
 | nil =>
  intro f T c k _ hf
  rw [List.flatMap_nil, List.nil_append] at hf ⊢
  rw [List.length_cons] at hf
  obtain ⟨f, rfl⟩ : ∃ f', f = f' + 1 := ⟨f - 1, by omega⟩
  have h34 : (34 :: rest).getD 0 0 = 34 := rfl
  unfold txA
  rw [if_neg (List.cons_ne_nil _ _), if_pos h34]
  simp [encB]
 | cons i I ih =>
  intro f T c k h hf
  have hi := h i List.mem_cons_self
  have hI : LB I := fun x hx => h x (List.mem_cons_of_mem _ hx)
  have hq := qe_len hi
  have hdr : Dg 256 (I.flatMap qe ++ 34 :: rest) := (qe_all hI).2.append (fun x hx => by
   rcases List.mem_cons.1 hx with rfl | hx
   ·decide
   ·exact hd x hx)
  obtain ⟨e1, e2⟩ := item_q hi hdr
  have e : (i :: I).flatMap qe ++ 34 :: rest = qe i ++ (I.flatMap qe ++ 34 :: rest) := by rw [List.flatMap_cons, List.append_assoc]
  rw [e] at hf ⊢
  rw [List.length_append] at hf
  obtain ⟨f, rfl⟩ : ∃ f', f = f' + 1 := ⟨f - 1, by omega⟩
  have hne : qe i ++ (I.flatMap qe ++ 34 :: rest) ≠ [] := by
   intro e; have := congrArg List.length e; rw [List.length_append, List.length_nil] at this; omega
  obtain ⟨R, hR⟩ : ∃ R, R = I.flatMap qe ++ 34 :: rest := ⟨_, rfl⟩
  rw [<- hR] at e1 e2 hf hne ih ⊢
  have hdrop : (qe i ++ R).drop (qe i).length = R := List.drop_left
  unfold txA
  rw [if_neg hne, if_neg e2, e1]
  simp only
  rw [if_neg (by omega), hdrop, ih f _ _ _ hI (by omega), List.flatMap_cons, List.length_append, List.length_cons]
  rw [show c + 1 + I.length = c + (I.length + 1) by omega, show k + (qe i).length + (I.flatMap qe).length + 1 = k + ((qe i).length + (I.flatMap qe).length) + 1 by omega]
  rfl
theorem qt_is (I : List Nat) : qt (eNs I) = 34 :: (I.flatMap qe ++ [34]) := by unfold qt; rw [qe_flat]
theorem qt_vd {I : List Nat} (h : LB I) : Vd (qt (eNs I)) /\ Dg 256 (qt (eNs I)) := by
 obtain ⟨h1, h2⟩ := qe_all h
 rw [qt_is]
 refine ⟨(vd_cons (by decide)).2 (vd_app h1 ((vd_cons (by decide)).2 .nil)), fun c hc => ?_⟩
 rcases List.mem_cons.1 hc with rfl | hc
 ·decide
 rcases List.mem_append.1 hc with hc | hc
 ·exact h2 c hc
 ·rw [List.mem_singleton] at hc; omega
theorem tkq_text {I : List Nat} {T : ByteArray} (h : LB I) (hn : I.length <= 1024) (hT : bs T = eNs I) : tkM (qt (bs T)) = some ((13, 0, T, (qt (bs T)).length) : Tkn) := by
 have e : encB ⟨#[]⟩ I = T := bs_ext (by rw [bs_encB, hT]; rfl)
 rw [hT, qt_is]
 have ht : textM (34 :: (I.flatMap qe ++ [34])) 0 = some (T, (34 :: (I.flatMap qe ++ [34])).length) := by
  unfold textM txL
  show txFin 0 (txA ((34 :: (I.flatMap qe ++ [34])).length - (0 + 1)) (I.flatMap qe ++ [34]) ⟨#[]⟩ 0 (0 + 1)) = _
  rw [txA_q [] (Dg.nil _) I _ ⟨#[]⟩ 0 (0 + 1) h (by simp), e]
  unfold txFin
  simp only
  rw [if_pos (by omega)]
  simp
  omega
 unfold tkM
 rw [show (34 :: (I.flatMap qe ++ [34])).getD 0 0 = 34 from rfl, if_neg (by decide), if_neg (by decide), if_neg (by decide), if_pos rfl, ht]
 rfl
end Go.Proofs.YtbkfinjajkjhaaaGreatDoor
namespace Go.Proofs.YtbkfinjajkjhaaaGreatDoor
def chS (n : Int) : List Nat := if letB n = true then chL n.toNat else []
def lbS (n : Int) (c : Nat) : List Nat := if 0 <= n /\ n <= 999999999 then lbL n.toNat c else []
def blS (n : Int) : List Nat := if n = 0 then [35, 102] else if n = 1 then [35, 116] else []
def spM (k b : Int) (t : ByteArray) : List Nat :=
 if k = 1 then [40] else if k = 2 then [41] else if k = 3 then [35, 40] else if k = 4 then [35, 117, 56, 40] else if k = 6 then [46] else if k = 7 then [35, 59]
 else if k = 8 then lbS b 61 else if k = 9 then lbS b 35 else if k = 10 then blS b else if k = 12 then chS b else if k = 13 then qt (bs t)
 else if k = 5 \/ k = 11 \/ k = 14 then bs t else []
theorem dec_letB {r : List Nat} (hd : Dg 256 r) : letB ((decN r).1 : Int) = true := by
 have h0 : r.getD 0 0 < 256 := by
  rw [List.getD_eq_getElem?_getD]
  cases h : r[0]? with
  | none => decide
  | some x => exact hd x (List.mem_of_getElem? h)
 have := Lib.decodeN_valid r.length (r.getD 0 0) (r.getD 1 0) (r.getD 2 0) (r.getD 3 0) h0
 unfold decN letB
 simp only [Bool.and_eq_true, Bool.or_eq_true, decide_eq_true_eq]
 omega
end Go.Proofs.YtbkfinjajkjhaaaGreatDoor
