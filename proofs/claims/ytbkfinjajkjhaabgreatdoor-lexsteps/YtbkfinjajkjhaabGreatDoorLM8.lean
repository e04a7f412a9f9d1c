import Derived.Test.YtbkfinjajkjhaabGreatDoorLM7
set_option linter.unusedVariables false
set_option linter.unusedSimpArgs false
set_option maxRecDepth 100000
namespace Go.Proofs.YtbkfinjajkjhaabGreatDoor
theorem te_at {l : List Nat} {k : Nat} (h : k < l.length) : te l k = if l.getD k 0 = 92 then te l (k + 2) else if l.getD k 0 = 34 then k else te l (k + 1) := by
 rw [te, if_pos h]
theorem said_step {l : List Nat} {E k : Nat} (hd : Dg 256 l) (hE : E < l.length) (hk : k < E) (hte : te l k = E) (hv : Vd (l.drop k)) :
  l.getD k 0 ≠ 34 /\
  (l.getD k 0 = 92 -> k + 2 <= E /\ escM ((l.drop k).take (E - k)) = escM (l.drop k) /\ (∀ v n, escM (l.drop k) = some (v, n) -> k + n <= E /\ 2 <= n /\ te l (k + n) = E /\ Vd (l.drop (k + n)) /\ (∀ j, k <= j -> j < k + n -> l.getD j 0 < 128))) /\
  (l.getD k 0 ≠ 92 -> runeL (l.drop k) = decN (l.drop k) /\ 1 <= (decN (l.drop k)).2 /\ k + (decN (l.drop k)).2 <= E /\ te l (k + (decN (l.drop k)).2) = E /\ Vd (l.drop (k + (decN (l.drop k)).2))) /\ decN ((l.drop k).take (E - k)) = decN (l.drop k) /\ (decN (l.drop k)).1 <= 1114111 /\ (l.getD k 0 = 92 ↔ (decN (l.drop k)).1 = 92) := by
 have ha := te_at (l := l) (k := k) (by omega)
 have h34 : l.getD E 0 = 34 := by rw [<- hte]; exact te_hit l.length l k (by omega) (by omega)
 have hne : l.drop k ≠ [] := by intro e; have := congrArg List.length e; rw [List.length_drop, List.length_nil] at this; omega
 have hdl := decN_le hne
 have hfi := hv.first hne
 have hb : Bnd (l.drop k) (E - k) := .inr (.inr (.inl (by rw [getD_drop, show k + (E - k) = E by omega, h34]; decide)))
 have hbk := hb.back hne (by rw [List.length_drop]; omega) (by omega)
 have e0 : (l.drop k).getD 0 0 = l.getD k 0 := by rw [getD_drop]; rfl
 have hdt := decN_take hne hfi hbk.1 (by rw [List.length_drop]; omega)
 have hsp := decN_split hne
 rw [e0] at hsp
 refine ⟨?_, ?_, ?_, hdt, ?_, ?_⟩
 ·intro h
  rw [h, if_neg (by decide), if_pos rfl] at ha
  omega
 ·intro h92
  rw [if_pos h92] at ha
  have h2 : k + 2 <= E := by
   rcases Nat.lt_or_ge l.length (k + 2) with h | h
   ·rw [te, if_neg (by omega)] at ha; omega
   ·have := te_ge l.length l (k + 2) (by omega) h; omega
  have het := escM_take (r := l.drop k) (e := E - k) (by omega) (by rw [List.length_drop]; omega) (by rw [getD_drop, show k + (E - k) = E by omega, h34])
  refine ⟨h2, het, fun v n hn => ?_⟩
  obtain ⟨g1, g2, g3, g4⟩ := escM_bytes (by rw [e0]; exact h92) hn
  rw [List.length_drop] at g2
  have hte2 : te l (k + n) = E := by
   have := te_skip (n - 2) l (k + 2) (by omega) (fun j hj => by
    have := g4 (2 + j) (by omega) (by omega)
    rw [getD_drop, show k + (2 + j) = k + 2 + j by omega] at this
    exact this)
   rw [show k + 2 + (n - 2) = k + n by omega] at this
   rw [<- this, <- ha, hte]
  have hge := te_ge l.length l (k + n) (by omega) (by omega)
  refine ⟨by omega, g1, hte2, ?_, fun j h1 h2 => ?_⟩
  ·have := hv.drop n (by rw [List.length_drop]; omega) (.inr (.inr (.inr (g3 (n - 1) (by omega)))))
   rw [List.drop_drop] at this
   exact this
  ·have := g3 (j - k) (by omega)
   rw [getD_drop, show k + (j - k) = j by omega] at this
   exact this
 ·intro h92
  have hn34 : l.getD k 0 ≠ 34 := fun h => by rw [h, if_neg (by decide), if_pos rfl] at ha; omega
  refine ⟨?_, hdl.1, by omega, ?_, ?_⟩
  ·rw [runeL_dec (hd.drop k), if_neg hfi]
  ·rw [<- hte]
   refine (te_skip _ l k (by omega) (fun j hj => ?_)).symm
   rcases hsp with ⟨h1, h2⟩ | ⟨h1, h2, h3⟩
   ·obtain rfl : j = 0 := by omega
    exact ⟨h92, hn34⟩
   ·have := h3 j hj
    rw [getD_drop] at this
    omega
  ·have := hv.tail hne
   rw [List.drop_drop] at this
   exact this
 ·rcases Nat.lt_or_ge (l.getD k 0) 128 with h | h
  ·rw [decN_low (by rw [e0]; exact h), e0]; omega
  ·exact (decN_high hne (by rw [e0]; exact h)).2.1
 ·rcases Nat.lt_or_ge (l.getD k 0) 128 with h | h
  ·rw [decN_low (by rw [e0]; exact h), e0]
  ·have := (decN_high hne (by rw [e0]; exact h)).1; omega
end Go.Proofs.YtbkfinjajkjhaabGreatDoor
