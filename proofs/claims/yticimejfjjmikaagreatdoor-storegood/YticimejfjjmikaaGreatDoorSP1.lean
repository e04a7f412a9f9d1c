import Derived.Test.YticimejfjjmikaaGreatDoorSR
import Derived.Test.YticimejfjjmikaaGreatDoorSG8
import Derived.Test.YticimejfjjmikaaGreatDoorG21
import Derived.Test.YticimejfjjmikaaGreatDoorG13
import Derived.Test.YticimejfjjmikaaGreatDoorW40
import Derived.Test.YticimejfjjmikaaGreatDoorSL8
import Derived.Test.YticimejfjjmikaaGreatDoorSL21
import Derived.Test.YticimejfjjmikaaGreatDoorSA1
import Derived.Test.YticimejfjjmikaaGreatDoorW20
import Derived.Test.YticimejfjjmikaaGreatDoorSL6
import Derived.Test.YticimejfjjmikaaGreatDoorC4
set_option linter.unusedVariables false
set_option linter.unusedSimpArgs false
set_option maxRecDepth 100000
namespace Go.Proofs.YticimejfjjmikaaGreatDoor
open Go.RowKit
structure Pz (B B' : Nat) (v vn : Value) (N : Int) (g gn : Nat) (os : List Ob) (nm : List ByteArray) (os2 : List Ob) (nm2 : List ByteArray) (F : Nat -> Prop) (vL : Value) (ls : List (Ob × Sl)) (vN : Value) (w : World) : Prop where
 pn : PN B v vn N os nm F w
 hn : HN B' g N vL ls gn vN nm2 w
 os2_ : ls.map Prod.fst = os2
 apart : ∀ b, F b -> ¬ HNF g vL ls gn vN b
section
variable {B B' : Nat} {v vn : Value} {N : Int} {g gn : Nat} {os os' os2 : List Ob} {nm nm' nm2 : List ByteArray} {F F' : Nat -> Prop} {vL : Value} {ls : List (Ob × Sl)} {vN : Value} {w w' : World}
theorem HN.keep (h : HN B' g N vL ls gn vN nm w) (hb : ∀ b, HNF g vL ls gn vN b -> w'.heap[b]? = w.heap[b]?) : HN B' g N vL ls gn vN nm w' := ⟨h.heap.keep (fun b e => hb b (.inl e)), h.names.keep (fun b e => hb b (.inr e)), h.apart⟩
theorem Pz.on (h : Pz B B' v vn N g gn os nm os2 nm2 F vL ls vN w) (hb : Below w.heap.size w w') : Pz B B' v vn N g gn os nm os2 nm2 F vL ls vN w' := ⟨h.pn.on hb, h.hn.on hb, h.os2_, h.apart⟩
theorem Pz.putP (h : Pz B B' v vn N g gn os nm os2 nm2 F vL ls vN w) (p : PN B v vn N os' nm' F' w') (q : ∀ b, F' b -> F b \/ w.heap.size <= b) (m : Mod F w w') : Pz B B' v vn N g gn os' nm' os2 nm2 F' vL ls vN w' :=
 ⟨p, h.hn.keep (fun b e => m.block b (h.hn.ge b e).2 (fun e1 => h.apart b e1 e)), h.os2_, fun b e1 e2 => by
  rcases q b e1 with e | e
  ·exact h.apart b e e2
  ·have := (h.hn.ge b e2).2; omega⟩
end
end Go.Proofs.YticimejfjjmikaaGreatDoor
