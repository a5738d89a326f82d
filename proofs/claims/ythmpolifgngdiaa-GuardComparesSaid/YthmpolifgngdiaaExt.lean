/- Regions that draw their order, whose operations read what was there and whose callees make memory of their own: one walk, in the order of the text. -/
import Derived.Test.YthmpolifgngdiaaTm
import Derived.Deep.QuietTactic
import Derived.BigQuiet
namespace Go.Proofs.Ythmpolifgngdiaa
open Go.RowKit

/-- a world that goes on from w -/
structure ExtOf (w : World) where
  to : World
  is : Ext w to
instance {w : World} : Inhabited (ExtOf w) := ⟨⟨w, Ext.refl w⟩⟩

theorem wp_region_ext {P : Program} {id : Nat} {Q : Exit → Act → World → Prop} {a : Act} {w : World} {l : List Oper} (hm : P.follows .mixedOrders = true) (hB : Region.lexB .any l.toArray = true)
    (h : wpQuiet P l.toArray (fun w' => ∃ p : ExtOf w, w' = p.to) (fun a' => ∀ w', (∃ p : ExtOf w, w' = p.to) → Q .normal a' w') l a) : (Code.region id l.toArray true).wp P Q a w :=
  wp_region_quiet (C := fun w' => ∃ p : ExtOf w, w' = p.to) hm hB ⟨⟨w.drew, (Ext.refl w).drew⟩, rfl⟩ (by simpa using h)

/-- a callee's contract, met in a world that goes on from w -/
theorem of_ext {P : Program} {f : FuncId} {args : Array Value} {w : World} {p : ExtOf w} {v : Value}
    (h : Calls P f args p.to fun e w' => e = .returned v ∧ Ext p.to w') : Calls P f args p.to fun e w'' => e = .returned v ∧ ∃ q : ExtOf w, w'' = q.to :=
  h.mono fun _ w' ⟨he, hx⟩ => ⟨he, ⟨w', p.is.trans hx⟩, rfl⟩

theorem ext_all {w : World} {R : World → Prop} (h : ∀ w', Ext w w' → R w') : ∀ w', (∃ p : ExtOf w, w' = p.to) → R w' := fun _ ⟨p, e⟩ => by subst e; exact h _ p.is

/-- a cell that was there -/
theorem ext_cell {w : World} {a : Addr} {v : Value} (h : w.cell? a = some v) (p : ExtOf w) : p.to.cell? a = some v := p.is.cell h
end Go.Proofs.Ythmpolifgngdiaa
