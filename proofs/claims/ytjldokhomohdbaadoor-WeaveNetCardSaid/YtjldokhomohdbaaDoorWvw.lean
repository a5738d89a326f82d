/- Facts of the whole program that each row of this seat asks for, told once: they are slow. -/
import Derived.Test.YtjldokhomohdbaaDoorWvv
import Derived.Test.YtjldokhomohdbaaDoorCards
import Derived.Test.YtjldokhomohdbaaDoorTie
import Derived.SevenTiedAt
import Derived.JoinedOf
namespace Go.Proofs.YtjldokhomohdbaaDoor
open Go Go.RowKit

theorem parts5 {α β γ δ ε : Type} {w a : α} {x b : β} {y c : γ} {z d : δ} {u e : ε} (h : (w, x, y, z, u) = (a, b, c, d, e)) : w = a ∧ x = b ∧ y = c ∧ z = d ∧ u = e := by simpa using h
theorem words5 : (Tryd.prog.stopsHeard, Tryd.prog.make, Tryd.prog.mayEnter, Tryd.prog.liftsFinal, Tryd.prog.mainIs) =
    (true, some Rows.weaveNetRow.make, true, Rows.weaveNetRow.lifted, some (Rows.weaveNetCard.stood.harness.1, Rows.weaveNetCard.stood.harness.2.toList)) := by kernel_rfl
theorem word_heard : Tryd.prog.stopsHeard = true := (parts5 words5).1
theorem word_make : Tryd.prog.make = some Rows.weaveNetRow.make := (parts5 words5).2.1
theorem word_may : Tryd.prog.mayEnter = true := (parts5 words5).2.2.1
theorem word_lifts : Tryd.prog.liftsFinal = Rows.weaveNetRow.lifted := (parts5 words5).2.2.2.1
theorem word_main : Tryd.prog.mainIs = some (Rows.weaveNetCard.stood.harness.1, Rows.weaveNetCard.stood.harness.2.toList) := (parts5 words5).2.2.2.2
end Go.Proofs.YtjldokhomohdbaaDoor
