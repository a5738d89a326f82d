/- term.gather: the labels of a term's variables, put into a map. -/
import Derived.Test.YtkdhpifjljkpfaaGreatKey
import Derived.Test.YtkdhpifjljkpfaaGreatWf
import Derived.Test.YtkdhpifjljkpfaaGreatGrd
namespace Go.Proofs.YtkdhpifjljkpfaaGreat
open Go.RowKit Go.Maps

mutual
/-- the names of a term's variables, as they stand -/
def occ : Tm → List ByteArray
  | ⟨k, s, _, l⟩ => (if k = 1 then [s] else []) ++ occL l
def occL : List Tm → List ByteArray
  | [] => []
  | t :: ts => occ t ++ occL ts
end
theorem occ_eq (t : Tm) : occ t = (if t.kind = 1 then [t.name] else []) ++ occL t.args := by obtain ⟨k, s, n, l⟩ := t; rw [occ]
theorem occL_mem {s : ByteArray} {t : Tm} : ∀ {ts : List Tm}, t ∈ ts → s ∈ occ t → s ∈ occL ts
  | a :: r, h, hs => by
    rw [occL, List.mem_append]
    rcases List.mem_cons.1 h with e | e
    · subst e; exact .inl hs
    · exact .inr (occL_mem e hs)

/-- the map has these now; nothing else has turned -/
def Gathered (w : World) (b : Nat) (L : List ByteArray) (e : Ending) (w' : World) : Prop := e = .returned (.tuple #[]) ∧ LabSet w' b L ∧ Chg (· = b) w w'

end Go.Proofs.YtkdhpifjljkpfaaGreat
