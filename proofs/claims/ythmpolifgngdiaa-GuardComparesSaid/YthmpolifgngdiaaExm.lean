/- Which binds may be, and whether all their terms are ground: what bind.examine is to tell (its walk is not here yet). -/
import Derived.Test.YthmpolifgngdiaaExa
namespace Go.Proofs.Ythmpolifgngdiaa
open Go.RowKit

/-- behind the name ahead, if there is one -/
def upB : Option ByteArray → ByteArray → Bool
  | none, _ => true
  | some q, s => Op.bytesLess q.toList s.toList
/-- terms may be, names are variables', and rise -/
def okL (p : Option ByteArray) : List Bd → Bool
  | [] => true
  | x :: xs => (mayB x.tm && varB x.name && upB p x.name) && okL (some x.name) xs
def grL (bs : List Bd) : Bool := bs.all fun x => groundT x.tm
theorem okL_short : ∀ (p : Option ByteArray) (bs : List Bd), okL p bs = true → Short bs
  | _, [], _ => fun i hi => absurd hi (by simp)
  | p, x :: xs, h => by
    rw [okL, Bool.and_eq_true, Bool.and_eq_true, Bool.and_eq_true] at h
    intro i hi
    cases i with
    | zero => exact var_short h.1.1.2
    | succ i => exact okL_short _ xs h.2 i (by simpa using hi)
/-- the name ahead of the k-th bind -/
def ahead (bs : List Bd) (k : Nat) : Option ByteArray := if k = 0 then none else (bs[k - 1]?).map fun x => x.name
/-- what examine tells -/
def bindsB (bs : List Bd) : Bool := decide (bs.length ≤ 16) && okL none bs && (grL bs || !crossL bs bs)

theorem okL_step {bs : List Bd} {k : Nat} (hk : k < bs.length) : okL (ahead bs k) (bs.drop k) =
    ((mayB bs[k].tm && varB bs[k].name && upB (ahead bs k) bs[k].name) && okL (ahead bs (k + 1)) (bs.drop (k + 1))) := by
  rw [List.drop_eq_getElem_cons hk, okL]
  have e : ahead bs (k + 1) = some bs[k].name := by
    unfold ahead
    rw [if_neg (by omega), Nat.add_sub_cancel, List.getElem?_eq_getElem hk]
    rfl
  rw [e]

/-- (are all ground?, the error) -/
def ExamOut (bs : List Bd) (w : World) (e : Ending) (w' : World) : Prop := e = .returned (.tuple #[.bool (bindsB bs && grL bs), .int .i64 (if bindsB bs = true then 0 else 1)]) ∧ Ext w w'

end Go.Proofs.Ythmpolifgngdiaa
