/- The zero value of a large array as one constant (for a seat whose loader does not make it). -/
import Derived.Test.YtjldokhomohdbaaDoorTm
namespace Go.Proofs.YtjldokhomohdbaaDoor
open Go.RowKit

def Tryd.zeroCells39 : Array Value := (List.replicate 196 (Value.int .i64 0)).toArray
@[simp] theorem Tryd.zeroValue39 (w : World) : (zeroValue 39).run Tryd.prog w = .ok (.agg Tryd.zeroCells39) w := by kernel_rfl
@[simp] theorem Tryd.zeroCells39_size : Tryd.zeroCells39.size = 196 := by kernel_rfl
@[simp] theorem Tryd.zeroCells39_ne : Tryd.zeroCells39 ≠ #[] := fun e => by
  have := congrArg Array.size e
  rw [Tryd.zeroCells39_size] at this
  cases this
end Go.Proofs.YtjldokhomohdbaaDoor
