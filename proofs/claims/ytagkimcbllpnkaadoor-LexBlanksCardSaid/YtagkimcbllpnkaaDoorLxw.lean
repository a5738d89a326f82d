/- Package lex: classes of bytes. -/
import Derived.Test.YtagkimcbllpnkaaDoorLxp
import Derived.WalkKit
import Derived.WalkSpells
import Derived.Deep.Draws
import Derived.Deep.QuietTactic
import Derived.BigQuiet
import Derived.BigGuardPart
namespace Go.Proofs.YtagkimcbllpnkaaDoor
open Go.RowKit

theorem ret_bool {a b : Bool} (h : a = b) : Ending.returned (.bool a) = .returned (.bool b) := by rw [h]

/-- the table of classes lies where it was laid -/
def clsV : List Int := [4294977024, 0, 0, 0, 0, 576460743713488896, 0, 0, 0, 134217726, 0, 0, 287948901175001088, 0, 0, 0, 287948901175001088, 576460745995190270, 0, 0, 18446744073709550591, 18446744073709551615, 18446744073709551615, 18446744073709551615]
def ClsAt (w : World) : Prop := ∀ i, i < 24 → w.cell? ⟨0, i, none⟩ = some (.int .u64 (clsV.getD i 0))

def clsB : Nat → UInt8 → Bool
  | 0 => blkB
  | 1 => smlB
  | 2 => grtB
  | 3 => digB
  | 4 => innB
  | _ => rowB

theorem cls_all : ∀ c : Fin 6, ∀ n : Fin 256, (bits BinOp.and IntKind.u64 (clsV.getD (c.1 * 4 + n.1 / 64) 0 / 2 ^ (n.1 % 64)) 1 == 1) = clsB c.1 (UInt8.ofNat n.1) := by decide +kernel
theorem cls_one {c : Nat} (b : UInt8) (hc : c < 6) : (bits BinOp.and IntKind.u64 (clsV.getD (c * 4 + b.toNat / 64) 0 / 2 ^ (b.toNat % 64)) 1 == 1) = clsB c b := by
  have := cls_all ⟨c, hc⟩ ⟨b.toNat, b.toNat_lt⟩
  simpa using this

theorem is_any (c : Nat) (b : UInt8) (w : World) (hc : c < 6) (h : ClsAt w) :
    Calls Tryd.prog 21 #[.int .i64 c, .int .u8 b.toNat] w fun e w' => e = .returned (.bool (clsB c b)) ∧ w = w' := by
  have hb : b.toNat < 256 := b.toNat_lt
  have hX := h (c * 4 + b.toNat / 64) (by omega)
  have HE := Lib.hid (cls_one b hc)
  have hX' := hX
  have h0 : c = 0 ∨ c = 1 ∨ c = 2 ∨ c = 3 ∨ c = 4 ∨ c = 5 := by omega
  clear h
  rcases h0 with rfl | rfl | rfl | rfl | rfl | rfl
  all_goals
    generalize clsV.getD _ 0 = X at hX HE
    clear hX'
    simp only [Nat.zero_mul, Nat.zero_add, Nat.reduceMul] at hX
    go_enter Tryd.func21, Tryd.ntmps21
    go_wp2_with fail
    go_ret
    exact ⟨ret_bool HE.out, rfl⟩
theorem is_be (c : Nat) (b : UInt8) (r : Bool) (w : World) (hc : c < 6) (h : ClsAt w) (hr : clsB c b = r) :
    Calls Tryd.prog 21 #[.int .i64 c, .int .u8 b.toNat] w fun e w' => e = .returned (.bool r) ∧ w' = w := (is_any c b w hc h).mono fun _ _ ⟨e, k⟩ => ⟨hr ▸ e, k.symm⟩
end Go.Proofs.YtagkimcbllpnkaaDoor
