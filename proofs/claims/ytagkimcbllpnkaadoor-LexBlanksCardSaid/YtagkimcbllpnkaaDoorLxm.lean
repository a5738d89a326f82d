/- Package lex: marks. -/
import Derived.Test.YtagkimcbllpnkaaDoorLxn
import Derived.Lib.LazyBuf
namespace Go.Proofs.YtagkimcbllpnkaaDoor
open Go.RowKit

/-- a mark's value -/
def mkA (l : List UInt8) : Int := ((l.getD 0 0).toNat : Nat)
def mkB (l : List UInt8) : Int := ((l.getD 1 0).toNat : Nat)
def mkV (l : List UInt8) : Value := .agg #[.int .u8 (l.length : Nat), .int .u8 (mkA l), .int .u8 (mkB l)]

theorem two_of (s : ByteArray) (hs : s.size ≤ 2) : s = ⟨#[]⟩ ∨ (∃ a, s = ⟨#[a]⟩) ∨ ∃ a b, s = ⟨#[a, b]⟩ := by
  obtain ⟨⟨l⟩⟩ := s
  match l, hs with
  | [], _ => exact .inl rfl
  | [a], _ => exact .inr (.inl ⟨a, rfl⟩)
  | [a, b], _ => exact .inr (.inr ⟨a, b, rfl⟩)
  | _ :: _ :: _ :: _, h => simp [ByteArray.size] at h

theorem copy_text (s : ByteArray) (g : Nat) (w : World) (hs : s.size ≤ 2) (hc : ∀ j, j < 2 → (w.cell? ⟨g, 1 + j, none⟩).isSome = true) (hf : ∀ j, j < 2 → w.frozen? ⟨g, 1 + j, none⟩ = false) :
    (Builtin.copy_ #[34, 9] 3 #[.slice (some ⟨g, 1, none⟩) 2 2, .string s]).run Tryd.prog w = .ok (goInt s.size) (w.setCells g 1 (s.data.toList.map fun x => Value.int .u8 (x.toNat : Int))) :=
  run_copy_string w 34 9 3 5 g 1 2 2 s Tryd.underlying34 Tryd.sizeOf5 hs (fun j hj => hc j (by omega)) (fun j hj => hf j (by omega))

abbrev mk0 : Obj := .cells #[.int .u8 0, .int .u8 0, .int .u8 0] 49
abbrev mkN (n : Int) : Obj := .cells #[.int .u8 n, .int .u8 0, .int .u8 0] 49
theorem copy_in (s : ByteArray) (n : Int) (w : World) (hs : s.size ≤ 2) :
    (Builtin.copy_ #[34, 9] 3 #[.slice (some ⟨w.heap.size + 1, 1, none⟩) 2 2, .string s]).run Tryd.prog ((w.alloc mk0).alloc (mkN n)) =
      .ok (goInt s.size) (((w.alloc mk0).alloc (mkN n)).setCells (w.heap.size + 1) 1 (s.data.toList.map fun x => Value.int .u8 (x.toNat : Int))) :=
  copy_text s (w.heap.size + 1) _ hs
    (fun j hj => by
      have : j = 0 ∨ j = 1 := by omega
      rcases this with rfl | rfl <;> go_simp)
    (fun j hj => by
      have : j = 0 ∨ j = 1 := by omega
      rcases this with rfl | rfl <;> go_simp)

set_option maxHeartbeats 1000000 in
theorem markOf_any (s : ByteArray) (w : World) (hs : s.size ≤ 2) :
    Calls Tryd.prog 18 #[.string s] w fun e w' => e = .returned (mkV s.data.toList) ∧ Ext w w' := by
  rcases two_of s hs with rfl | ⟨a, rfl⟩ | ⟨a, b, rfl⟩
  · have hcp : (Builtin.copy_ #[34, 9] 3 #[.slice (some ⟨w.heap.size + 1, 1, none⟩) 2 2, .string ⟨#[]⟩]).run Tryd.prog ((w.alloc mk0).alloc (mkN 0)) = .ok (.int .i64 0) ((w.alloc mk0).alloc (mkN 0)) := copy_in ⟨#[]⟩ 0 w hs
    go_enter Tryd.func18, Tryd.ntmps18
    go_wp2_with fail
    refine bodyPost_ret (v := mkV []) (by simp [results, Tryd.results18, go_sem, *]; rfl) rfl ⟨rfl, ((Ext.refl w).alloc _).alloc _⟩
  · have hcp : (Builtin.copy_ #[34, 9] 3 #[.slice (some ⟨w.heap.size + 1, 1, none⟩) 2 2, .string ⟨#[a]⟩]).run Tryd.prog ((w.alloc mk0).alloc (mkN 1)) = .ok (.int .i64 1) (((w.alloc mk0).alloc (mkN 1)).setCell ⟨w.heap.size + 1, 1, none⟩ (.int .u8 a.toNat)) := copy_in ⟨#[a]⟩ 1 w hs
    go_enter Tryd.func18, Tryd.ntmps18
    go_wp2_with fail
    refine bodyPost_ret (v := mkV [a]) (by simp [results, Tryd.results18, go_sem, *]; rfl) rfl ⟨rfl, ((Ext.refl w).alloc _).alloc _⟩
  · have hcp : (Builtin.copy_ #[34, 9] 3 #[.slice (some ⟨w.heap.size + 1, 1, none⟩) 2 2, .string ⟨#[a, b]⟩]).run Tryd.prog ((w.alloc mk0).alloc (mkN 2)) =
      .ok (.int .i64 2) ((((w.alloc mk0).alloc (mkN 2)).setCell ⟨w.heap.size + 1, 1, none⟩ (.int .u8 a.toNat)).setCell ⟨w.heap.size + 1, 2, none⟩ (.int .u8 b.toNat)) := copy_in ⟨#[a, b]⟩ 2 w hs
    go_enter Tryd.func18, Tryd.ntmps18
    go_wp2_with fail
    refine bodyPost_ret (v := mkV [a, b]) (by simp [results, Tryd.results18, go_sem, *]; rfl) rfl ⟨rfl, ((Ext.refl w).alloc _).alloc _⟩

/-- string(m.text[:m.size]) -/
theorem conv_bytes (l : List UInt8) (g o cap : Nat) (w : World) (hc : ∀ j (h : j < l.length), w.cell? ⟨g, o + j, none⟩ = some (.int .u8 (l[j].toNat : Nat))) :
    (convert 34 9 (.slice (some ⟨g, o, none⟩) l.length cap)).run Tryd.prog w = .ok (.string ⟨l.toArray⟩) w := by
  refine run_convert_bytes_back w _ _ _ _ cap l Tryd.underlying34 Tryd.underlying5 Tryd.underlying9 fun j hj => ?_
  have := hc j hj
  by_cases h0 : j = 0
  · subst h0; simpa [Addr.add] using this
  · simpa [Addr.add, h0] using this

set_option maxHeartbeats 1000000 in
theorem String_1 (a : UInt8) (w : World) :
    Calls Tryd.prog 27 #[.agg #[.int .u8 1, .int .u8 (a.toNat : Nat), .int .u8 0]] w fun e w' => e = .returned (.string ⟨#[a]⟩) ∧ Ext w w' := by
  have hcv := conv_bytes [a] w.heap.size 1 2 (w.alloc (.cells #[.int .u8 1, .int .u8 (a.toNat : Nat), .int .u8 0] 49)) (fun j hj => by
    have : j = 0 := by simpa using hj
    subst this; go_simp)
  simp only [List.length_cons, List.length_nil, Nat.zero_add] at hcv
  go_enter Tryd.func27, Tryd.ntmps27
  go_wp2_with fail
  go_ret
  exact ⟨rfl, (Ext.refl w).alloc _⟩
set_option maxHeartbeats 1000000 in
theorem String_2 (a b : UInt8) (w : World) :
    Calls Tryd.prog 27 #[.agg #[.int .u8 2, .int .u8 (a.toNat : Nat), .int .u8 (b.toNat : Nat)]] w fun e w' => e = .returned (.string ⟨#[a, b]⟩) ∧ Ext w w' := by
  have hcv := conv_bytes [a, b] w.heap.size 1 2 (w.alloc (.cells #[.int .u8 2, .int .u8 (a.toNat : Nat), .int .u8 (b.toNat : Nat)] 49)) (fun j hj => by
    have : j = 0 ∨ j = 1 := by have : j < 2 := hj; omega
    rcases this with rfl | rfl
    · have e : ([a, b] : List UInt8)[0] = a := rfl
      rw [e]; go_simp
    · have e : ([a, b] : List UInt8)[1] = b := rfl
      rw [e]; go_simp)
  simp only [List.length_cons, List.length_nil, Nat.zero_add] at hcv
  go_enter Tryd.func27, Tryd.ntmps27
  go_wp2_with fail
  go_ret
  exact ⟨rfl, (Ext.refl w).alloc _⟩
theorem String_any (l : List UInt8) (w : World) (h1 : 1 ≤ l.length) (hl : l.length ≤ 2) :
    Calls Tryd.prog 27 #[mkV l] w fun e w' => e = .returned (.string ⟨l.toArray⟩) ∧ Ext w w' := by
  match l, h1, hl with
  | [a], _, _ => exact String_1 a w
  | [a, b], _, _ => exact String_2 a b w
end Go.Proofs.YtagkimcbllpnkaaDoor
