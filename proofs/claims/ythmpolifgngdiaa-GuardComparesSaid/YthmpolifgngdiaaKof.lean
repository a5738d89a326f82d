/- bind.keyOf: a name as a key. -/
import Derived.Test.YthmpolifgngdiaaBd
import Derived.Deep.MidRow
namespace Go.Proofs.Ythmpolifgngdiaa
open Go.RowKit

theorem infoKey : (Try.prog.info? 119).map (·.size) = some 17 := by kernel_rfl
/-- a block of a key's cells -/
def BlkK (w : World) (g : Nat) (cs : List Value) : Prop := w.heap[g]? = some (.cells cs.toArray 119 (0, 0))
theorem BlkK.cell {w : World} {g : Nat} {cs : List Value} (h : BlkK w g cs) (o : Nat) : w.cell? ⟨g, o, none⟩ = cs[o]? := by
  unfold BlkK at h
  simp [World.cell?, h]
theorem BlkK.frozen {w : World} {g : Nat} {cs : List Value} (h : BlkK w g cs) (o : Nat) : w.frozen? ⟨g, o, none⟩ = false := by
  unfold BlkK at h
  simp [World.frozen?, h]
theorem BlkK.set {w : World} {g : Nat} {cs : List Value} (h : BlkK w g cs) (o : Nat) (v : Value) : BlkK (w.setCell ⟨g, o, none⟩ v) g (cs.set o v) := by
  unfold BlkK at *
  simp [World.setCell, Array.getElem?_modify, h]
theorem BlkK.far {w : World} {g : Nat} {cs : List Value} (h : BlkK w g cs) {p : Addr} (v : Value) (hne : g ≠ p.block) : BlkK (w.setCell p v) g cs := (Below.heap_setCell _ _ _ _ hne).trans h
theorem BlkK.range {w : World} {g : Nat} {cs : List Value} (h : BlkK w g cs) : w.rangeAt g 0 cs := fun j v hv => by rw [Nat.zero_add, h.cell, hv]
theorem BlkK.there {w : World} {g : Nat} {cs : List Value} (h : BlkK w g cs) : w.there g 0 cs.length := fun j hj => by
  rw [Nat.zero_add, h.cell, h.frozen, List.getElem?_eq_getElem hj]; exact ⟨rfl, rfl⟩

abbrev zero17 : Array Value := #[.int .u8 0, .int .u8 0, .int .u8 0, .int .u8 0, .int .u8 0, .int .u8 0, .int .u8 0, .int .u8 0, .int .u8 0, .int .u8 0, .int .u8 0, .int .u8 0, .int .u8 0, .int .u8 0, .int .u8 0, .int .u8 0, .int .u8 0]
theorem keyCs_zero (s : ByteArray) : keyCs s 0 = [.int .u8 (s.size : Int), .int .u8 0, .int .u8 0, .int .u8 0, .int .u8 0, .int .u8 0, .int .u8 0, .int .u8 0, .int .u8 0, .int .u8 0, .int .u8 0, .int .u8 0, .int .u8 0, .int .u8 0, .int .u8 0, .int .u8 0, .int .u8 0] := rfl
theorem heap_size_alloc (w : World) (o : Obj) : (w.alloc o).heap.size = w.heap.size + 1 := by simp
theorem ext_setCells {w : World} {b : Nat} (vs : List Value) : ∀ (o : Nat) (u : World) (_ : w.heap.size ≤ b), Ext w u → Ext w (u.setCells b o vs) := by
  induction vs with
  | nil => intro o u _ h; exact h
  | cons v r ih => intro o u hb h; exact ih (o + 1) _ hb (h.setCell hb v)

set_option maxRecDepth 100000 in
set_option maxHeartbeats 1000000 in
theorem keyOf_any (s : ByteArray) (w : World) (hs : s.size ≤ 16) :
    Calls Try.prog 68 #[.string s] w fun e w' => e = .returned (keyV s) ∧ Ext w w' := by
  go_enter Try.func68, Try.ntmps68
  go_wp2_with fail
  go_loopw [11] (fun i wr => ∃ (k : Nat), k ≤ s.size ∧ i = .int .i64 k ∧ Hid (BlkK wr (w.heap.size + 1) (keyCs s k)) ∧ Hid (BlkK wr w.heap.size (keyCs ⟨#[]⟩ 0)) ∧ Ext w wr) (fun i _ => s.size - (intOf i).toNat)
  case atStart =>
    refine ⟨0, Nat.zero_le _, rfl, Lib.hid ?_, Lib.hid ?_, ((Ext.refl w).alloc _).alloc _⟩
    · unfold BlkK
      rw [keyCs_zero, ← heap_size_alloc w (.cells zero17 119)]
      exact heap_alloc_new _ _
    · unfold BlkK
      rw [keyCs_zero]
      exact (Below.heap_alloc _ _ _ (by simp)).trans (heap_alloc_new w _)
  case round =>
    obtain ⟨k, hk, rfl, HB, HZ, hx⟩ := hrel
    by_cases hlt : k < s.size
    · have h16 : (k : Int) < 16 := by omega
      have hk0 : (0 : Int) ≤ (k : Int) := by omega
      have hc := HB.out.cell (1 + k)
      rw [List.getElem?_eq_getElem (by rw [keyCs_len]; omega)] at hc
      have hf := HB.out.frozen (1 + k)
      have hset : Hid (BlkK (wr.setCell ⟨w.heap.size + 1, 1 + k, none⟩ (.int .u8 (s[k].toNat : Int))) (w.heap.size + 1) (keyCs s (k + 1))) := Lib.hid (by rw [← keyCs_set s k hlt (by omega)]; exact HB.out.set _ _)
      have hfar : Hid (BlkK (wr.setCell ⟨w.heap.size + 1, 1 + k, none⟩ (.int .u8 (s[k].toNat : Int))) w.heap.size (keyCs ⟨#[]⟩ 0)) := Lib.hid (HZ.out.far _ (by simp))
      go_wp2_with fail
      exact ⟨⟨k + 1, by omega, by go_num, hset, hfar, hx.setCell (by simp) _⟩, by simp [intOf]; omega⟩
    · obtain rfl : k = s.size := by omega
      have hi : (Try.prog.info? 119).map (·.size) = some (keyCs s s.size).length := by rw [keyCs_len]; exact infoKey
      have hth : wr.there w.heap.size 0 (keyCs s s.size).toArray.size := by have := HZ.out.there; rw [keyCs_len] at this; simpa [keyCs_len] using this
      have h1 : (keyCs s s.size).toArray.all (·.oneCell') = true := by simp; exact keyCs_one s s.size
      have hi' : (Try.prog.info? 119).map (·.size) = some (keyCs s s.size).toArray.size := by simpa using hi
      have hrg := HB.out.range
      have hfin : Ext w (wr.setCells w.heap.size 0 (keyCs s s.size)) := ext_setCells _ _ _ (Nat.le_refl _) hx
      have hrs : (wr.setCells w.heap.size 0 (keyCs s s.size)).rangeAt w.heap.size 0 (keyCs s s.size) := World.rangeAt_setCells_same _ _ _ _ (by simpa using hth)
      have hres := run_loadVar_mid (P := Try.prog) _ w.heap.size 0 119 (keyCs s s.size) _ hrs Try.underlying119 rfl hi
      clear HB HZ
      go_wp2_with (first
        | (refine wpList_load_mid (op := ⟨some 21, _, _, _, _, _⟩) rfl 119 (.tmp 3) rfl (w.heap.size + 1) 0 rfl (keyCs s s.size) _ hrg Try.underlying119 rfl hi ?_)
        | (refine wpList_store_mid (op := ⟨none, _, _, _, _, _⟩) rfl 119 (.tmp 2) (.tmp 21) rfl w.heap.size 0 (keyCs s s.size).toArray rfl rfl hth hi' h1 ?_))
      refine bodyPost_ret (v := keyV s) ?_ rfl ⟨rfl, hfin⟩
      simp [results, Try.results68, Act.put, asAddr, hres, keyV]
end Go.Proofs.Ythmpolifgngdiaa
