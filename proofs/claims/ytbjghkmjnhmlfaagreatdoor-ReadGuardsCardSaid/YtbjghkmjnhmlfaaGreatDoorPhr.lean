/- The page's reader: reading (what XPqg holds of it, without `ended`, which seat Z lacks). -/
import Derived.Test.YtbjghkmjnhmlfaaGreatDoorYV
import Derived.Test.YtbjghkmjnhmlfaaGreatDoorLyf
namespace Go.Proofs.YtbjghkmjnhmlfaaGreatDoor
open Go.RowKit

theorem pg_toks {w : World} {base : Nat} {v : Value} {T : List Tok} (h : w.ownsRow base 54 4 v T.length (tokCells T)) (hT : 0 < T.length) : ∃ q c, v = .slice (some ⟨q, 0, none⟩) T.length c ∧ base ≤ q ∧ q < w.heap.size ∧
    ∀ j (h : j < T.length), w.cell? ⟨q, j * 4, none⟩ = some (.int .i64 T[j].kind) ∧ w.cell? ⟨q, j * 4 + 1, none⟩ = some (.string T[j].text) ∧ w.cell? ⟨q, j * 4 + 2, none⟩ = some (.int .i64 T[j].n) ∧ w.cell? ⟨q, j * 4 + 3, none⟩ = some (.int .i64 T[j].at_) := by
  obtain ⟨q, c, rfl, _⟩ := own_form h hT
  have hq := own_lt h q rfl
  refine ⟨q, c, rfl, hq.1, hq.2, fun i hi => ?_⟩
  have cell : ∀ j, j < 4 → w.cell? ⟨q, i * 4 + j, none⟩ = T[i].cells[j]? := fun j hj => by
    rw [h.cellAt (i * 4 + j) (by omega), tokCells_at T i j hi hj]
  refine ⟨?_, ?_, ?_, ?_⟩
  · have := cell 0 (by omega); simpa [Tok.cells] using this
  · have := cell 1 (by omega); simpa [Tok.cells] using this
  · have := cell 2 (by omega); simpa [Tok.cells] using this
  · have := cell 3 (by omega); simpa [Tok.cells] using this
theorem pg_new {w w' : World} {A c : Nat} {T : List Tok} (hg : w' = w.alloc (.cells #[.slice (some ⟨A, 0, none⟩) T.length c, .int .i64 0, .int .i64 0, .int .i64 0, .int .i64 0] 52)) (hl : T.length ≤ 4001) (hT : 0 < T.length)
    (ht : ∀ j (h : j < T.length), w.cell? ⟨A, j * 4, none⟩ = some (.int .i64 T[j].kind) ∧ w.cell? ⟨A, j * 4 + 1, none⟩ = some (.string T[j].text) ∧ w.cell? ⟨A, j * 4 + 2, none⟩ = some (.int .i64 T[j].n) ∧ w.cell? ⟨A, j * 4 + 3, none⟩ = some (.int .i64 T[j].at_)) : PgAt w' w.heap.size A c T 0 0 0 0 := by
  subst hg
  have hx := (Ext.refl w).alloc (.cells #[.slice (some ⟨A, 0, none⟩) T.length c, .int .i64 0, .int .i64 0, .int .i64 0, .int .i64 0] 52)
  have hA := World.block_lt_of_cell? w _ (ht 0 hT).1
  simp only at hA
  refine ⟨by go_simp, by go_simp, by go_simp, by go_simp, by go_simp, fun j _ => by go_simp, fun j hj => ?_, by omega, hT, hl⟩
  obtain ⟨a0, a1, a2, a3⟩ := ht j hj
  exact ⟨hx.cell a0, hx.cell a1, hx.cell a2, hx.cell a3⟩
set_option maxRecDepth 100000 in
set_option maxHeartbeats 1000000 in
theorem reading_no (s : ByteArray) (w : World) (hS : s.size ≤ 140737488351232) (hE : lexE s ≠ 0) :
    Calls Tryz.prog 17 #[.string s] w fun e w' => e = .returned (.tuple #[.pointer none, .int .i64 (lexA s), .int .i64 (lexE s)]) ∧ Ext w w' := by
  have KT := Lib.hid (rTokens_any s w hS)
  have q : (lexE s != 0) = true := by simp [hE]
  clear hS hE
  go_enter Tryz.func17, Tryz.ntmps17
  go_wp2_with fail
  refine KT.out.mono ?_
  rintro e w1 ⟨v, base, rfl, _, _, hx1⟩
  go_wp2_with fail
  refine bodyPost_ret (v := .tuple #[.pointer none, .int .i64 (lexA s), .int .i64 (lexE s)]) (by simp [results, Tryz.results17, go_sem, *]) rfl ?_
  exact ⟨rfl, hx1⟩
set_option maxRecDepth 100000 in
set_option maxHeartbeats 1000000 in
theorem reading_yes (s : ByteArray) (w : World) (hS : s.size ≤ 140737488351232) (hE : lexE s = 0) :
    Calls Tryz.prog 17 #[.string s] w fun e w' => ∃ g A c, e = .returned (.tuple #[.pointer (some ⟨g, 0, none⟩), .int .i64 0, .int .i64 0]) ∧ PgAt w' g A c (lexT s) 0 0 0 0 ∧ w.heap.size ≤ g ∧ Ext w w' := by
  have KT := Lib.hid (rTokens_any s w hS)
  have q : (lexE s != 0) = false := by simp [hE]
  obtain ⟨hG, hL⟩ := lexT_good hE
  have HG := Lib.hid hG
  clear hS hG
  go_enter Tryz.func17, Tryz.ntmps17
  go_wp2_with fail
  refine KT.out.mono ?_
  rintro e w1 ⟨v, base, rfl, hown, hb, hx1⟩
  obtain ⟨A, c, rfl, _, _, hc⟩ := pg_toks hown HG.out.1
  have HP := Lib.hid (pg_new (c := c) rfl hL HG.out.1 hc)
  clear hc hown KT
  go_wp2_with fail
  refine bodyPost_ret (v := .tuple #[.pointer (some ⟨w1.heap.size, 0, none⟩), .int .i64 0, .int .i64 0]) (by simp [results, Tryz.results17, go_sem, *]) rfl ?_
  exact ⟨_, A, c, rfl, HP.out, hx1.size, hx1.trans ((Ext.refl _).alloc _)⟩
end Go.Proofs.YtbjghkmjnhmlfaaGreatDoor
