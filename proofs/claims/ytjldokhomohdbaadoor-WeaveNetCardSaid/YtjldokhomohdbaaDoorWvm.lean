/- almagestlaw8's small ones: num, Heavy, wakes. -/
import Derived.Test.YtjldokhomohdbaaDoorWvl
namespace Go.Proofs.YtjldokhomohdbaaDoor
open Go.RowKit Go.Maps

theorem num_any (n : Int) (w : World) : Calls Tryd.prog 10 #[.int .i64 n] w fun e w' => e = .returned (.int .i64 n) ∧ w' = w := by
  go_enter Tryd.func10, Tryd.ntmps10
  go_wp2_with fail
  go_ret
  exact ⟨rfl, rfl⟩
theorem wake_then : thenV 1 1 = 1 ∧ thenE 1 1 = 0 := by decide +kernel
theorem wakes_any (w : World) (hE : EndAt w) : Calls Tryd.prog 16 #[] w fun e w' => e = .returned (.bool true) ∧ Ext w w' := by
  have KT := Lib.hid (Then_any 1 1 w hE)
  rw [wake_then.1, wake_then.2] at KT
  clear hE
  go_enter Tryd.func16, Tryd.ntmps16
  go_wp2_with fail
  refine KT.out.mono ?_
  rintro e w1 ⟨rfl, hx⟩
  go_wp2_with fail
  refine (num_any _ _).mono ?_
  rintro e w2 ⟨rfl, rfl⟩
  go_wp2_with fail
  go_ret
  exact ⟨rfl, hx⟩

/-- rows of numbers in a row, from B on -/
def RowsAt (w : World) (ls : List (List Int)) (B : Option Addr) : Prop := ∀ i (h : i < ls.length), ∃ b o A c, B = some ⟨b, o, none⟩ ∧ w.cell? ⟨b, o + i, none⟩ = some (.slice A ls[i].length c) ∧ ls[i].length ≤ c ∧ ls[i].length * 8 ≤ 140737488351232 ∧ IntsAt w ls[i] A
theorem RowsAt.ext {w w' : World} {ls : List (List Int)} {B : Option Addr} (h : RowsAt w ls B) (k : Ext w w') : RowsAt w' ls B := by
  intro i hi
  obtain ⟨b, o, A, c, e, h0, h1, h2, h3⟩ := h i hi
  exact ⟨b, o, A, c, e, k.cell h0, h1, h2, h3.ext k⟩
/-- how much rows are -/
def rowsL : List (List Int) → Int → Int
  | [], n => n
  | s :: ss, n => if n < 1048576 then rowsL ss (n + s.length) else n
theorem rowsL_ge : ∀ (ls : List (List Int)) (n : Int), n ≤ rowsL ls n
  | [], n => Int.le_refl _
  | s :: ss, n => by
    rw [rowsL]
    split
    · have := rowsL_ge ss (n + s.length); omega
    · exact Int.le_refl _
theorem rowsL_each : ∀ (ls : List (List Int)) (n : Int), 0 ≤ n → rowsL ls n ≤ 500 → ∀ l ∈ ls, l.length ≤ 500
  | [], _, _, _, l, h => by cases h
  | s :: ss, n, h0, h, l, hl => by
    rw [rowsL] at h
    split at h
    · have h1 := rowsL_ge ss (n + s.length)
      rcases List.mem_cons.1 hl with rfl | hl
      · omega
      · exact rowsL_each ss _ (by omega) h l hl
    · omega
/-- is it more than is played? -/
def heavyB (n : Nat) (ls : List (List Int)) : Bool := decide (500 < rowsL ls ((n : Int) + ls.length))
abbrev askCells (n : Nat) (A : Option Addr) (c : Nat) (m : Nat) (B : Option Addr) (d : Nat) (N : Int) : Array Value := #[.slice A n c, .slice B m d, .int .i64 N]

set_option maxHeartbeats 2000000 in
theorem heavy_any (n : Nat) (A : Option Addr) (c : Nat) (ls : List (List Int)) (B : Option Addr) (d : Nat) (N : Int) (w : World) (hn : n * 8 ≤ 140737488351232) (hl : ls.length * 24 ≤ 140737488351232) (h : RowsAt w ls B) :
    Calls Tryd.prog 7 #[.agg (askCells n A c ls.length B d N)] w fun x w' => x = .returned (.bool (heavyB n ls)) ∧ Ext w w' := by
  have HB : Hid (heavyB n ls = decide (500 < rowsL ls ((n : Int) + ls.length))) := Lib.hid rfl
  have hx0 := (Ext.refl w).alloc (.cells (askCells n A c ls.length B d N) 25)
  have h1 := h.ext hx0
  have q1 : (w.alloc (.cells (askCells n A c ls.length B d N) 25)).cell? ⟨w.heap.size, 1, none⟩ = some (.slice B ls.length d) := by go_simp
  have q0 : (w.alloc (.cells (askCells n A c ls.length B d N) 25)).cell? ⟨w.heap.size, 0, none⟩ = some (.slice A n c) := by go_simp
  generalize heavyB n ls = R at HB ⊢
  go_enter Tryd.func7, Tryd.ntmps7
  go_upto_region 1 with (fail)
  generalize (w.alloc (.cells (askCells n A c ls.length B d N) 25)) = W0 at *
  have HX := Lib.hid hx0
  have H0 : Hid (rowsL (ls.drop 0) ((n : Int) + ls.length) = rowsL ls ((n : Int) + ls.length)) := Lib.hid rfl
  generalize rowsL ls ((n : Int) + ls.length) = T at HB H0
  clear h hx0
  go_wp2_with fail
  go_loopw [3, 4] (fun m i wr => ∃ (k : Nat) (x : Int), k ≤ ls.length ∧ 0 ≤ x ∧ x ≤ 9007199254740992 ∧ i = .int .i64 k ∧ m = .int .i64 x ∧ Hid (rowsL (ls.drop k) x = T) ∧ wr = W0) (fun _ i _ => ls.length - (intOf i).toNat)
  case atStart => exact ⟨0, _, Nat.zero_le _, by omega, by omega, rfl, rfl, H0, rfl⟩
  case round =>
    obtain ⟨k, x, hk, hx0, hx1, rfl, rfl, H, hwr⟩ := hrel
    rw [← hwr] at q1 h1
    have HWR := Lib.hid hwr
    clear hwr H0 q0
    by_cases hlt : k < ls.length
    · obtain ⟨b, o, A', c', rfl, c0, hc0, hb, _⟩ := h1 k hlt
      have hki : (k : Int) < (ls.length : Int) := by omega
      have hk0 : (0 : Int) ≤ (k : Int) := by omega
      have H2 : Hid ((if x < 1048576 then rowsL (ls.drop (k + 1)) (x + ls[k].length) else x) = T) := by
        have := H.out
        rw [List.drop_eq_getElem_cons hlt, rowsL] at this
        exact Lib.hid this
      generalize ls[k].length = z at *
      clear H h1
      by_cases hn : x < 1048576
      · go_wp2_with fail
        go_roundw
        case rel => exact ⟨k + 1, x + z, by omega, by omega, by omega, by go_num, rfl, Lib.hid (by have := H2.out; rwa [if_pos (by omega)] at this), HWR.out⟩
        case measure => simp [intOf]; omega
      · have hn' : decide (x < 1048576) = false := decide_eq_false hn
        go_wp2_with fail
        go_ret
        exact ⟨ret_bool (by rw [HB.out]; have := H2.out; rw [if_neg (by omega)] at this; rw [this]), by rw [HWR.out]; exact HX.out⟩
    · have hki : ¬ ((k : Int) < (ls.length : Int)) := by omega
      have hki' : decide ((k : Int) < (ls.length : Int)) = false := decide_eq_false hki
      have H3 : Hid (x = T) := Lib.hid (by have := H.out; rwa [List.drop_eq_nil_of_le (by omega), rowsL] at this)
      clear H h1
      go_wp2_with fail
      go_ret
      exact ⟨ret_bool (by rw [HB.out, H3.out]), by rw [HWR.out]; exact HX.out⟩
end Go.Proofs.YtjldokhomohdbaaDoor
