/- Package lex: numbers. -/
import Derived.Test.YtagkimcbllpnkaaDoorLxt
import Derived.Laws.IdiomStrings
namespace Go.Proofs.YtagkimcbllpnkaaDoor
open Go.RowKit

def numK (s : ByteArray) (k : Nat) : Nat := if headIs s k 45 then k + 1 else k
def numberR (s : ByteArray) (k : Nat) : Sum Int (Tok × Nat) :=
  if numL 0 ((lft s (numK s k)).takeWhile digB) ≤ 1073741824 then
    .inr (⟨3, ⟨#[]⟩, (if headIs s k 45 then -1 else 1) * (numL 0 ((lft s (numK s k)).takeWhile digB) : Nat), 0⟩, numK s k + runN digB s (numK s k)) else .inl 2

theorem numL_cons (n : Nat) (d : UInt8) (r : List UInt8) : numL n (d :: r) = numL (min (10 * n + (d.toNat - 48)) capN) r := List.foldl_cons ..
theorem numL_nil (n : Nat) : numL n [] = n := List.foldl_nil ..
theorem numL_fix {c : Nat} (h : ∀ d : UInt8, min (10 * c + (d.toNat - 48)) capN = c) (l : List UInt8) : numL c l = c := by
  induction l with
  | nil => exact numL_nil _
  | cons d r ih => rw [numL_cons, h d]; exact ih
theorem min_cap {c : Nat} (h : c = capN) (d : UInt8) : min (10 * c + (d.toNat - 48)) capN = c := by
  rw [← h]
  exact Nat.min_eq_right (by omega)
theorem numL_over {c : Nat} (h : c = capN) (l : List UInt8) : numL c l = c := numL_fix (min_cap h) l
theorem digB_range {d : UInt8} (h : digB d = true) : 48 ≤ d.toNat ∧ d.toNat ≤ 57 := by
  unfold digB at h
  rw [Bool.and_eq_true, decide_eq_true_eq, decide_eq_true_eq] at h
  exact h
theorem capN_eq : capN = 1073741824 + 1 := rfl
theorem numL_go {v : Nat} {d : UInt8} {r : List UInt8} (h : v * 10 + (d.toNat - 48) ≤ 1073741824) : numL v (d :: r) = numL (v * 10 + (d.toNat - 48)) r := by
  have : min (10 * v + (d.toNat - 48)) capN = v * 10 + (d.toNat - 48) := by rw [capN_eq, Nat.min_eq_left (by omega)]; omega
  rw [numL_cons, this]
theorem numL_bad {v : Nat} {d : UInt8} {r : List UInt8} (h : 1073741824 < v * 10 + (d.toNat - 48)) : 1073741824 < numL v (d :: r) := by
  obtain ⟨c, hc⟩ : ∃ c, c = capN := ⟨_, rfl⟩
  have : min (10 * v + (d.toNat - 48)) c = c := by rw [hc, capN_eq, Nat.min_eq_right (by omega)]
  rw [numL_cons, ← hc, this, numL_over hc, hc, capN_eq]
  omega
theorem takeWhile_all {p : UInt8 → Bool} {l : List UInt8} : ∀ x ∈ l.takeWhile p, p x = true := by
  induction l with
  | nil => intro x h; cases h
  | cons c r ih =>
    intro x
    rw [List.takeWhile_cons]; split
    · rename_i h; intro hx; rcases List.mem_cons.1 hx with e | e
      · rw [e]; exact h
      · exact ih x e
    · intro hx; cases hx

theorem digs {tx : ByteArray} {l : List UInt8} (h : tx = ⟨(l.takeWhile digB).toArray⟩) (j : Nat) (hj : j < tx.size) : digB tx[j] = true := by
  refine takeWhile_all (l := l) _ ?_
  have : tx.data.toList = l.takeWhile digB := by rw [h]
  rw [← this]
  exact Array.getElem_mem_toList _

/-- a text as a slice of its bytes -/
theorem conv_str (s : ByteArray) (w : World) : ∃ (cap : Nat) (w' : World), (convert 9 34 (.string s)).run Tryd.prog w = .ok (.slice (some ⟨w.heap.size, 0, none⟩) s.size cap) w' ∧ Ext w w' ∧
    (∀ j (h : j < s.size), w'.cell? ⟨w.heap.size, j, none⟩ = some (.int .u8 s[j].toNat)) := by
  refine ⟨_, _, run_bytes_of_string w _ _ _ s Tryd.underlying9 Tryd.underlying34 Tryd.underlying5, (Ext.refl _).drew.alloc _, fun j hj => ?_⟩
  have hj' : j < s.data.size := hj
  have e : (bytesRow s (grownCap w s.size 0 5))[j]? = some (.int .u8 s[j].toNat) := by
    unfold bytesRow
    rw [Array.getElem?_append_left (by simpa using hj'), Array.getElem?_map, Array.getElem?_eq_getElem hj']
    rfl
  have hh := heap_alloc_new w.drew (.cells (bytesRow s (grownCap w s.size 0 5)) 5 ((bytesRow s (grownCap w s.size 0 5)).size, (bytesRow s (grownCap w s.size 0 5)).size + 1))
  have hs : w.drew.heap.size = w.heap.size := rfl
  rw [hs] at hh
  simp only [World.cell?, hh]
  exact e

set_option maxHeartbeats 1000000 in
theorem number_any (g : Nat) (s : ByteArray) (k b : Nat) (w : World) (hC : ClsAt w) (h : CurAt w g s k b) (hk : k ≤ s.size) (hs : s.size ≤ 4000) :
    Calls Tryd.prog 24 #[.pointer (some ⟨g, 0, none⟩)] w (TokOut s g b w (numberR s k)) := by
  have hgl := World.block_lt_of_cell? w _ h.c0
  simp only at hgl
  have hne : w.heap.size ≠ g := by omega
  cases hm : headIs s k 45 with
  | true =>
    have hks : k < s.size := by
      rcases Nat.lt_or_ge k s.size with h' | h'
      · exact h'
      · rw [headIs_end h'] at hm; cases hm
    obtain ⟨m, hmm⟩ : ∃ m, m = k + 1 := ⟨_, rfl⟩
    have hmk : m ≤ s.size := by omega
    have HM := Lib.hid hm
    have HK : Hid (numK s k = m) := Lib.hid (by unfold numK; rw [hm, hmm]; rfl)
    have KS := Lib.hid (sees_any' 45 g s k b true (w.alloc (.cells #[.int .i64 0, .string ⟨#[]⟩, .int .i64 0, .int .i64 0] 37)) (h.ext ((Ext.refl _).alloc _)) hs hm)
    have hw1 : IntKind.i64.wrap ((k : Int) + 1) = (m : Int) := by rw [IntKind.wrap_i64]; omega
    clear hm hmm
    go_enter Tryd.func24, Tryd.ntmps24
    go_wp2_with fail
    refine KS.out.mono ?_
    rintro e w1 ⟨rfl, n1, rfl⟩
    have hcn : CurAt ((w.alloc (.cells #[.int .i64 0, .string ⟨#[]⟩, .int .i64 0, .int .i64 0] 37)).drewN n1) g s k b := h.ext (((Ext.refl _).alloc _).drewN _)
    have HT := Lib.hid (hcn.to m)
    have c1 := hcn.c1
    have f1 := hcn.f1
    obtain ⟨wm, hwm⟩ : ∃ wm, wm = ((w.alloc (.cells #[.int .i64 0, .string ⟨#[]⟩, .int .i64 0, .int .i64 0] 37)).drewN n1).setCell ⟨g, 1, none⟩ (.int .i64 m) := ⟨_, rfl⟩
    have hxm : Chg (· = g) w wm := by rw [hwm]; exact Chg.set (F := (· = g)) (Chg.of_ext (((Ext.refl w).alloc _).drewN n1)) rfl _
    have HBm : Hid (Box4 wm w.heap.size (.int .i64 0) (.string ⟨#[]⟩) (.int .i64 0) (.int .i64 0)) := Lib.hid (by
      rw [hwm]
      exact ((Box4.new w (.int .i64 0) (.string ⟨#[]⟩) (.int .i64 0) (.int .i64 0) 37).ext ((Ext.refl _).drewN n1)).same (Below.heap_setCell _ _ _ _ hne))
    have HTm : Hid (CurAt wm g s m b) := Lib.hid (by rw [hwm]; exact HT.out)
    have HCm := Lib.hid (hC.chg hxm h.ne)
    have HWM := Lib.hid hwm
    clear hwm hcn HT
    go_wp2_with fail
    rw [← HWM.out]
    clear HWM c1 f1
    refine (skip_tx 3 digB rfl g s m b _ (by omega) HCm.out HTm.out hmk hs).mono ?_
    rintro e w1 ⟨tx, rfl, HX, hsz, h1, hx1⟩
    obtain ⟨cap, w2, hrun, hx2, hcells⟩ := conv_str tx w1
    have hsz4 : tx.size ≤ 4000 := by have := runN_le digB hmk; omega
    have H1 := Lib.hid h1
    have HC := Lib.hid hcells
    have hx02 := Lib.hid ((hxm.trans hx1).trans (Chg.of_ext hx2))
    have HB := Lib.hid ((HBm.out.chg hx1 hne).ext hx2)
    clear h1 hcells hx1
    go_wp2_with fail
    have HD : Hid (∀ j (h : j < tx.size), digB tx[j] = true) := Lib.hid (fun j hj => digs HX.out j hj)
    have HE : Hid (lft tx 0 = (lft s m).takeWhile digB) := Lib.hid (by rw [HX.out]; rfl)
    go_loopw [5, 21] (fun v i wr => ∃ n j : Nat, j ≤ tx.size ∧ v = .int .i64 n ∧ i = .int .i64 j ∧ n ≤ 1073741824 ∧ Hid (numL n (lft tx j) = numL 0 (lft tx 0)) ∧ wr = w2) (fun _ i _ => tx.size - (intOf i).toNat)
    case atStart => exact ⟨0, 0, by omega, rfl, rfl, by omega, Lib.hid rfl, rfl⟩
    case round =>
      obtain ⟨n, j, hj, rfl, rfl, hn, HN, rfl⟩ := hrel
      by_cases hlt : j < tx.size
      · have hc := HC.out j hlt
        have hd := digB_range (HD.out j hlt)
        have hl : decide ((j : Int) < (runN digB s m : Int)) = true := decide_eq_true (by omega)
        have j0 : (0 : Int) ≤ (j : Int) := Int.natCast_nonneg _
        have j1 : (j : Int) < (runN digB s m : Int) := by omega
        have hw1 : IntKind.u8.wrap ((tx[j].toNat : Int) - 48) = ((tx[j].toNat - 48 : Nat) : Int) := by rw [IntKind.wrap_u8]; omega
        obtain ⟨b0, b1, b2, b3, f0, f1, f2, f3⟩ := HB.out
        have hlc := Lib.hid (lft_cons tx j hlt)
        by_cases hov : 1073741824 < n * 10 + (tx[j].toNat - 48)
        · have HR : Hid (numberR s k = .inl 2) := Lib.hid (by
            have := numL_bad (r := lft tx (j + 1)) hov
            rw [← hlc.out, HN.out, HE.out] at this
            unfold numberR; rw [HK.out, if_neg (by omega)])
          have hov' : decide ((1073741824 : Int) < (n : Int) * 10 + ((tx[j].toNat - 48 : Nat) : Int)) = true := decide_eq_true (by omega)
          clear hlc HN
          go_wp2_with fail
          refine bodyPost_ret (v := .tuple #[tok0.val, .int .i64 2]) (by simp [results, Tryd.results24, go_sem, *]) rfl ?_
          exact out_bad HR.out hx02.out
        · have hov' : decide ((1073741824 : Int) < (n : Int) * 10 + ((tx[j].toNat - 48 : Nat) : Int)) = false := decide_eq_false (by omega)
          have NX : Hid (numL (n * 10 + (tx[j].toNat - 48)) (lft tx (j + 1)) = numL 0 (lft tx 0)) := Lib.hid (by rw [← HN.out, hlc.out, numL_go (by omega)])
          clear hlc HN
          go_wp2_with fail
          go_roundw
          case rel => exact ⟨n * 10 + (tx[j].toNat - 48), j + 1, by omega, by rw [Int.natCast_add, Int.natCast_mul]; rfl, by go_num, by omega, NX, trivial⟩
          case measure => simp [intOf]; omega
      · obtain ⟨b0, b1, b2, b3, f0, f1, f2, f3⟩ := HB.out
        have hl : decide ((j : Int) < (runN digB s m : Int)) = false := decide_eq_false (by omega)
        have HR : Hid (numberR s k = .inr (⟨3, ⟨#[]⟩, -((n : Nat) : Int), 0⟩, m + runN digB s m)) := Lib.hid (by
          have h0 := HN.out
          rw [show lft tx j = [] from List.drop_eq_nil_of_le (by simpa using hlt), numL_nil, HE.out] at h0
          unfold numberR
          rw [HK.out, ← h0, if_pos hn, HM.out]
          simp)
        have H2 := Lib.hid (H1.out.ext hx2)
        clear HN
        go_wp2_with fail
        refine bodyPost_ret (v := .tuple #[Tok.val ⟨3, ⟨#[]⟩, -(n : Int), 0⟩, .int .i64 0]) (by simp [results, Tryd.results24, go_sem, *]) rfl ?_
        exact out_ok HR.out hx02.out H2.out hgl
  | false =>
    have HM := Lib.hid hm
    have HK : Hid (numK s k = k) := Lib.hid (by unfold numK; rw [hm]; rfl)
    have KS := Lib.hid (sees_any' 45 g s k b false (w.alloc (.cells #[.int .i64 0, .string ⟨#[]⟩, .int .i64 0, .int .i64 0] 37)) (h.ext ((Ext.refl _).alloc _)) hs hm)
    clear hm
    go_enter Tryd.func24, Tryd.ntmps24
    go_wp2_with fail
    refine KS.out.mono ?_
    rintro e w1 ⟨rfl, n1, rfl⟩
    go_wp2_with fail
    refine (skip_tx 3 digB rfl g s k b _ (by omega) (hC.ext (((Ext.refl _).alloc _).drewN _)) (h.ext (((Ext.refl _).alloc _).drewN _)) hk hs).mono ?_
    rintro e w1 ⟨tx, rfl, HX, hsz, h1, hx1⟩
    obtain ⟨cap, w2, hrun, hx2, hcells⟩ := conv_str tx w1
    have hsz4 : tx.size ≤ 4000 := by have := runN_le digB hk; omega
    have H1 := Lib.hid h1
    have HC := Lib.hid hcells
    have hx02 := Lib.hid (((Chg.of_ext (((Ext.refl w).alloc _).drewN n1)).trans hx1).trans (Chg.of_ext hx2))
    have HB := Lib.hid (((((Box4.new w (.int .i64 0) (.string ⟨#[]⟩) (.int .i64 0) (.int .i64 0) 37).ext ((Ext.refl _).drewN n1)).chg hx1 hne)).ext hx2)
    clear h1 hcells hx1
    go_wp2_with fail
    have HD : Hid (∀ j (h : j < tx.size), digB tx[j] = true) := Lib.hid (fun j hj => digs HX.out j hj)
    have HE : Hid (lft tx 0 = (lft s k).takeWhile digB) := Lib.hid (by rw [HX.out]; rfl)
    go_loopw [5, 21] (fun v i wr => ∃ n j : Nat, j ≤ tx.size ∧ v = .int .i64 n ∧ i = .int .i64 j ∧ n ≤ 1073741824 ∧ Hid (numL n (lft tx j) = numL 0 (lft tx 0)) ∧ wr = w2) (fun _ i _ => tx.size - (intOf i).toNat)
    case atStart => exact ⟨0, 0, by omega, rfl, rfl, by omega, Lib.hid rfl, rfl⟩
    case round =>
      obtain ⟨n, j, hj, rfl, rfl, hn, HN, rfl⟩ := hrel
      by_cases hlt : j < tx.size
      · have hc := HC.out j hlt
        have hd := digB_range (HD.out j hlt)
        have hl : decide ((j : Int) < (runN digB s k : Int)) = true := decide_eq_true (by omega)
        have j0 : (0 : Int) ≤ (j : Int) := Int.natCast_nonneg _
        have j1 : (j : Int) < (runN digB s k : Int) := by omega
        have hw1 : IntKind.u8.wrap ((tx[j].toNat : Int) - 48) = ((tx[j].toNat - 48 : Nat) : Int) := by rw [IntKind.wrap_u8]; omega
        obtain ⟨b0, b1, b2, b3, f0, f1, f2, f3⟩ := HB.out
        have hlc := Lib.hid (lft_cons tx j hlt)
        by_cases hov : 1073741824 < n * 10 + (tx[j].toNat - 48)
        · have HR : Hid (numberR s k = .inl 2) := Lib.hid (by
            have := numL_bad (r := lft tx (j + 1)) hov
            rw [← hlc.out, HN.out, HE.out] at this
            unfold numberR; rw [HK.out, if_neg (by omega)])
          have hov' : decide ((1073741824 : Int) < (n : Int) * 10 + ((tx[j].toNat - 48 : Nat) : Int)) = true := decide_eq_true (by omega)
          clear hlc HN
          go_wp2_with fail
          refine bodyPost_ret (v := .tuple #[tok0.val, .int .i64 2]) (by simp [results, Tryd.results24, go_sem, *]) rfl ?_
          exact out_bad HR.out hx02.out
        · have hov' : decide ((1073741824 : Int) < (n : Int) * 10 + ((tx[j].toNat - 48 : Nat) : Int)) = false := decide_eq_false (by omega)
          have NX : Hid (numL (n * 10 + (tx[j].toNat - 48)) (lft tx (j + 1)) = numL 0 (lft tx 0)) := Lib.hid (by rw [← HN.out, hlc.out, numL_go (by omega)])
          clear hlc HN
          go_wp2_with fail
          go_roundw
          case rel => exact ⟨n * 10 + (tx[j].toNat - 48), j + 1, by omega, by rw [Int.natCast_add, Int.natCast_mul]; rfl, by go_num, by omega, NX, trivial⟩
          case measure => simp [intOf]; omega
      · obtain ⟨b0, b1, b2, b3, f0, f1, f2, f3⟩ := HB.out
        have hl : decide ((j : Int) < (runN digB s k : Int)) = false := decide_eq_false (by omega)
        have HR : Hid (numberR s k = .inr (⟨3, ⟨#[]⟩, ((n : Nat) : Int), 0⟩, k + runN digB s k)) := Lib.hid (by
          have h0 := HN.out
          rw [show lft tx j = [] from List.drop_eq_nil_of_le (by simpa using hlt), numL_nil, HE.out] at h0
          unfold numberR
          rw [HK.out, ← h0, if_pos hn, HM.out]
          simp)
        have H2 := Lib.hid (H1.out.ext hx2)
        clear HN
        go_wp2_with fail
        refine bodyPost_ret (v := .tuple #[Tok.val ⟨3, ⟨#[]⟩, (n : Int), 0⟩, .int .i64 0]) (by simp [results, Tryd.results24, go_sem, *]) rfl ?_
        exact out_ok HR.out hx02.out H2.out hgl
end Go.Proofs.YtagkimcbllpnkaaDoor
