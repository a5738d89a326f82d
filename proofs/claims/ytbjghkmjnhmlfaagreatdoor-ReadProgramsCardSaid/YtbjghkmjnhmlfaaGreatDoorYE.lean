/- Joined: Lxn, Lxm, Lxk, Lxj, Lxh, Lxu, Lxv, Lxx. -/
import Derived.Test.YtbjghkmjnhmlfaaGreatDoorYD
import Derived.Laws.IdiomStrings
import Derived.Lib.LazyBuf
import Derived.DeepKeys4
import Derived.Maps.RangeWalk
import Derived.Maps.OwnSet
import Derived.BigRegion
import Derived.Deep.DeepCutAuto
import Derived.Deep.CutBlock
import Derived.Maps.AppendAt
import Derived.Laws.MakeOwn
import Derived.Deep.AppendLies

/- Package lex: numbers. -/
namespace Go.Proofs.YtbjghkmjnhmlfaaGreatDoor
open Go.RowKit

def numK (s : ByteArray) (k : Nat) : Nat := if headIs s k 45 then k + 1 else k
def numberR (s : ByteArray) (k : Nat) : Sum Int (Tok × Nat) :=
 if numL 0 ((lft s (numK s k)).takeWhile digB) ≤ 1073741824 then
  .inr (⟨3, ⟨#[]⟩, (if headIs s k 45 then -1 else 1) * (numL 0 ((lft s (numK s k)).takeWhile digB) : Nat), 0⟩, numK s k + runN digB s (numK s k)) else .inl 2

theorem numL_cons (n : Nat) (d : UInt8) (r : List UInt8) : numL n (d :: r) = numL (min (10 * n + (d.toNat - 48)) capN) r := List.foldl_cons ..
theorem numL_nil (n : Nat) : numL n [] = n := List.foldl_nil ..
theorem numL_fix {c : Nat} (h : ∀ d : UInt8, min (10 * c + (d.toNat - 48)) capN = c) (l : List UInt8) : numL c l = c := by
 induction l with
 | nil => exact numL_nil _
 | cons d r ih => rw [numL_cons, h d]; exact ih
theorem min_cap {c : Nat} (h : c = capN) (d : UInt8) : min (10 * c + (d.toNat - 48)) capN = c := by
 rw [← h]
 exact Nat.min_eq_right (by omega)
theorem numL_over {c : Nat} (h : c = capN) (l : List UInt8) : numL c l = c := numL_fix (min_cap h) l
theorem digB_range {d : UInt8} (h : digB d = true) : 48 ≤ d.toNat ∧ d.toNat ≤ 57 := by
 unfold digB at h
 rw [Bool.and_eq_true, decide_eq_true_eq, decide_eq_true_eq] at h
 exact h
theorem capN_eq : capN = 1073741824 + 1 := rfl
theorem numL_go {v : Nat} {d : UInt8} {r : List UInt8} (h : v * 10 + (d.toNat - 48) ≤ 1073741824) : numL v (d :: r) = numL (v * 10 + (d.toNat - 48)) r := by
 have : min (10 * v + (d.toNat - 48)) capN = v * 10 + (d.toNat - 48) := by rw [capN_eq, Nat.min_eq_left (by omega)]; omega
 rw [numL_cons, this]
theorem numL_bad {v : Nat} {d : UInt8} {r : List UInt8} (h : 1073741824 < v * 10 + (d.toNat - 48)) : 1073741824 < numL v (d :: r) := by
 obtain ⟨c, hc⟩ : ∃ c, c = capN := ⟨_, rfl⟩
 have : min (10 * v + (d.toNat - 48)) c = c := by rw [hc, capN_eq, Nat.min_eq_right (by omega)]
 rw [numL_cons, ← hc, this, numL_over hc, hc, capN_eq]
 omega
theorem takeWhile_all {p : UInt8 → Bool} {l : List UInt8} : ∀ x ∈ l.takeWhile p, p x = true := by
 induction l with
 | nil => intro x h; cases h
 | cons c r ih =>
  intro x
  rw [List.takeWhile_cons]; split
  ·
   rename_i h; intro hx; rcases List.mem_cons.1 hx with e | e
   ·
    rw [e]; exact h
   ·
    exact ih x e
  ·
   intro hx; cases hx

theorem digs {tx : ByteArray} {l : List UInt8} (h : tx = ⟨(l.takeWhile digB).toArray⟩) (j : Nat) (hj : j < tx.size) : digB tx[j] = true := by
 refine takeWhile_all (l := l) _ ?_
 have : tx.data.toList = l.takeWhile digB := by rw [h]
 rw [← this]
 exact Array.getElem_mem_toList _

/-- a text as a slice of its bytes -/
theorem conv_str (s : ByteArray) (w : World) : ∃ (cap : Nat) (w' : World), (convert 9 27 (.string s)).run Tryz.prog w = .ok (.slice (some ⟨w.heap.size, 0, none⟩) s.size cap) w' ∧ Ext w w' ∧
  (∀ j (h : j < s.size), w'.cell? ⟨w.heap.size, j, none⟩ = some (.int .u8 s[j].toNat)) := by
 refine ⟨_, _, run_bytes_of_string w _ _ _ s Tryz.underlying9 Tryz.underlying27 Tryz.underlying5, (Ext.refl _).drew.alloc _, fun j hj => ?_⟩
 have hj' : j < s.data.size := hj
 have e : (bytesRow s (grownCap w s.size 0 5))[j]? = some (.int .u8 s[j].toNat) := by
  unfold bytesRow
  rw [Array.getElem?_append_left (by simpa using hj'), Array.getElem?_map, Array.getElem?_eq_getElem hj']
  rfl
 have hh := heap_alloc_new w.drew (.cells (bytesRow s (grownCap w s.size 0 5)) 5 ((bytesRow s (grownCap w s.size 0 5)).size, (bytesRow s (grownCap w s.size 0 5)).size + 1))
 have hs : w.drew.heap.size = w.heap.size := rfl
 rw [hs] at hh
 simp only [World.cell?, hh]
 exact e

set_option maxRecDepth 100000 in
set_option maxHeartbeats 1000000 in
theorem number_any (g : Nat) (s : ByteArray) (k b : Nat) (w : World) (hC : ClsAt w) (h : CurAt w g s k b) (hk : k ≤ s.size) (hs : s.size ≤ 4000) :
  Calls Tryz.prog 77 #[.pointer (some ⟨g, 0, none⟩)] w (TokOut s g b w (numberR s k)) := by
 have hgl := World.block_lt_of_cell? w _ h.c0
 simp only at hgl
 have hne : w.heap.size ≠ g := by omega
 cases hm : headIs s k 45 with
 | true =>
  have hks : k < s.size := by
   rcases Nat.lt_or_ge k s.size with h' | h'
   ·
    exact h'
   ·
    rw [headIs_end h'] at hm; cases hm
  obtain ⟨m, hmm⟩ : ∃ m, m = k + 1 := ⟨_, rfl⟩
  have hmk : m ≤ s.size := by omega
  have HM := Lib.hid hm
  have HK : Hid (numK s k = m) := Lib.hid (by unfold numK; rw [hm, hmm]; rfl)
  have KS := Lib.hid (sees_any' 45 g s k b true (w.alloc (.cells #[.int .i64 0, .string ⟨#[]⟩, .int .i64 0, .int .i64 0] 54)) (h.ext ((Ext.refl _).alloc _)) hs hm)
  have hw1 : IntKind.i64.wrap ((k : Int) + 1) = (m : Int) := by rw [IntKind.wrap_i64]; omega
  clear hm hmm
  go_enter Tryz.func77, Tryz.ntmps77
  go_wp2_with fail
  refine KS.out.mono ?_
  rintro e w1 ⟨rfl, n1, rfl⟩
  have hcn : CurAt ((w.alloc (.cells #[.int .i64 0, .string ⟨#[]⟩, .int .i64 0, .int .i64 0] 54)).drewN n1) g s k b := h.ext (((Ext.refl _).alloc _).drewN _)
  have HT := Lib.hid (hcn.to m)
  have c1 := hcn.c1
  have f1 := hcn.f1
  obtain ⟨wm, hwm⟩ : ∃ wm, wm = ((w.alloc (.cells #[.int .i64 0, .string ⟨#[]⟩, .int .i64 0, .int .i64 0] 54)).drewN n1).setCell ⟨g, 1, none⟩ (.int .i64 m) := ⟨_, rfl⟩
  have hxm : Chg (· = g) w wm := by rw [hwm]; exact Chg.set (F := (· = g)) (Chg.of_ext (((Ext.refl w).alloc _).drewN n1)) rfl _
  have HBm : Hid (Box4 wm w.heap.size (.int .i64 0) (.string ⟨#[]⟩) (.int .i64 0) (.int .i64 0)) := Lib.hid (by
   rw [hwm]
   exact ((Box4.new w (.int .i64 0) (.string ⟨#[]⟩) (.int .i64 0) (.int .i64 0) 54).ext ((Ext.refl _).drewN n1)).same (Below.heap_setCell _ _ _ _ hne))
  have HTm : Hid (CurAt wm g s m b) := Lib.hid (by rw [hwm]; exact HT.out)
  have HCm := Lib.hid (hC.chg hxm h.ne)
  have HWM := Lib.hid hwm
  clear hwm hcn HT
  go_wp2_with fail
  rw [← HWM.out]
  clear HWM c1 f1
  refine (skip_tx 3 digB rfl g s m b _ (by omega) HCm.out HTm.out hmk hs).mono ?_
  rintro e w1 ⟨tx, rfl, HX, hsz, h1, hx1⟩
  obtain ⟨cap, w2, hrun, hx2, hcells⟩ := conv_str tx w1
  have hsz4 : tx.size ≤ 4000 := by have := runN_le digB hmk; omega
  have H1 := Lib.hid h1
  have HC := Lib.hid hcells
  have hx02 := Lib.hid ((hxm.trans hx1).trans (Chg.of_ext hx2))
  have HB := Lib.hid ((HBm.out.chg hx1 hne).ext hx2)
  clear h1 hcells hx1
  go_wp2_with fail
  have HD : Hid (∀ j (h : j < tx.size), digB tx[j] = true) := Lib.hid (fun j hj => digs HX.out j hj)
  have HE : Hid (lft tx 0 = (lft s m).takeWhile digB) := Lib.hid (by rw [HX.out]; rfl)
  go_loopw [5, 21] (fun v i wr => ∃ n j : Nat, j ≤ tx.size ∧ v = .int .i64 n ∧ i = .int .i64 j ∧ n ≤ 1073741824 ∧ Hid (numL n (lft tx j) = numL 0 (lft tx 0)) ∧ wr = w2) (fun _ i _ => tx.size - (intOf i).toNat)
  case atStart => exact ⟨0, 0, by omega, rfl, rfl, by omega, Lib.hid rfl, rfl⟩
  case round =>
   obtain ⟨n, j, hj, rfl, rfl, hn, HN, rfl⟩ := hrel
   by_cases hlt : j < tx.size
   ·
    have hc := HC.out j hlt
    have hd := digB_range (HD.out j hlt)
    have hl : decide ((j : Int) < (runN digB s m : Int)) = true := decide_eq_true (by omega)
    have j0 : (0 : Int) ≤ (j : Int) := Int.natCast_nonneg _
    have j1 : (j : Int) < (runN digB s m : Int) := by omega
    have hw1 : IntKind.u8.wrap ((tx[j].toNat : Int) - 48) = ((tx[j].toNat - 48 : Nat) : Int) := by rw [IntKind.wrap_u8]; omega
    obtain ⟨b0, b1, b2, b3, f0, f1, f2, f3⟩ := HB.out
    have hlc := Lib.hid (lft_cons tx j hlt)
    by_cases hov : 1073741824 < n * 10 + (tx[j].toNat - 48)
    ·
     have HR : Hid (numberR s k = .inl 2) := Lib.hid (by
      have := numL_bad (r := lft tx (j + 1)) hov
      rw [← hlc.out, HN.out, HE.out] at this
      unfold numberR; rw [HK.out, if_neg (by omega)])
     have hov' : decide ((1073741824 : Int) < (n : Int) * 10 + ((tx[j].toNat - 48 : Nat) : Int)) = true := decide_eq_true (by omega)
     clear hlc HN
     go_wp2_with fail
     refine bodyPost_ret (v := .tuple #[tok0.val, .int .i64 2]) (by simp [results, Tryz.results77, go_sem, *]) rfl ?_
     exact out_bad HR.out hx02.out
    ·
     have hov' : decide ((1073741824 : Int) < (n : Int) * 10 + ((tx[j].toNat - 48 : Nat) : Int)) = false := decide_eq_false (by omega)
     have NX : Hid (numL (n * 10 + (tx[j].toNat - 48)) (lft tx (j + 1)) = numL 0 (lft tx 0)) := Lib.hid (by rw [← HN.out, hlc.out, numL_go (by omega)])
     clear hlc HN
     go_wp2_with fail
     go_roundw
     case rel => exact ⟨n * 10 + (tx[j].toNat - 48), j + 1, by omega, by rw [Int.natCast_add, Int.natCast_mul]; rfl, by go_num, by omega, NX, trivial⟩
     case measure => simp [intOf]; omega
   ·
    obtain ⟨b0, b1, b2, b3, f0, f1, f2, f3⟩ := HB.out
    have hl : decide ((j : Int) < (runN digB s m : Int)) = false := decide_eq_false (by omega)
    have HR : Hid (numberR s k = .inr (⟨3, ⟨#[]⟩, -((n : Nat) : Int), 0⟩, m + runN digB s m)) := Lib.hid (by
     have h0 := HN.out
     rw [show lft tx j = [] from List.drop_eq_nil_of_le (by simpa using hlt), numL_nil, HE.out] at h0
     unfold numberR
     rw [HK.out, ← h0, if_pos hn, HM.out]
     simp)
    have H2 := Lib.hid (H1.out.ext hx2)
    clear HN
    go_wp2_with fail
    refine bodyPost_ret (v := .tuple #[Tok.val ⟨3, ⟨#[]⟩, -(n : Int), 0⟩, .int .i64 0]) (by simp [results, Tryz.results77, go_sem, *]) rfl ?_
    exact out_ok HR.out hx02.out H2.out hgl
 | false =>
  have HM := Lib.hid hm
  have HK : Hid (numK s k = k) := Lib.hid (by unfold numK; rw [hm]; rfl)
  have KS := Lib.hid (sees_any' 45 g s k b false (w.alloc (.cells #[.int .i64 0, .string ⟨#[]⟩, .int .i64 0, .int .i64 0] 54)) (h.ext ((Ext.refl _).alloc _)) hs hm)
  clear hm
  go_enter Tryz.func77, Tryz.ntmps77
  go_wp2_with fail
  refine KS.out.mono ?_
  rintro e w1 ⟨rfl, n1, rfl⟩
  go_wp2_with fail
  refine (skip_tx 3 digB rfl g s k b _ (by omega) (hC.ext (((Ext.refl _).alloc _).drewN _)) (h.ext (((Ext.refl _).alloc _).drewN _)) hk hs).mono ?_
  rintro e w1 ⟨tx, rfl, HX, hsz, h1, hx1⟩
  obtain ⟨cap, w2, hrun, hx2, hcells⟩ := conv_str tx w1
  have hsz4 : tx.size ≤ 4000 := by have := runN_le digB hk; omega
  have H1 := Lib.hid h1
  have HC := Lib.hid hcells
  have hx02 := Lib.hid (((Chg.of_ext (((Ext.refl w).alloc _).drewN n1)).trans hx1).trans (Chg.of_ext hx2))
  have HB := Lib.hid (((((Box4.new w (.int .i64 0) (.string ⟨#[]⟩) (.int .i64 0) (.int .i64 0) 54).ext ((Ext.refl _).drewN n1)).chg hx1 hne)).ext hx2)
  clear h1 hcells hx1
  go_wp2_with fail
  have HD : Hid (∀ j (h : j < tx.size), digB tx[j] = true) := Lib.hid (fun j hj => digs HX.out j hj)
  have HE : Hid (lft tx 0 = (lft s k).takeWhile digB) := Lib.hid (by rw [HX.out]; rfl)
  go_loopw [5, 21] (fun v i wr => ∃ n j : Nat, j ≤ tx.size ∧ v = .int .i64 n ∧ i = .int .i64 j ∧ n ≤ 1073741824 ∧ Hid (numL n (lft tx j) = numL 0 (lft tx 0)) ∧ wr = w2) (fun _ i _ => tx.size - (intOf i).toNat)
  case atStart => exact ⟨0, 0, by omega, rfl, rfl, by omega, Lib.hid rfl, rfl⟩
  case round =>
   obtain ⟨n, j, hj, rfl, rfl, hn, HN, rfl⟩ := hrel
   by_cases hlt : j < tx.size
   ·
    have hc := HC.out j hlt
    have hd := digB_range (HD.out j hlt)
    have hl : decide ((j : Int) < (runN digB s k : Int)) = true := decide_eq_true (by omega)
    have j0 : (0 : Int) ≤ (j : Int) := Int.natCast_nonneg _
    have j1 : (j : Int) < (runN digB s k : Int) := by omega
    have hw1 : IntKind.u8.wrap ((tx[j].toNat : Int) - 48) = ((tx[j].toNat - 48 : Nat) : Int) := by rw [IntKind.wrap_u8]; omega
    obtain ⟨b0, b1, b2, b3, f0, f1, f2, f3⟩ := HB.out
    have hlc := Lib.hid (lft_cons tx j hlt)
    by_cases hov : 1073741824 < n * 10 + (tx[j].toNat - 48)
    ·
     have HR : Hid (numberR s k = .inl 2) := Lib.hid (by
      have := numL_bad (r := lft tx (j + 1)) hov
      rw [← hlc.out, HN.out, HE.out] at this
      unfold numberR; rw [HK.out, if_neg (by omega)])
     have hov' : decide ((1073741824 : Int) < (n : Int) * 10 + ((tx[j].toNat - 48 : Nat) : Int)) = true := decide_eq_true (by omega)
     clear hlc HN
     go_wp2_with fail
     refine bodyPost_ret (v := .tuple #[tok0.val, .int .i64 2]) (by simp [results, Tryz.results77, go_sem, *]) rfl ?_
     exact out_bad HR.out hx02.out
    ·
     have hov' : decide ((1073741824 : Int) < (n : Int) * 10 + ((tx[j].toNat - 48 : Nat) : Int)) = false := decide_eq_false (by omega)
     have NX : Hid (numL (n * 10 + (tx[j].toNat - 48)) (lft tx (j + 1)) = numL 0 (lft tx 0)) := Lib.hid (by rw [← HN.out, hlc.out, numL_go (by omega)])
     clear hlc HN
     go_wp2_with fail
     go_roundw
     case rel => exact ⟨n * 10 + (tx[j].toNat - 48), j + 1, by omega, by rw [Int.natCast_add, Int.natCast_mul]; rfl, by go_num, by omega, NX, trivial⟩
     case measure => simp [intOf]; omega
   ·
    obtain ⟨b0, b1, b2, b3, f0, f1, f2, f3⟩ := HB.out
    have hl : decide ((j : Int) < (runN digB s k : Int)) = false := decide_eq_false (by omega)
    have HR : Hid (numberR s k = .inr (⟨3, ⟨#[]⟩, ((n : Nat) : Int), 0⟩, k + runN digB s k)) := Lib.hid (by
     have h0 := HN.out
     rw [show lft tx j = [] from List.drop_eq_nil_of_le (by simpa using hlt), numL_nil, HE.out] at h0
     unfold numberR
     rw [HK.out, ← h0, if_pos hn, HM.out]
     simp)
    have H2 := Lib.hid (H1.out.ext hx2)
    clear HN
    go_wp2_with fail
    refine bodyPost_ret (v := .tuple #[Tok.val ⟨3, ⟨#[]⟩, (n : Int), 0⟩, .int .i64 0]) (by simp [results, Tryz.results77, go_sem, *]) rfl ?_
    exact out_ok HR.out hx02.out H2.out hgl
end Go.Proofs.YtbjghkmjnhmlfaaGreatDoor

/- Package lex: marks. -/
namespace Go.Proofs.YtbjghkmjnhmlfaaGreatDoor
open Go.RowKit

/-- a mark's value -/
def mkA (l : List UInt8) : Int := ((l.getD 0 0).toNat : Nat)
def mkB (l : List UInt8) : Int := ((l.getD 1 0).toNat : Nat)
def mkV (l : List UInt8) : Value := .agg #[.int .u8 (l.length : Nat), .int .u8 (mkA l), .int .u8 (mkB l)]

theorem two_of (s : ByteArray) (hs : s.size ≤ 2) : s = ⟨#[]⟩ ∨ (∃ a, s = ⟨#[a]⟩) ∨ ∃ a b, s = ⟨#[a, b]⟩ := by
 obtain ⟨⟨l⟩⟩ := s
 match l, hs with
 | [], _ => exact .inl rfl
 | [a], _ => exact .inr (.inl ⟨a, rfl⟩)
 | [a, b], _ => exact .inr (.inr ⟨a, b, rfl⟩)
 | _ :: _ :: _ :: _, h => simp [ByteArray.size] at h

theorem copy_text (s : ByteArray) (g : Nat) (w : World) (hs : s.size ≤ 2) (hc : ∀ j, j < 2 → (w.cell? ⟨g, 1 + j, none⟩).isSome = true) (hf : ∀ j, j < 2 → w.frozen? ⟨g, 1 + j, none⟩ = false) :
  (Builtin.copy_ #[27, 9] 3 #[.slice (some ⟨g, 1, none⟩) 2 2, .string s]).run Tryz.prog w = .ok (goInt s.size) (w.setCells g 1 (s.data.toList.map fun x => Value.int .u8 (x.toNat : Int))) :=
 run_copy_string w 27 9 3 5 g 1 2 2 s Tryz.underlying27 Tryz.sizeOf5 hs (fun j hj => hc j (by omega)) (fun j hj => hf j (by omega))

abbrev mk0 : Obj := .cells #[.int .u8 0, .int .u8 0, .int .u8 0] 136
abbrev mkN (n : Int) : Obj := .cells #[.int .u8 n, .int .u8 0, .int .u8 0] 136
theorem copy_in (s : ByteArray) (n : Int) (w : World) (hs : s.size ≤ 2) :
  (Builtin.copy_ #[27, 9] 3 #[.slice (some ⟨w.heap.size + 1, 1, none⟩) 2 2, .string s]).run Tryz.prog ((w.alloc mk0).alloc (mkN n)) =
   .ok (goInt s.size) (((w.alloc mk0).alloc (mkN n)).setCells (w.heap.size + 1) 1 (s.data.toList.map fun x => Value.int .u8 (x.toNat : Int))) :=
 copy_text s (w.heap.size + 1) _ hs
  (fun j hj => by
   have : j = 0 ∨ j = 1 := by omega
   rcases this with rfl | rfl <;> go_simp)
  (fun j hj => by
   have : j = 0 ∨ j = 1 := by omega
   rcases this with rfl | rfl <;> go_simp)

set_option maxHeartbeats 1000000 in
theorem markOf_any (s : ByteArray) (w : World) (hs : s.size ≤ 2) :
  Calls Tryz.prog 71 #[.string s] w fun e w' => e = .returned (mkV s.data.toList) ∧ Ext w w' := by
 rcases two_of s hs with rfl | ⟨a, rfl⟩ | ⟨a, b, rfl⟩
 ·
  have hcp : (Builtin.copy_ #[27, 9] 3 #[.slice (some ⟨w.heap.size + 1, 1, none⟩) 2 2, .string ⟨#[]⟩]).run Tryz.prog ((w.alloc mk0).alloc (mkN 0)) = .ok (.int .i64 0) ((w.alloc mk0).alloc (mkN 0)) := copy_in ⟨#[]⟩ 0 w hs
  go_enter Tryz.func71, Tryz.ntmps71
  go_wp2_with fail
  refine bodyPost_ret (v := mkV []) (by simp [results, Tryz.results71, go_sem, *]; rfl) rfl ⟨rfl, ((Ext.refl w).alloc _).alloc _⟩
 ·
  have hcp : (Builtin.copy_ #[27, 9] 3 #[.slice (some ⟨w.heap.size + 1, 1, none⟩) 2 2, .string ⟨#[a]⟩]).run Tryz.prog ((w.alloc mk0).alloc (mkN 1)) = .ok (.int .i64 1) (((w.alloc mk0).alloc (mkN 1)).setCell ⟨w.heap.size + 1, 1, none⟩ (.int .u8 a.toNat)) := copy_in ⟨#[a]⟩ 1 w hs
  go_enter Tryz.func71, Tryz.ntmps71
  go_wp2_with fail
  refine bodyPost_ret (v := mkV [a]) (by simp [results, Tryz.results71, go_sem, *]; rfl) rfl ⟨rfl, ((Ext.refl w).alloc _).alloc _⟩
 ·
  have hcp : (Builtin.copy_ #[27, 9] 3 #[.slice (some ⟨w.heap.size + 1, 1, none⟩) 2 2, .string ⟨#[a, b]⟩]).run Tryz.prog ((w.alloc mk0).alloc (mkN 2)) =
   .ok (.int .i64 2) ((((w.alloc mk0).alloc (mkN 2)).setCell ⟨w.heap.size + 1, 1, none⟩ (.int .u8 a.toNat)).setCell ⟨w.heap.size + 1, 2, none⟩ (.int .u8 b.toNat)) := copy_in ⟨#[a, b]⟩ 2 w hs
  go_enter Tryz.func71, Tryz.ntmps71
  go_wp2_with fail
  refine bodyPost_ret (v := mkV [a, b]) (by simp [results, Tryz.results71, go_sem, *]; rfl) rfl ⟨rfl, ((Ext.refl w).alloc _).alloc _⟩

/-- string(m.text[:m.size]) -/
theorem conv_bytes (l : List UInt8) (g o cap : Nat) (w : World) (hc : ∀ j (h : j < l.length), w.cell? ⟨g, o + j, none⟩ = some (.int .u8 (l[j].toNat : Nat))) :
  (convert 27 9 (.slice (some ⟨g, o, none⟩) l.length cap)).run Tryz.prog w = .ok (.string ⟨l.toArray⟩) w := by
 refine run_convert_bytes_back w _ _ _ _ cap l Tryz.underlying27 Tryz.underlying5 Tryz.underlying9 fun j hj => ?_
 have := hc j hj
 by_cases h0 : j = 0
 ·
  subst h0; simpa [Addr.add] using this
 ·
  simpa [Addr.add, h0] using this

set_option maxHeartbeats 1000000 in
theorem String_1 (a : UInt8) (w : World) :
  Calls Tryz.prog 94 #[.agg #[.int .u8 1, .int .u8 (a.toNat : Nat), .int .u8 0]] w fun e w' => e = .returned (.string ⟨#[a]⟩) ∧ Ext w w' := by
 have hcv := conv_bytes [a] w.heap.size 1 2 (w.alloc (.cells #[.int .u8 1, .int .u8 (a.toNat : Nat), .int .u8 0] 136)) (fun j hj => by
  have : j = 0 := by simpa using hj
  subst this; go_simp)
 simp only [List.length_cons, List.length_nil, Nat.zero_add] at hcv
 go_enter Tryz.func94, Tryz.ntmps94
 go_wp2_with fail
 go_ret
 exact ⟨rfl, (Ext.refl w).alloc _⟩
set_option maxHeartbeats 1000000 in
theorem String_2 (a b : UInt8) (w : World) :
  Calls Tryz.prog 94 #[.agg #[.int .u8 2, .int .u8 (a.toNat : Nat), .int .u8 (b.toNat : Nat)]] w fun e w' => e = .returned (.string ⟨#[a, b]⟩) ∧ Ext w w' := by
 have hcv := conv_bytes [a, b] w.heap.size 1 2 (w.alloc (.cells #[.int .u8 2, .int .u8 (a.toNat : Nat), .int .u8 (b.toNat : Nat)] 136)) (fun j hj => by
  have : j = 0 ∨ j = 1 := by have : j < 2 := hj; omega
  rcases this with rfl | rfl
  ·
   have e : ([a, b] : List UInt8)[0] = a := rfl
   rw [e]; go_simp
  ·
   have e : ([a, b] : List UInt8)[1] = b := rfl
   rw [e]; go_simp)
 simp only [List.length_cons, List.length_nil, Nat.zero_add] at hcv
 go_enter Tryz.func94, Tryz.ntmps94
 go_wp2_with fail
 go_ret
 exact ⟨rfl, (Ext.refl w).alloc _⟩
theorem String_any (l : List UInt8) (w : World) (h1 : 1 ≤ l.length) (hl : l.length ≤ 2) :
  Calls Tryz.prog 94 #[mkV l] w fun e w' => e = .returned (.string ⟨l.toArray⟩) ∧ Ext w w' := by
 match l, h1, hl with
 | [a], _, _ => exact String_1 a w
 | [a, b], _, _ => exact String_2 a b w
end Go.Proofs.YtbjghkmjnhmlfaaGreatDoor

/- Package lex: marks as keys of a map; marks. -/
namespace Go.Proofs.YtbjghkmjnhmlfaaGreatDoor
open Go.RowKit Go.Maps

theorem laidOutK : laidOutB Tryz.prog = true := by kernel_rfl
theorem lawMk : WideMaps.KeyLaw Tryz.prog 136 := deep_law_laid laidOutK (m := 4) (by omega) (of_decide_eq_true (by kernel_rfl)) (by kernel_rfl) (by kernel_rfl)
theorem keyedMk : Keyed Tryz.prog 136 := Keyed.of_law lawMk
theorem cellsMk : Tryz.prog.cellsOf 136 = 3 := by kernel_rfl
theorem cells2 : Tryz.prog.cellsOf 134 = 2 := by kernel_rfl
theorem cellsU8 : Tryz.prog.cellsOf 5 = 1 := by kernel_rfl
theorem keyTypeMk : Tryz.prog.keyType 136 = true := by kernel_rfl
theorem types3 : ∃ m, Tryz.prog.types.size = m + 3 := ⟨Tryz.prog.types.size - 3, by have : 3 ≤ Tryz.prog.types.size := of_decide_eq_true (by kernel_rfl); omega⟩
theorem wf8 {n : Int} (h0 : 0 ≤ n) (h1 : n ≤ 255) : (Lit.int .u8 n).wf = true := by
 have e1 : IntKind.u8.min = 0 := by decide
 have e2 : IntKind.u8.max = 255 := by decide
 simp only [Lit.wf, e1, e2, Bool.and_eq_true, decide_eq_true_eq]
 omega
theorem mkA_wf (l : List UInt8) : (Lit.int .u8 (mkA l)).wf = true := wf8 (Int.natCast_nonneg _) (by have := (l.getD 0 0).toNat_lt; unfold mkA; omega)
theorem mkB_wf (l : List UInt8) : (Lit.int .u8 (mkB l)).wf = true := wf8 (Int.natCast_nonneg _) (by have := (l.getD 1 0).toNat_lt; unfold mkB; omega)

/-- a mark's key, as a literal -/
def mkL (l : List UInt8) : Lit := .string (keyBytes [.int .u8 (l.length : Nat), .int .u8 (mkA l), .int .u8 (mkB l)])
theorem key_mk {l : List UInt8} (hl : l.length ≤ 2) : keyOf Tryz.prog 136 (mkV l) = some (mkL l) := by
 obtain ⟨m, hm⟩ := types3
 have w0 : (Lit.int .u8 ((l.length : Nat) : Int)).wf = true := wf8 (Int.natCast_nonneg _) (by omega)
 have wA := mkA_wf l
 have wB := mkB_wf l
 unfold keyOf
 simp only [Tryz.underlying136]
 rw [if_pos (by simp [mkV, keyTypeMk, Value.formed, Tryz.underlying136, cellsMk]), hm]
 simp [mkV, Program.keyLits, Tryz.underlying136, Tryz.underlying134, Tryz.underlying5, cellsMk, cells2, cellsU8, Value.cells, w0, wA, wB, show List.range 2 = [0, 1] from rfl, mkL]
theorem mkV_inj {l m : List UInt8} (hl : l.length ≤ 2) (hm : m.length ≤ 2) (h : mkV l = mkV m) : l = m := by
 unfold mkV mkA mkB at h
 simp only [Value.agg.injEq, Array.mk.injEq, List.cons.injEq, Value.int.injEq, true_and, and_true] at h
 obtain ⟨h0, h1, h2⟩ := h
 have e0 : l.length = m.length := by omega
 have e1 := UInt8.toNat_inj.1 (Int.ofNat.inj h1)
 have e2 := UInt8.toNat_inj.1 (Int.ofNat.inj h2)
 match l, m, hl, hm, e0, e1, e2 with
 | [], [], _, _, _, _, _ => rfl
 | [a], [b], _, _, _, e1, _ => simp only [List.getD_cons_zero] at e1; rw [e1]
 | [a, a'], [b, b'], _, _, _, e1, e2 => simp only [List.getD_cons_zero, List.getD_cons_succ] at e1 e2; rw [e1, e2]
theorem mkL_inj {l m : List UInt8} (hl : l.length ≤ 2) (hm : m.length ≤ 2) (h : mkL l = mkL m) : l = m := mkV_inj hl hm (lawMk.inj (key_mk hl) (h ▸ key_mk hm))

/-- block b is a map that has just these marks -/
def MkSet (w : World) (b : Nat) (L : List (List UInt8)) : Prop := ∃ D : DataW Unit, w.ownsMap Tryz.prog 136 unitElem b L.length D ∧ ∀ l, l.length ≤ 2 → (has D (mkL l) = true ↔ l ∈ L)
theorem MkSet.lt {w : World} {b : Nat} {L : List (List UInt8)} (h : MkSet w b L) : b < w.heap.size := by obtain ⟨D, h, _⟩ := h; exact h.lt
theorem MkSet.keep {w w' : World} {b : Nat} {L : List (List UInt8)} (h : MkSet w b L) (e : w'.heap[b]? = w.heap[b]?) : MkSet w' b L := by
 obtain ⟨D, ⟨es, clock, hb, F, hs, hD⟩, h2⟩ := h
 exact ⟨D, ⟨es, clock, e.trans hb, F, hs, hD⟩, h2⟩
theorem MkSet.ext {w w' : World} {b : Nat} {L : List (List UInt8)} (h : MkSet w b L) (k : Ext w w') : MkSet w' b L := h.keep (k.block b h.lt)
theorem MkSet.made (w : World) : MkSet (w.alloc (.map #[] 0)) w.heap.size [] := ⟨_, World.ownsMap_made w _ _ _, fun l _ => by simp [has]⟩
theorem MkSet.put {w : World} {b : Nat} {L : List (List UInt8)} {D : DataW Unit} {m : List UInt8} (hl : m.length ≤ 2) (hm : IsMap D)
  (h : ∀ l, l.length ≤ 2 → (has D (mkL l) = true ↔ l ∈ L)) (hown : w.ownsMap Tryz.prog 136 unitElem b (L.length + 1) (D.put (mkL m) (.agg []))) : MkSet w b (L ++ [m]) := by
 refine ⟨_, by simpa using hown, fun l hl' => ?_⟩
 by_cases e : l = m
 ·
  rw [e, has_put_same hm (lawMk.str (key_mk hl) |>.elim fun _ e => by rw [show mkL m = _ from e]; trivial)]
  simp
 ·
  rw [has_put_other (fun x => e (mkL_inj hl' hl x)), h l hl']
  simp [e]
theorem Chg.of_grown {w w' : World} {b : Nat} (h : w.grownBy w' (some b)) : Chg (· = b) w w' := ⟨h.os, h.tape, h.output, h.size, fun i hi hne => h.block i hi (fun e => hne (by injection e))⟩
theorem MkSet.noCell {w : World} {b : Nat} {L : List (List UInt8)} (h : MkSet w b L) {p : Addr} {v : Value} (hc : w.cell? p = some v) : p.block ≠ b := by
 intro e
 obtain ⟨D, ⟨es, clock, hb, _⟩, _⟩ := h
 obtain ⟨bl, o, s⟩ := p
 simp only at e
 subst e
 simp [World.cell?, hb] at hc

/-- the marks, as they are laid -/
def mksL : List (List UInt8) := [[40], [41], [44], [46], [59], [58, 45], [60, 45], [61, 60], [60], [61], [92, 61], [38], [124], [64], [92, 43]]

theorem run_makeMap0 {P : Program} (t : TypeId) (w : World) : (Instr.makeMap t none).run P w = .ok (.map (some w.heap.size)) (w.alloc (.map #[] 0)) := by
 simp [Instr.makeMap, Result.andThen]

set_option maxRecDepth 100000 in
set_option maxHeartbeats 1000000 in
theorem marks_any (w : World) : Calls Tryz.prog 46 #[] w fun e w' => ∃ b, e = .returned (.map (some b)) ∧ MkSet w' b mksL ∧ w.heap.size ≤ b ∧ Ext w w' := by
 have hmm := fun u => run_makeMap0 (P := Tryz.prog) 104 u
 go_enter Tryz.func46, Tryz.ntmps46
 go_wp2_with fail
 clear hmm
 obtain ⟨w2, hw2⟩ : ∃ w2, w2 = (w.alloc (.map #[] 0)).alloc (.cells #[.string ⟨#[40]⟩, .string ⟨#[41]⟩, .string ⟨#[44]⟩, .string ⟨#[46]⟩, .string ⟨#[59]⟩, .string ⟨#[58, 45]⟩, .string ⟨#[60, 45]⟩, .string ⟨#[61, 60]⟩, .string ⟨#[60]⟩, .string ⟨#[61]⟩, .string ⟨#[92, 61]⟩, .string ⟨#[38]⟩, .string ⟨#[124]⟩, .string ⟨#[64]⟩, .string ⟨#[92, 43]⟩] 9) := ⟨_, rfl⟩
 rw [← hw2]
 have HC : Hid (∀ k (h : k < 15), w2.cell? ⟨w.heap.size + 1, k, none⟩ = some (.string ⟨(mksL[k]'h).toArray⟩)) := Lib.hid (fun k hk => by
  have : k = 0 ∨ k = 1 ∨ k = 2 ∨ k = 3 ∨ k = 4 ∨ k = 5 ∨ k = 6 ∨ k = 7 ∨ k = 8 ∨ k = 9 ∨ k = 10 ∨ k = 11 ∨ k = 12 ∨ k = 13 ∨ k = 14 := by omega
  rw [hw2]
  rcases this with rfl | rfl | rfl | rfl | rfl | rfl | rfl | rfl | rfl | rfl | rfl | rfl | rfl | rfl | rfl <;> simp [mksL])
 have hx2 : Ext w w2 := by rw [hw2]; exact ((Ext.refl w).alloc _).alloc _
 have hM : MkSet w2 w.heap.size [] := by rw [hw2]; exact (MkSet.made w).ext ((Ext.refl _).alloc _)
 have hlt2 : w.heap.size + 1 < w2.heap.size := by rw [hw2]; simp
 clear hw2
 go_loopw [7] (fun i wr => ∃ k : Nat, k ≤ 15 ∧ i = .int .i64 k ∧ MkSet wr w.heap.size (mksL.take k) ∧ Chg (· = w.heap.size) w2 wr) (fun i _ => 15 - (intOf i).toNat)
 case atStart => exact ⟨0, by omega, rfl, hM, Chg.refl _ _⟩
 case round =>
  obtain ⟨k, hk, rfl, hS, hx⟩ := hrel
  by_cases hlt : k < 15
  ·
   have hc := hx.cell (HC.out k hlt) (by simp)
   have hl : decide ((k : Int) < 15) = true := decide_eq_true (by omega)
   have k0 : (0 : Int) ≤ (k : Int) := Int.natCast_nonneg _
   have k1 : (k : Int) < 15 := by omega
   have hm2 : (mksL[k]'hlt).length ≤ 2 := by
    have : ∀ l ∈ mksL, l.length ≤ 2 := by decide
    exact this _ (List.getElem_mem _)
   have HTK : Hid (mksL.take (k + 1) = mksL.take k ++ [mksL[k]'hlt]) := Lib.hid (List.take_succ_eq_append_getElem (show k < mksL.length from hlt))
   generalize (mksL[k]'hlt) = mk at hc hm2 HTK
   go_wp2_with fail
   refine (markOf_any ⟨mk.toArray⟩ _ (by simpa [ByteArray.size] using hm2)).mono ?_
   rintro e w3 ⟨rfl, hx3⟩
   obtain ⟨D, hown, hD⟩ := hS.ext hx3
   obtain ⟨w4, hrun, hown4, hg4⟩ := hown.update keyedMk Tryz.underlying104 (by unfold maxLen; have := List.length_take_le k mksL; omega) (key_mk hm2) unitElem_mk
   have hS4 := MkSet.put hm2 hown.isMap hD hown4
   have hx4 : Chg (· = w.heap.size) w2 w4 := (hx.trans (Chg.of_ext hx3)).trans (Chg.of_grown hg4)
   rw [← HTK.out] at hS4
   clear hown hown4 hD hg4
   go_wp2_with fail
   go_roundw
   case rel => exact ⟨k + 1, by omega, by go_num, hS4, hx4⟩
   case measure => simp [intOf]; omega
  ·
   obtain rfl : k = 15 := by omega
   have hS' : MkSet wr w.heap.size mksL := hS
   have hxx : Ext w wr := Chg.ext_of hx2 hx (fun b hb => by omega)
   clear hS
   go_wp2_with fail
   go_ret
   exact ⟨_, rfl, hS', Nat.le_refl _, hxx⟩
end Go.Proofs.YtbjghkmjnhmlfaaGreatDoor

/- Package lex: the cursor: mark. -/
namespace Go.Proofs.YtbjghkmjnhmlfaaGreatDoor
open Go.RowKit Go.Maps

/-- the longest mark of at most so many bytes that stands first; 0: none -/
def mtry (l : List UInt8) : Nat → Nat
 | 0 => 0
 | z + 1 => if l.take (z + 1) ∈ mksL then z + 1 else mtry l z
def markR (s : ByteArray) (k : Nat) : Sum Int (Tok × Nat) :=
 if mtry (lft s k) (min 2 (lft s k).length) = 0 then .inl 4
 else .inr (⟨4, ⟨((lft s k).take (mtry (lft s k) (min 2 (lft s k).length))).toArray⟩, 0, 0⟩, k + mtry (lft s k) (min 2 (lft s k).length))

theorem zeroUnit (w : World) : (zeroValue 133).run Tryz.prog w = .ok (.agg #[]) w := Tryz.zeroValue133 w
/-- is it a mark? -/
theorem MkSet.look {w : World} {b : Nat} {L : List (List UInt8)} (h : MkSet w b L) {l : List UInt8} (hl : l.length ≤ 2) :
  (Instr.lookup 104 (.map (some b)) (mkV l) true).run Tryz.prog w = .ok (.tuple #[.agg #[], .bool (decide (l ∈ L))]) w := by
 obtain ⟨D, hown, hD⟩ := h
 obtain ⟨v, ps, hrun, hv⟩ := hown.look_ok keyedMk Tryz.underlying104 (zeroUnit w) unitElem_mk (key_mk hl)
 obtain ⟨rfl, _⟩ := unitElem_inv hv
 have e : has D (mkL l) = decide (l ∈ L) := by rw [Bool.eq_iff_iff, decide_eq_true_iff]; exact hD l hl
 rw [hrun, e]

theorem markOf_ag (s : ByteArray) (w : World) (hs : s.size ≤ 2) :
  Calls Tryz.prog 71 #[.string s] w fun e w' => ∃ n x y : Int, e = .returned (.agg #[.int .u8 n, .int .u8 x, .int .u8 y]) ∧ Hid (mkV s.data.toList = .agg #[.int .u8 n, .int .u8 x, .int .u8 y]) ∧ Ext w w' :=
 (markOf_any s w hs).mono fun _ _ ⟨e, k⟩ => ⟨_, _, _, e, Lib.hid rfl, k⟩
theorem ext_list (t : ByteArray) (a b : Nat) : (t.extract a b).data.toList = (t.data.toList.drop a).take (b - a) := by
 simp [ByteArray.data_extract, Array.toList_extract, List.extract_eq_take_drop]
theorem take_data (s : ByteArray) (k z : Nat) (h : k + z ≤ s.size) : ((s.extract k s.size).extract 0 z).data.toList = (lft s k).take z ∧ ((s.extract k s.size).extract 0 z).size = z := by
 have e : ((s.extract k s.size).extract 0 z).data.toList = (lft s k).take z := by
  rw [ext_list, ext_list, List.drop_zero, Nat.sub_zero, List.take_of_length_le (l := s.data.toList.drop k)]
  have := lft_len s k
  unfold lft at this
  omega
 refine ⟨e, ?_⟩
 have h2 : ((s.extract k s.size).extract 0 z).data.toList.length = z := by rw [e, List.length_take, lft_len]; omega
 rw [Array.length_toList] at h2
 exact h2

set_option maxRecDepth 100000 in
set_option maxHeartbeats 1000000 in
theorem mark_any (g : Nat) (s : ByteArray) (k b : Nat) (w : World) (h : CurAt w g s k b) (hM : MkSet w b mksL) (hk : k ≤ s.size) (hs : s.size ≤ 4000) :
  Calls Tryz.prog 78 #[.pointer (some ⟨g, 0, none⟩)] w (TokOut s g b w (markR s k)) := by
 have hgl := World.block_lt_of_cell? w _ h.c0
 simp only at hgl
 have hne : w.heap.size ≠ g := by omega
 have c0 := h.c0
 have c1 := h.c1
 have k0 : (0 : Int) ≤ (k : Int) := Int.natCast_nonneg _
 have k1 : (k : Int) ≤ (s.size : Int) := by omega
 obtain ⟨rs, hrs⟩ : ∃ rs, rs = s.extract k s.size := ⟨_, rfl⟩
 have hrz : rs.size = s.size - k := by rw [hrs]; simp
 obtain ⟨z0, hz0⟩ : ∃ z0, z0 = min 2 (s.size - k) := ⟨_, rfl⟩
 have hmin : min (2 : Int) ((s.size - k : Nat) : Int) = (z0 : Int) := by omega
 have HTD : Hid (∀ z, z ≤ z0 → (rs.extract 0 z).data.toList = (lft s k).take z ∧ (rs.extract 0 z).size = z) := Lib.hid (fun z hz => by rw [hrs]; exact take_data s k z (by omega))
 have HZ : Hid (min 2 (lft s k).length = z0) := Lib.hid (by rw [lft_len, hz0])
 have HRS := Lib.hid hrs
 have z2 : z0 ≤ 2 := by omega
 have zr : z0 ≤ rs.size := by omega
 clear hrs hz0
 go_enter Tryz.func78, Tryz.ntmps78
 go_wp2_with fail
 go_quiet (fail)
 go_wp2_with fail
 rw [← HRS.out]
 clear hmin
 obtain ⟨w1, hw1⟩ : ∃ w1, w1 = (w.alloc (.cells #[.int .i64 0, .string ⟨#[]⟩, .int .i64 0, .int .i64 0] 54)).drewN nq := ⟨_, rfl⟩
 rw [← hw1]
 have hx1 : Ext w w1 := by rw [hw1]; exact ((Ext.refl w).alloc _).drewN _
 have HB : Hid (Box4 w1 w.heap.size (.int .i64 0) (.string ⟨#[]⟩) (.int .i64 0) (.int .i64 0)) := Lib.hid (by rw [hw1]; exact (Box4.new w (.int .i64 0) (.string ⟨#[]⟩) (.int .i64 0) (.int .i64 0) 54).ext ((Ext.refl _).drewN nq))
 have HC := Lib.hid (h.ext hx1)
 have hM1 := hM.ext hx1
 clear hw1 c0 c1
 go_loopw [5] (fun v wr => ∃ z : Nat, v = .int .i64 z ∧ z ≤ z0 ∧ Hid (mtry (lft s k) z = mtry (lft s k) z0) ∧ Ext w1 wr) (fun v _ => (intOf v).toNat)
 case atStart => exact ⟨z0, rfl, Nat.le_refl _, Lib.hid rfl, Ext.refl _⟩
 case round =>
  obtain ⟨z, rfl, hz, HT, hxr⟩ := hrel
  by_cases hpos : 0 < z
  ·
   obtain ⟨hd, hsz⟩ := HTD.out z hz
   have hl0 : decide ((0 : Int) < (z : Int)) = true := decide_eq_true (by omega)
   have zr' : (z : Int) ≤ (rs.size : Int) := by omega
   have zr0 : (0 : Int) ≤ (z : Int) := by omega
   have HD := Lib.hid hd
   clear hd
   go_wp2_with fail
   refine (markOf_ag (rs.extract 0 z) _ (by omega)).mono ?_
   rintro e w3 ⟨mn, mx, my, rfl, HV, hx3⟩
   go_upto_region 6 with (fail)
   obtain ⟨w4, hw4⟩ : ∃ w4, w4 = w3.alloc (.cells #[.int .u8 mn, .int .u8 mx, .int .u8 my] 136) := ⟨_, rfl⟩
   rw [← hw4]
   have hx14 : Ext w1 w4 := by rw [hw4]; exact (hxr.trans hx3).alloc _
   have m0 : w4.cell? ⟨w3.heap.size, 0, none⟩ = some (.int .u8 mn) := by rw [hw4]; go_simp
   have m1 : w4.cell? ⟨w3.heap.size, 1, none⟩ = some (.int .u8 mx) := by rw [hw4]; go_simp
   have m2 : w4.cell? ⟨w3.heap.size, 2, none⟩ = some (.int .u8 my) := by rw [hw4]; go_simp
   have c2 := (HC.out.ext hx14).c2
   have HM4 := Lib.hid (hM1.ext hx14)
   generalize hD : decide ((lft s k).take z ∈ mksL) = D
   have look : ∀ u, Ext w4 u → (Instr.lookup 104 (.map (some b)) (.agg #[.int .u8 mn, .int .u8 mx, .int .u8 my]) true).run Tryz.prog u = .ok (.tuple #[.agg #[], .bool D]) u := fun u hu => by
    have := (HM4.out.ext hu).look (l := (lft s k).take z) (by rw [List.length_take]; omega)
    rw [hD, ← HD.out, HV.out] at this
    exact this
   have rulesI := fun (u : World) (k : Ext w4 u) => And.intro (k.cell m0) (And.intro (k.cell m1) (And.intro (k.cell m2) (And.intro (k.cell c2) (look u k))))
   have hI0 := Ext.refl w4
   have KS : Hid (∀ u, Calls Tryz.prog 94 #[.agg #[.int .u8 mn, .int .u8 mx, .int .u8 my]] u fun e w' => e = .returned (.string ⟨((lft s k).take z).toArray⟩) ∧ Ext u w') := Lib.hid (fun u => by
    rw [← HV.out, HD.out]
    exact String_any _ u (by rw [List.length_take, lft_len]; omega) (by rw [List.length_take]; omega))
   have hsz3 : w1.heap.size ≤ w3.heap.size := by have h1 := hxr.size; have h3 := hx3.size; omega
   have hwl : w.heap.size < w1.heap.size := HB.out.lt
   have hw43 : w3.heap.size < w4.heap.size := by rw [hw4]; simp
   clear hw4 look HV HD
   go_region_held3 (fun u => Ext w4 u) (first | assumption | exact hI0.drew | exact Ext.alloc hI0.drew _ | exact (Ext.alloc hI0 _).drew) (first | fail)
   all_goals
    have hxz : Ext w4 (w4.alloc (.cells #[] 133)).drew := ((Ext.refl w4).alloc _).drew
    obtain ⟨wz, hwz⟩ : ∃ wz, wz = (w4.alloc (.cells #[] 133)).drew := ⟨_, rfl⟩
    rw [← hwz] at hxz
    rw [← hwz]
    have n0 := hxz.cell m0
    have n1 := hxz.cell m1
    have n2 := hxz.cell m2
    have HCz := Lib.hid (HC.out.ext (hx14.trans hxz))
    have HBz := Lib.hid (HB.out.ext (hx14.trans hxz))
    have hxw := hx1.trans (hx14.trans hxz)
    clear hwz m0 m1 m2 c2 rulesI hI0
    cases D with
    | false =>
     have HT2 : Hid (mtry (lft s k) (z - 1) = mtry (lft s k) z0) := Lib.hid (by
      have h1 := HT.out
      obtain ⟨y, rfl⟩ : ∃ y, z = y + 1 := ⟨z - 1, by omega⟩
      rw [mtry, if_neg (of_decide_eq_false hD)] at h1
      exact h1)
     have hw1 : IntKind.i64.wrap ((z : Int) - 1) = ((z - 1 : Nat) : Int) := by rw [IntKind.wrap_i64]; omega
     clear hD HT
     go_wp2_with fail
     go_roundw
     case rel => exact ⟨z - 1, rfl, by omega, HT2, hx14.trans hxz⟩
     case measure => simp [intOf]; omega
    | true =>
     obtain ⟨kz, hkz⟩ : ∃ kz, kz = k + z := ⟨_, rfl⟩
     have hw1 : IntKind.i64.wrap ((k : Int) + (z : Int)) = (kz : Int) := by rw [IntKind.wrap_i64]; omega
     have HR : Hid (markR s k = .inr (⟨4, ⟨((lft s k).take z).toArray⟩, 0, 0⟩, kz)) := Lib.hid (by
      have h1 := HT.out
      obtain ⟨y, rfl⟩ : ∃ y, z = y + 1 := ⟨z - 1, by omega⟩
      rw [mtry, if_pos (of_decide_eq_true hD)] at h1
      unfold markR
      rw [HZ.out, ← h1, if_neg (by omega), hkz])
     have e1 := HCz.out.c1
     have e2 := HCz.out.f1
     have hn3 : w3.heap.size ≠ g := by omega
     have hn4 : g ≠ w3.heap.size := by omega
     obtain ⟨wy, hwy⟩ : ∃ wy, wy = wz.setCell ⟨g, 1, none⟩ (.int .i64 kz) := ⟨_, rfl⟩
     have HCy : Hid (CurAt wy g s kz b) := Lib.hid (by rw [hwy]; exact HCz.out.to kz)
     have HBy : Hid (Box4 wy w.heap.size (.int .i64 0) (.string ⟨#[]⟩) (.int .i64 0) (.int .i64 0)) := Lib.hid (by rw [hwy]; exact HBz.out.same (Below.heap_setCell _ _ _ _ hne))
     have hcy : Chg (· = g) w wy := by rw [hwy]; exact Chg.set (F := (· = g)) (Chg.of_ext hxw) rfl _
     have HWY := Lib.hid hwy
     clear hwy hD HT HZ hkz
     go_wp2_with fail
     rw [← HWY.out]
     refine (KS.out _).mono ?_
     rintro e w6 ⟨rfl, hx6⟩
     obtain ⟨b0, b1, b2, b3, f0, f1, f2, f3⟩ := HBy.out.ext hx6
     have HC6 := Lib.hid (HCy.out.ext hx6)
     clear n0 n1 n2 e1 e2
     go_wp2_with fail
     refine bodyPost_ret (v := .tuple #[Tok.val ⟨4, ⟨((lft s k).take z).toArray⟩, 0, 0⟩, .int .i64 0]) (by simp [results, Tryz.results78, go_sem, *]) rfl ?_
     exact out_ok HR.out (hcy.trans (Chg.of_ext hx6)) HC6.out hgl
  ·
   obtain rfl : z = 0 := by omega
   have HR : Hid (markR s k = .inl 4) := Lib.hid (by
    have h1 := HT.out
    unfold markR
    rw [HZ.out, ← h1]
    rfl)
   obtain ⟨b0, b1, b2, b3, f0, f1, f2, f3⟩ := HB.out.ext hxr
   clear HT HZ
   go_wp2_with fail
   refine bodyPost_ret (v := .tuple #[tok0.val, .int .i64 4]) (by simp [results, Tryz.results78, go_sem, *]) rfl ?_
   exact out_bad HR.out (Chg.of_ext (hx1.trans hxr))
end Go.Proofs.YtbjghkmjnhmlfaaGreatDoor

/- Package lex: the cursor: token. -/
namespace Go.Proofs.YtbjghkmjnhmlfaaGreatDoor
open Go.RowKit Go.Maps

/-- what a call has told, its parts by themselves -/
def OutR (s : ByteArray) (g b : Nat) (r : Sum Int (Tok × Nat)) (t : Tok) (x : Int) (w' : World) : Prop := match r with
 | .inl y => t = tok0 ∧ x = y
 | .inr (t', k) => t = t' ∧ x = 0 ∧ CurAt w' g s k b
theorem TokOut.parts {s : ByteArray} {g b : Nat} {w : World} {r : Sum Int (Tok × Nat)} {e : Ending} {w' : World} (h : TokOut s g b w r e w') :
  ∃ (t : Tok) (x : Int), e = .returned (.tuple #[t.val, .int .i64 x]) ∧ Hid (OutR s g b r t x w') ∧ Chg (· = g) w w' := by
 obtain ⟨hc, h⟩ := h
 cases r with
 | inl y => exact ⟨tok0, y, h, Lib.hid ⟨rfl, rfl⟩, hc⟩
 | inr p => exact ⟨p.1, 0, h.1, Lib.hid ⟨rfl, rfl, h.2⟩, hc⟩
theorem OutR.out {s : ByteArray} {g b : Nat} {w wz : World} {r : Sum Int (Tok × Nat)} {t : Tok} {x : Int} {v0 v1 v2 v3 : Value} (h : OutR s g b r t x wz) (hc : Chg (· = g) w wz) (hg : g < w.heap.size) :
  TokOut s g b w r (.returned (.tuple #[t.val, .int .i64 x])) (set4 wz w.heap.size 0 v0 v1 v2 v3) := by
 cases r with
 | inl y => obtain ⟨rfl, rfl⟩ := h; exact out_bad rfl hc
 | inr p => obtain ⟨rfl, rfl, h⟩ := h; exact out_ok rfl hc h hg

def tokenR (s : ByteArray) (k : Nat) : Sum Int (Tok × Nat) := match lft s k with
 | [] => .inl 4
 | c :: _ => if smlB c then wordR 1 s k else if grtB c then wordR 2 s k else if digB c || minB s k then numberR s k else markR s k

theorem minus_be (g : Nat) (s : ByteArray) (k b : Nat) (r : Bool) (w : World) (hC : ClsAt w) (h : CurAt w g s k b) (hs : s.size ≤ 4000) (hr : minB s k = r) :
  Calls Tryz.prog 76 #[.pointer (some ⟨g, 0, none⟩)] w fun e w' => e = .returned (.bool r) ∧ ∃ n, w' = w.drewN n := hr ▸ minus_any g s k b w hC h hs

set_option maxRecDepth 100000 in
set_option maxHeartbeats 1000000 in
theorem token_any (g : Nat) (s : ByteArray) (k b : Nat) (w : World) (hC : ClsAt w) (h : CurAt w g s k b) (hM : MkSet w b mksL) (hk : k < s.size) (hs : s.size ≤ 4000) :
  Calls Tryz.prog 48 #[.pointer (some ⟨g, 0, none⟩)] w (TokOut s g b w (tokenR s k)) := by
 have hgl := World.block_lt_of_cell? w _ h.c0
 simp only at hgl
 have hne : w.heap.size ≠ g := by omega
 have c0 := h.c0
 have c1 := h.c1
 have k0 : (0 : Int) ≤ (k : Int) := Int.natCast_nonneg _
 have k1 : (k : Int) < (s.size : Int) := by omega
 have HR : Hid (tokenR s k = if smlB s[k] then wordR 1 s k else if grtB s[k] then wordR 2 s k else if digB s[k] || minB s k then numberR s k else markR s k) := Lib.hid (by unfold tokenR; rw [lft_cons s k hk])
 go_enter Tryz.func48, Tryz.ntmps48
 go_wp2_with fail
 go_quiet (fail)
 generalize hw1 : (w.alloc (.cells #[.int .i64 0, .string ⟨#[]⟩, .int .i64 0, .int .i64 0] 54)).drewN nq = w1
 have hx1 : Ext w w1 := by rw [← hw1]; exact ((Ext.refl w).alloc _).drewN _
 have HB : Hid (Box4 w1 w.heap.size (.int .i64 0) (.string ⟨#[]⟩) (.int .i64 0) (.int .i64 0)) := Lib.hid (by rw [← hw1]; exact (Box4.new w (.int .i64 0) (.string ⟨#[]⟩) (.int .i64 0) (.int .i64 0) 54).ext ((Ext.refl _).drewN nq))
 have HC := Lib.hid (h.ext hx1)
 have HM := Lib.hid (hM.ext hx1)
 have HK := Lib.hid (hC.ext hx1)
 have hx1' : Chg (· = g) w w1 := Chg.of_ext hx1
 clear hw1 c0 c1
 have FIN : Hid (∀ (t : Tok) (x : Int) (w2 : World) (v0 v1 v2 v3 : Value), OutR s g b (tokenR s k) t x w2 → Chg (· = g) w1 w2 → TokOut s g b w (tokenR s k) (.returned (.tuple #[t.val, .int .i64 x])) (set4 w2 w.heap.size 0 v0 v1 v2 v3)) :=
  Lib.hid (fun t x w2 _ _ _ _ h hc => h.out (hx1'.trans hc) hgl)
 cases h1 : smlB s[k] with
 | true =>
  have HE : Hid (tokenR s k = wordR 1 s k) := Lib.hid (by rw [HR.out, h1]; rfl)
  have K1 := Lib.hid (is_be 1 s[k] true w1 (by omega) HK.out h1)
  clear h1 HR
  go_wp2_with fail
  refine K1.out.mono ?_
  rintro e w2 ⟨rfl, rfl⟩
  go_wp2_with fail
  refine (lword_any 1 g s k b _ HK.out HC.out (by omega) hs).mono ?_
  rintro e w3 ho
  obtain ⟨t, x, rfl, HO, hc3⟩ := ho.parts
  obtain ⟨b0, b1, b2, b3, f0, f1, f2, f3⟩ := HB.out.chg hc3 hne
  clear ho
  go_wp2_with fail
  refine bodyPost_ret (v := .tuple #[t.val, .int .i64 x]) (by simp [results, Tryz.results48, go_sem, *]) rfl ?_
  exact FIN.out _ _ _ _ _ _ _ (by rw [HE.out]; exact HO.out) hc3
 | false =>
  have K1 := Lib.hid (is_be 1 s[k] false w1 (by omega) HK.out h1)
  have HS := Lib.hid h1
  clear h1
  go_wp2_with fail
  refine K1.out.mono ?_
  rintro e w2 ⟨rfl, rfl⟩
  go_wp2_with fail
  cases h2 : grtB s[k] with
  | true =>
   have HE : Hid (tokenR s k = wordR 2 s k) := Lib.hid (by rw [HR.out, HS.out, h2]; rfl)
   have K2 := Lib.hid (is_be 2 s[k] true w2 (by omega) HK.out h2)
   clear h2 HR
   refine K2.out.mono ?_
   rintro e w2 ⟨rfl, rfl⟩
   go_wp2_with fail
   refine (lword_any 2 g s k b _ HK.out HC.out (by omega) hs).mono ?_
   rintro e w3 ho
   obtain ⟨t, x, rfl, HO, hc3⟩ := ho.parts
   obtain ⟨b0, b1, b2, b3, f0, f1, f2, f3⟩ := HB.out.chg hc3 hne
   clear ho
   go_wp2_with fail
   refine bodyPost_ret (v := .tuple #[t.val, .int .i64 x]) (by simp [results, Tryz.results48, go_sem, *]) rfl ?_
   exact FIN.out _ _ _ _ _ _ _ (by rw [HE.out]; exact HO.out) hc3
  | false =>
   have K2 := Lib.hid (is_be 2 s[k] false w2 (by omega) HK.out h2)
   have HS2 := Lib.hid h2
   clear h2
   refine K2.out.mono ?_
   rintro e w2 ⟨rfl, rfl⟩
   go_wp2_with fail
   cases h3 : digB s[k] with
   | true =>
    have HE : Hid (tokenR s k = numberR s k) := Lib.hid (by rw [HR.out, HS.out, HS2.out, h3]; rfl)
    have K3 := Lib.hid (is_be 3 s[k] true w2 (by omega) HK.out h3)
    clear h3 HR
    refine K3.out.mono ?_
    rintro e w2 ⟨rfl, rfl⟩
    go_wp2_with fail
    refine (number_any g s k b _ HK.out HC.out (by omega) hs).mono ?_
    rintro e w3 ho
    obtain ⟨t, x, rfl, HO, hc3⟩ := ho.parts
    obtain ⟨b0, b1, b2, b3, f0, f1, f2, f3⟩ := HB.out.chg hc3 hne
    clear ho
    go_wp2_with fail
    refine bodyPost_ret (v := .tuple #[t.val, .int .i64 x]) (by simp [results, Tryz.results48, go_sem, *]) rfl ?_
    exact FIN.out _ _ _ _ _ _ _ (by rw [HE.out]; exact HO.out) hc3
   | false =>
    have K3 := Lib.hid (is_be 3 s[k] false w2 (by omega) HK.out h3)
    have HS3 := Lib.hid h3
    clear h3
    refine K3.out.mono ?_
    rintro e w2 ⟨rfl, rfl⟩
    go_wp2_with fail
    cases h4 : minB s k with
    | true =>
     have HE : Hid (tokenR s k = numberR s k) := Lib.hid (by rw [HR.out, HS.out, HS2.out, HS3.out, h4]; rfl)
     have K4 := Lib.hid (minus_be g s k b true w2 HK.out HC.out hs h4)
     clear h4 HR
     refine K4.out.mono ?_
     rintro e w4 ⟨rfl, n4, rfl⟩
     have hx4 : Ext w2 (w2.drewN n4) := (Ext.refl w2).drewN n4
     go_wp2_with fail
     refine (number_any g s k b _ (HK.out.ext hx4) (HC.out.ext hx4) (by omega) hs).mono ?_
     rintro e w3 ho
     obtain ⟨t, x, rfl, HO, hc3⟩ := ho.parts
     obtain ⟨b0, b1, b2, b3, f0, f1, f2, f3⟩ := (HB.out.ext hx4).chg hc3 hne
     clear ho
     go_wp2_with fail
     refine bodyPost_ret (v := .tuple #[t.val, .int .i64 x]) (by simp [results, Tryz.results48, go_sem, *]) rfl ?_
     exact FIN.out _ _ _ _ _ _ _ (by rw [HE.out]; exact HO.out) ((Chg.of_ext hx4).trans hc3)
    | false =>
     have HE : Hid (tokenR s k = markR s k) := Lib.hid (by rw [HR.out, HS.out, HS2.out, HS3.out, h4]; rfl)
     have K4 := Lib.hid (minus_be g s k b false w2 HK.out HC.out hs h4)
     clear h4 HR
     refine K4.out.mono ?_
     rintro e w4 ⟨rfl, n4, rfl⟩
     have hx4 : Ext w2 (w2.drewN n4) := (Ext.refl w2).drewN n4
     go_wp2_with fail
     refine (mark_any g s k b _ (HC.out.ext hx4) (HM.out.ext hx4) (by omega) hs).mono ?_
     rintro e w3 ho
     obtain ⟨t, x, rfl, HO, hc3⟩ := ho.parts
     obtain ⟨b0, b1, b2, b3, f0, f1, f2, f3⟩ := (HB.out.ext hx4).chg hc3 hne
     clear ho
     go_wp2_with fail
     refine bodyPost_ret (v := .tuple #[t.val, .int .i64 x]) (by simp [results, Tryz.results48, go_sem, *]) rfl ?_
     exact FIN.out _ _ _ _ _ _ _ (by rw [HE.out]; exact HO.out) ((Chg.of_ext hx4).trans hc3)
end Go.Proofs.YtbjghkmjnhmlfaaGreatDoor

/- Package lex: what token tells is the plain word (pure). -/
namespace Go.Proofs.YtbjghkmjnhmlfaaGreatDoor

theorem one_mem (c : UInt8) : [c] ∈ mksL ↔ [c] ∈ marks1 := by simp [mksL, marks1]
theorem two_mem (c d : UInt8) : [c, d] ∈ mksL ↔ [c, d] ∈ marks2 := by simp [mksL, marks2]
theorem mtry_eq (l : List UInt8) : mtry l (min 2 l.length) = if 2 ≤ l.length ∧ l.take 2 ∈ marks2 then 2 else if l.take 1 ∈ marks1 then 1 else 0 := by
 match l with
 | [] => simp [mtry, marks1]
 | [c] =>
  show (if [c] ∈ mksL then 1 else 0) = _
  have : ¬ (2 ≤ [c].length ∧ [c].take 2 ∈ marks2) := fun h => by have := h.1; simp at this
  rw [if_neg this]
  simp only [one_mem]
  rfl
 | c :: d :: r =>
  have e : min 2 (c :: d :: r).length = 2 := by simp only [List.length_cons]; omega
  rw [e]
  show (if [c, d] ∈ mksL then 2 else if [c] ∈ mksL then 1 else 0) = _
  simp only [one_mem, two_mem]
  have : (2 ≤ (c :: d :: r).length ∧ (c :: d :: r).take 2 ∈ marks2) ↔ [c, d] ∈ marks2 := ⟨fun h => h.2, fun h => ⟨by simp, h⟩⟩
  simp only [this]
  rfl

theorem inn_of {c : UInt8} (h : (smlB c || grtB c) = true) : innB c = true := by simp only [innB]; rw [h]; rfl
theorem lft_drop (s : ByteArray) (k n : Nat) : lft s (k + n) = (lft s k).drop n := by unfold lft; rw [List.drop_drop]

/-- the program's word is the plain one -/
def TokSame (s : ByteArray) (k : Nat) (r : Sum Int (Tok × Nat)) : Prop := match r with
 | .inl x => tokL (lft s k) = .inl x
 | .inr (t, j) => k < j ∧ j ≤ s.size ∧ tokL (lft s k) = .inr (t, lft s j)

theorem word_same (K : Int) {s : ByteArray} {k : Nat} (hk : k < s.size) (h : (smlB s[k] || grtB s[k]) = true) (hK : K = if smlB s[k] then 1 else 2) : TokSame s k (wordR K s k) := by
 have e : tokL (lft s k) = if ((lft s k).takeWhile innB).length ≤ 16 then .inr (⟨K, ⟨((lft s k).takeWhile innB).toArray⟩, 0, 0⟩, (lft s k).dropWhile innB) else .inl 2 := by
  rw [lft_cons s k hk]
  simp only [tokL]
  rw [if_pos h, hK]
 unfold wordR
 split
 ·
  rename_i h16
  refine ⟨?_, runN_le innB (by omega), by rw [e, if_pos h16, lft_run]⟩
  rw [runN_yes hk (inn_of h)]; omega
 ·
  rename_i h16
  show tokL (lft s k) = .inl 2
  rw [e, if_neg h16]
theorem number_same {s : ByteArray} {k : Nat} (hk : k < s.size) (h1 : (smlB s[k] || grtB s[k]) = false) (h : (digB s[k] || minB s k) = true) : TokSame s k (numberR s k) := by
 have hc := lft_cons s k hk
 have hm : minB s k = (s[k] == 45 && digB ((lft s (k + 1)).headD 0)) := by unfold minB; rw [hc]
 have hh : headIs s k 45 = (s[k] == 45) := headIs_in hk 45
 by_cases hd : digB s[k] = true
 ·
  have hn : (s[k] == 45) = false := by
   rw [Bool.eq_false_iff]; intro e
   rw [beq_iff_eq.1 e] at hd
   revert hd; decide
  have hK : numK s k = k := by unfold numK; rw [hh, hn]; rfl
  have e : tokL (lft s k) = if numL 0 ((lft s k).takeWhile digB) ≤ 1073741824 then .inr (⟨3, ⟨#[]⟩, (numL 0 ((lft s k).takeWhile digB) : Nat), 0⟩, (lft s k).dropWhile digB) else .inl 2 := by
   rw [hc]
   simp only [tokL]
   rw [if_neg (by rw [h1]; simp), if_pos hd]
  unfold numberR
  rw [hK]
  split
  ·
   rename_i h16
   refine ⟨by rw [runN_yes hk hd]; omega, runN_le digB (by omega), ?_⟩
   rw [e, if_pos h16, lft_run, hh, hn]
   simp
  ·
   rename_i h16
   show tokL (lft s k) = .inl 2
   rw [e, if_neg h16]
 ·
  have hd' : digB s[k] = false := by simpa using hd
  rw [hd', Bool.false_or] at h
  have h45 : (s[k] == 45) = true := by rw [hm, Bool.and_eq_true] at h; exact h.1
  have hK : numK s k = k + 1 := by unfold numK; rw [hh, h45]; rfl
  have e : tokL (lft s k) = if numL 0 ((lft s (k + 1)).takeWhile digB) ≤ 1073741824 then .inr (⟨3, ⟨#[]⟩, -((numL 0 ((lft s (k + 1)).takeWhile digB) : Nat) : Int), 0⟩, (lft s (k + 1)).dropWhile digB) else .inl 2 := by
   rw [hc]
   simp only [tokL]
   rw [if_neg (by rw [h1]; simp), if_neg hd, if_pos (by rw [← hm]; exact h)]
  unfold numberR
  rw [hK]
  split
  ·
   rename_i h16
   refine ⟨by omega, runN_le digB (by omega), ?_⟩
   rw [e, if_pos h16, lft_run, hh, h45]
   simp
  ·
   rename_i h16
   show tokL (lft s k) = .inl 2
   rw [e, if_neg h16]
theorem mark_same {s : ByteArray} {k : Nat} (hk : k < s.size) (h1 : (smlB s[k] || grtB s[k]) = false) (h2 : digB s[k] = false) (h3 : minB s k = false) : TokSame s k (markR s k) := by
 have hc := lft_cons s k hk
 have hm : minB s k = (s[k] == 45 && digB ((lft s (k + 1)).headD 0)) := by unfold minB; rw [hc]
 have hlen := lft_len s k
 have e : tokL (lft s k) = if 2 ≤ (lft s k).length ∧ (lft s k).take 2 ∈ marks2 then .inr (⟨4, ⟨((lft s k).take 2).toArray⟩, 0, 0⟩, (lft s k).drop 2) else if (lft s k).take 1 ∈ marks1 then .inr (⟨4, ⟨((lft s k).take 1).toArray⟩, 0, 0⟩, lft s (k + 1)) else .inl 4 := by
  rw [hc]
  simp only [tokL]
  rw [if_neg (by rw [h1]; simp), if_neg (by rw [h2]; simp), if_neg (by rw [← hm, h3]; simp)]
 unfold markR
 rw [mtry_eq]
 by_cases hA : 2 ≤ (lft s k).length ∧ (lft s k).take 2 ∈ marks2
 ·
  rw [if_pos hA, if_neg (by omega)]
  refine ⟨by omega, by omega, ?_⟩
  rw [e, if_pos hA, lft_drop]
 ·
  rw [if_neg hA] at e ⊢
  by_cases hB : (lft s k).take 1 ∈ marks1
  ·
   rw [if_pos hB] at e ⊢
   rw [if_neg (by omega)]
   exact ⟨by omega, by omega, e⟩
  ·
   rw [if_neg hB] at e ⊢
   exact e
theorem token_same {s : ByteArray} {k : Nat} (hk : k < s.size) : TokSame s k (tokenR s k) := by
 have hR : tokenR s k = if smlB s[k] then wordR 1 s k else if grtB s[k] then wordR 2 s k else if digB s[k] || minB s k then numberR s k else markR s k := by unfold tokenR; rw [lft_cons s k hk]
 rw [hR]
 split
 ·
  rename_i h; exact word_same 1 hk (by rw [h]; rfl) (by rw [if_pos h])
 ·
  rename_i h
  split
  ·
   rename_i h'; exact word_same 2 hk (by rw [h']; simp) (by rw [if_neg h])
  ·
   rename_i h'
   have h1 : (smlB s[k] || grtB s[k]) = false := by simp [h, h']
   split
   ·
    rename_i h2; exact number_same hk h1 h2
   ·
    rename_i h2
    simp only [Bool.or_eq_true, not_or, Bool.not_eq_true] at h2
    exact mark_same hk h1 h2.1 h2.2
end Go.Proofs.YtbjghkmjnhmlfaaGreatDoor

/- Package lex: Tokens. -/
namespace Go.Proofs.YtbjghkmjnhmlfaaGreatDoor
open Go.RowKit Go.Maps

/-- a word's four cells -/
def Tok.cells (t : Tok) : List Value := [.int .i64 t.kind, .string t.text, .int .i64 t.n, .int .i64 t.at_]
def tokCells : List Tok → List Value
 | [] => []
 | t :: r => t.cells ++ tokCells r
theorem tokCells_len : ∀ ts : List Tok, (tokCells ts).length = ts.length * 4
 | [] => rfl
 | t :: r => by rw [tokCells, List.length_append, tokCells_len r, Tok.cells, List.length_cons]; simp; omega
theorem tokCells_snoc : ∀ (ts : List Tok) (t : Tok), tokCells (ts ++ [t]) = tokCells ts ++ t.cells
 | [], t => by simp [tokCells]
 | a :: r, t => by rw [List.cons_append, tokCells, tokCells_snoc r t, tokCells, List.append_assoc]
theorem tokCells_at : ∀ (ts : List Tok) (i j : Nat) (h : i < ts.length), j < 4 → (tokCells ts)[i * 4 + j]? = ts[i].cells[j]?
 | t :: r, 0, j, _, hj => by
  rw [tokCells, List.getElem?_append_left (by simp [Tok.cells]; omega)]
  simp
 | t :: r, i + 1, j, h, hj => by
  rw [tokCells, List.getElem?_append_right (by simp [Tok.cells]; omega)]
  have e : (i + 1) * 4 + j - t.cells.length = i * 4 + j := by simp [Tok.cells]; omega
  rw [e, tokCells_at r i j (by simpa using h) hj]
  simp
theorem Tok.one (t : Tok) : ∀ u ∈ t.cells, u.oneCell' = true := by
 intro u hu
 simp only [Tok.cells, List.mem_cons, List.not_mem_nil, or_false] at hu
 rcases hu with rfl | rfl | rfl | rfl <;> rfl
theorem infoTok : (Tryz.prog.info? 54).map (fun i => (i.zero, i.size, i.bytes)) = some (some (.agg #[.int .i64 0, .string ⟨#[]⟩, .int .i64 0, .int .i64 0]), 4, 40) := by kernel_rfl

theorem Ext.lgrown {w w' : World} (h : Ext w w') : w.grownBy w' none := ⟨h.os, h.tape, h.output, h.size, fun i hi _ => h.block i hi⟩
theorem lownsRow_ext {w w' : World} {base : Nat} {e : TypeId} {size : Nat} {v : Value} {n : Nat} {xs : List Value} (h : w.ownsRow base e size v n xs) (k : Ext w w') : w'.ownsRow base e size v n xs := by
 refine h.kept k.lgrown ?_
 rcases h.2 with ⟨rfl, _⟩ | ⟨g, cap, cur, rfl, _⟩
 ·
  exact .inl rfl
 ·
  exact .inr (by simp [Value.ownBlock])
theorem ownsRow_chg {w w' : World} {base g : Nat} {e : TypeId} {size : Nat} {v : Value} {n : Nat} {xs : List Value} (h : w.ownsRow base e size v n xs) (k : Chg (· = g) w w') (hg : g < base) : w'.ownsRow base e size v n xs := by
 refine h.kept (row := some g) ⟨k.os, k.tape, k.output, k.size, fun i hi hne => k.block i hi (fun e => hne (by rw [e]))⟩ ?_
 rcases h.2 with ⟨rfl, _⟩ | ⟨b, cap, cur, rfl, hb, _⟩
 ·
  exact .inl rfl
 ·
  refine .inr ?_
  have := (h.lt b (by simp [Value.ownBlock])).1
  simp [Value.ownBlock]
  omega
theorem Chg.own {F : Nat → Prop} {w1 w w' : World} {base : Nat} {e : TypeId} {size : Nat} {v : Value} {n : Nat} {xs : List Value} (k : Chg F w1 w) (h : w.ownsRow base e size v n xs) (hb : w1.heap.size ≤ base) (g : w.grownBy w' v.ownBlock) : Chg F w1 w' :=
 ⟨g.os.trans k.os, g.tape.trans k.tape, g.output.trans k.output, Nat.le_trans k.size g.size, fun i hi hf => (g.block i (Nat.lt_of_lt_of_le hi k.size) (fun e => by have := (h.lt i e.symm).1; omega)).trans (k.block i hi hf)⟩

theorem Ext.lown {w1 w w' : World} {base : Nat} {e : TypeId} {size : Nat} {v : Value} {n : Nat} {xs : List Value} (k : Ext w1 w) (h : w.ownsRow base e size v n xs) (hb : w1.heap.size ≤ base) (g : w.grownBy w' v.ownBlock) : Ext w1 w' :=
 Below.grown k g k.size (fun i hi => Nat.le_trans hb (h.lt i hi).1)

/-- what is told, with what was told ahead of it -/
def joinT (ts : List Tok) (r : Sum (Int × Int) (List Tok)) : Sum (Int × Int) (List Tok) := match r with
 | .inl e => .inl e
 | .inr l => .inr (ts ++ l)

theorem tokL_err {l : List UInt8} {x : Int} (h : tokL l = .inl x) : x = 2 ∨ x = 4 := by
 cases l with
 | nil => simp only [tokL] at h; cases h; exact .inr rfl
 | cons c r =>
  simp only [tokL] at h
  split at h
  ·
   split at h
   ·
    cases h
   ·
    cases h; exact .inl rfl
  ·
   split at h
   ·
    split at h
    ·
     cases h
    ·
     cases h; exact .inl rfl
   ·
    split at h
    ·
     split at h
     ·
      cases h
     ·
      cases h; exact .inl rfl
    ·
     split at h
     ·
      cases h
     ·
      split at h
      ·
       cases h
      ·
       cases h; exact .inr rfl

/-- what stands at a place -/
theorem toks_bad {s : ByteArray} {j : Nat} {x : Int} {ts : List Tok} (hj : j < s.size) (hp : passL false (lft s j) = lft s j) (hR : tokenR s j = .inl x) (hJ : joinT ts (toksL s.size (lft s j)) = toksL s.size (lft s 0)) :
  toksL s.size (lft s 0) = .inl ((j : Int), x) ∧ (x = 2 ∨ x = 4) := by
 have h := token_same hj
 rw [hR] at h
 have hc := lft_cons s j hj
 have h' : tokL (lft s j) = .inl x := h
 refine ⟨?_, tokL_err h'⟩
 have hl := lft_len s j
 rw [hc] at hp h' hl
 rw [← hJ, hc, toksL_bad hp h', hl]
 simp only [joinT]
 congr 2
 omega
theorem toks_go {s : ByteArray} {j j' i : Nat} {t : Tok} {ts : List Tok} (hj : j < s.size) (hp : passL false (lft s j) = lft s j) (hR : tokenR s j = .inr (t, j')) (hi : lft s i = passL false (lft s j')) (hJ : joinT ts (toksL s.size (lft s j)) = toksL s.size (lft s 0)) :
  joinT (ts ++ [{ t with at_ := (j : Int) }]) (toksL s.size (lft s i)) = toksL s.size (lft s 0) ∧ j < j' ∧ j' ≤ s.size ∧ passL false (lft s i) = lft s i := by
 have h := token_same hj
 rw [hR] at h
 obtain ⟨h1, h2, h3⟩ := h
 have hc := lft_cons s j hj
 have hl := lft_len s j
 have hpp : passL false (lft s i) = lft s i := by rw [hi]; exact passL_twice _ _
 refine ⟨?_, h1, h2, hpp⟩
 rw [hi, toksL_pass, ← hJ]
 rw [hc] at hp h3 hl
 rw [hc, toksL_go hp h3, hl]
 have : s.size - (s.size - j) = j := by omega
 rw [this]
 cases toksL s.size (lft s j') with
 | inl e => rfl
 | inr r => simp [joinT]
theorem toks_end {s : ByteArray} {j : Nat} {ts : List Tok} (hj : s.size ≤ j) (hJ : joinT ts (toksL s.size (lft s j)) = toksL s.size (lft s 0)) : toksL s.size (lft s 0) = .inr (ts ++ [⟨5, ⟨#[]⟩, 0, (s.size : Nat)⟩]) := by
 have h0 : lft s j = [] := List.drop_eq_nil_of_le (by simpa using hj)
 rw [← hJ, h0, toksL_nil rfl]
 rfl
end Go.Proofs.YtbjghkmjnhmlfaaGreatDoor

/- Package lex: Tokens: the walk. -/
namespace Go.Proofs.YtbjghkmjnhmlfaaGreatDoor
open Go.RowKit Go.Maps

theorem heap_size_alloc (w : World) (o : Obj) : (w.alloc o).heap.size = w.heap.size + 1 := by simp

/-- what a call of Tokens leaves: the words in a row of its own, where the first fault is, and which -/
def LexOut (w : World) (ts : List Tok) (a x : Int) (e : Ending) (w' : World) : Prop :=
 ∃ v base, e = .returned (.tuple #[v, .int .i64 a, .int .i64 x]) ∧ w'.ownsRow base 54 4 v ts.length (tokCells ts) ∧ w.heap.size ≤ base ∧ Ext w w'

set_option maxRecDepth 100000 in
set_option maxHeartbeats 1000000 in
theorem Tokens_any (s : ByteArray) (w : World) (hC : ClsAt w) (hz : 1 < w.heap.size) (hS : s.size ≤ 140737488351232) :
  Calls Tryz.prog 28 #[.string s] w (LexOut w (lexT s) (lexA s) (lexE s)) := by
 obtain ⟨i0, hi0, hz0, hz1, hz2⟩ := info_parts infoTok
 by_cases hs : s.size ≤ 4000
 ·
  have hl0 : decide ((4000 : Int) < (s.size : Int)) = false := decide_eq_false (by omega)
  have HR : Hid (lexT s = (match toksL s.size (lft s 0) with | .inl _ => [] | .inr ts => ts) ∧ lexA s = (match toksL s.size (lft s 0) with | .inl (a, _) => a | .inr _ => 0) ∧ lexE s = (match toksL s.size (lft s 0) with | .inl (_, e) => e | .inr _ => 0)) := Lib.hid (by
   unfold lexT lexA lexE lft
   rw [if_neg (by omega), if_neg (by omega), if_neg (by omega), List.drop_zero]
   exact ⟨rfl, rfl, rfl⟩)
  go_enter Tryz.func28, Tryz.ntmps28
  go_wp2_with fail
  refine (marks_any _).mono ?_
  rintro e w1 ⟨b, rfl, hM1, hb, hx1⟩
  go_wp2_with fail
  obtain ⟨g, hg⟩ : ∃ g, g = w1.heap.size := ⟨_, rfl⟩
  obtain ⟨w2, hw2⟩ : ∃ w2, w2 = w1.alloc (.cells #[.string s, .int .i64 0, .map (some b)] 107) := ⟨_, rfl⟩
  rw [← hw2, ← hg]
  have hx2 : Ext w w2 := by rw [hw2]; exact hx1.alloc _
  have hgz : g ≠ 1 := by have := hx1.size; omega
  have HC2 : CurAt w2 g s 0 b := by rw [hw2, hg]; exact ⟨by go_simp, by go_simp, by go_simp, by go_simp, by rw [← hg]; exact hgz⟩
  have hM2 : MkSet w2 b mksL := by rw [hw2]; exact hM1.ext ((Ext.refl _).alloc _)
  have HCg := Lib.hid HC2.c0
  have hgl : g < w2.heap.size := by rw [hw2, hg]; simp
  have hwg : w.heap.size ≤ g := by have := hx1.size; omega
  have hK2 := hC.ext hx2
  clear hw2 hg hM1 hb
  refine (pass_any g s 0 b w2 hK2 HC2 (by omega) hs).mono ?_
  rintro e w3 ⟨rfl, j0, _, hj0, hl3, HC3, hx3⟩
  have hP0 : Hid (lft s j0 = passL false (lft s 0)) := Lib.hid hl3
  clear hl3 HC2
  have HJ0 : Hid (joinT [] (toksL s.size (lft s j0)) = toksL s.size (lft s 0)) := Lib.hid (by
   rw [hP0.out, toksL_pass]; unfold joinT; cases toksL s.size (lft s 0) <;> rfl)
  have HP0 : Hid (passL false (lft s j0) = lft s j0) := Lib.hid (by rw [hP0.out]; exact passL_twice _ _)
  clear hP0
  go_wp2_with fail
  go_loopg [2] (s.size - j0) (fun n v wr => ∃ j ts, j + n = s.size ∧ Hid (joinT ts (toksL s.size (lft s j)) = toksL s.size (lft s 0)) ∧ Hid (passL false (lft s j) = lft s j) ∧ Hid (ts.length ≤ j) ∧ wr.ownsRow w2.heap.size 54 4 v ts.length (tokCells ts) ∧ Hid (CurAt wr g s j b) ∧ Chg (· = g) w2 wr)
  case atStart => exact ⟨j0, [], by omega, HJ0, HP0, Lib.hid (Nat.zero_le _), World.ownsRow_nil _ _ _ _, Lib.hid HC3, hx3⟩
  case round =>
   obtain ⟨j, ts, hj, HJ, HP, HL, hown, HCr, hxr⟩ := hrel
   have c1 := HCr.out.c1
   by_cases hlt : j < s.size
   ·
    have hl : decide ((j : Int) < (s.size : Int)) = true := decide_eq_true (by omega)
    have HK := Lib.hid (hK2.chg hxr hgz)
    have HM := Lib.hid (hM2.keep (hxr.block b hM2.lt (fun e => hM2.noCell (HCg.out) (by simpa using e.symm))))
    cases hR : tokenR s j with
    | inl x =>
     obtain ⟨hT, hx24⟩ := toks_bad hlt HP.out hR HJ.out
     have HF : Hid (lexT s = [] ∧ lexA s = (j : Int) ∧ lexE s = x) := Lib.hid (by rw [HR.out.1, HR.out.2.1, HR.out.2.2, hT]; exact ⟨rfl, rfl, rfl⟩)
     have hn0 : (x == 0) = false := by rcases hx24 with rfl | rfl <;> rfl
     have hn1 : (x != 0) = true := by rcases hx24 with rfl | rfl <;> rfl
     have KT := Lib.hid (token_any g s j b wr HK.out HCr.out HM.out hlt hs)
     rw [hR] at KT
     clear hT hx24 hR HJ HP HL HR hown
     go_wp2_with fail
     refine KT.out.mono ?_
     rintro e w4 ⟨hx4, rfl⟩
     have hxw : Ext w w4 := Chg.ext_of hx2 (hxr.trans hx4) (fun b hb => by omega)
     clear KT
     go_wp2_with fail
     go_ret3
     refine ⟨.slice none 0 0, w.heap.size, by rw [HF.out.2.1, HF.out.2.2]; rfl, by rw [HF.out.1]; exact World.ownsRow_nil _ _ _ _, Nat.le_refl _, hxw.alloc _⟩
    | inr p =>
     obtain ⟨t, j'⟩ := p
     have KT := Lib.hid (token_any g s j b wr HK.out HCr.out HM.out hlt hs)
     rw [hR] at KT
     have HG := Lib.hid (fun i hi => toks_go (i := i) hlt HP.out hR hi HJ.out)
     have hj1 : j < j' ∧ j' ≤ s.size := by have := token_same hlt; rw [hR] at this; exact ⟨this.1, this.2.1⟩
     obtain ⟨hj1, hj2⟩ := hj1
     clear hR HJ HP HR
     go_wp2_with fail
     refine KT.out.mono ?_
     rintro e w4 ⟨hx4, rfl, hC4⟩
     have hx24 := hxr.trans hx4
     have hown4 := ownsRow_chg hown hx4 hgl
     have HC4 := Lib.hid hC4
     have hw24 : w2.heap.size ≤ w4.heap.size := hx24.size
     clear KT hown hC4
     go_wp2_with (at_builtin; refine wpList_append_own_at _ rfl _ _ 50 rfl w2.heap.size 54 i0 _ 4 40 Tryz.underlying50 hi0 hz0 hz1 hz2 rfl (by decide) _ ts.length (tokCells ts) rfl ((lownsRow_ext hown4 ((Ext.refl _).alloc _)).alloc _) ⟨w4.heap.size + 1, 0, none⟩ 1 1 (Tok.cells { t with at_ := (j : Int) }) rfl rfl ?c1 ?c2 ?c3 ?c4 ?c5 ?_)
     case c1 => exact World.news_of_block (cs := #[.int .i64 t.kind, .string t.text, .int .i64 t.n, .int .i64 (j : Int)]) (t := 54) (fr := (0, 0)) (by have := heap_alloc_new (w4.alloc (.cells #[.int .i64 t.kind, .string t.text, .int .i64 t.n, .int .i64 (j : Int)] 54)) (.cells #[.int .i64 t.kind, .string t.text, .int .i64 t.n, .int .i64 (j : Int)] 54); rw [heap_size_alloc w4] at this; exact this)
     case c2 => exact Tok.one _
     case c3 => simp only [maxLen]; have := HL.out; omega
     case c4 => have := HL.out; omega
     case c5 => simp; omega
     intro v' w5 hown5 hgrow _ hat
     rw [← tokCells_snoc] at hown5
     have hxx : Ext w4 ((w4.alloc (.cells #[.int .i64 t.kind, .string t.text, .int .i64 t.n, .int .i64 (j : Int)] 54)).alloc (.cells #[.int .i64 t.kind, .string t.text, .int .i64 t.n, .int .i64 (j : Int)] 54)) := ((Ext.refl w4).alloc _).alloc _
     have hx25 : Chg (· = g) w2 w5 := Chg.own (hx24.trans (Chg.of_ext hxx)) (lownsRow_ext hown4 hxx) (Nat.le_refl _) hgrow
     have HC5 : Hid (CurAt w5 g s j' b) := Lib.hid ((HC4.out.ext hxx).same (hgrow.block g (by have := hxx.size; omega) (fun e => by have := (hown4.lt g e.symm).1; omega)))
     have HL5 : Hid ((ts ++ [{ t with at_ := (j : Int) }]).length ≤ j') := Lib.hid (by have := HL.out; simp; omega)
     have hown5' : w5.ownsRow w2.heap.size 54 4 v' (ts ++ [{ t with at_ := (j : Int) }]).length (tokCells (ts ++ [{ t with at_ := (j : Int) }])) := by rw [List.length_append]; exact hown5
     have HK5 := Lib.hid (hK2.chg hx25 hgz)
     generalize (ts ++ [{ t with at_ := (j : Int) }]) = ts5 at hown5' HL5 HG
     clear hat hgrow hown4 hown5 hxx HL
     go_wp2_with fail
     refine (pass_any g s j' b w5 HK5.out HC5.out hj2 hs).mono ?_
     rintro e w6 ⟨rfl, j6, hj6, hj6', hl6, HC6, hx6⟩
     obtain ⟨HJ6, _, _, HP6⟩ := HG.out j6 hl6
     have HJ6 := Lib.hid HJ6
     have HP6 := Lib.hid HP6
     have HL6 : Hid (ts5.length ≤ j6) := Lib.hid (by have := HL5.out; omega)
     have hown6 := ownsRow_chg hown5' hx6 hgl
     clear hl6 hown5'
     go_wp2_with fail
     go_roundg (s.size - j6)
     case rel => exact ⟨j6, ts5, by omega, HJ6, HP6, HL6, hown6, Lib.hid HC6, hx25.trans hx6⟩
     case measure => omega
   ·
    have hl : decide ((j : Int) < (s.size : Int)) = false := decide_eq_false (by omega)
    have hT := toks_end (by omega) HJ.out
    have HF : Hid (lexT s = ts ++ [⟨5, ⟨#[]⟩, 0, (s.size : Nat)⟩] ∧ lexA s = 0 ∧ lexE s = 0) := Lib.hid (by rw [HR.out.1, HR.out.2.1, HR.out.2.2, hT]; exact ⟨rfl, rfl, rfl⟩)
    have hw2r : w2.heap.size ≤ wr.heap.size := hxr.size
    clear hT HJ HP HR
    go_wp2_with (at_builtin; refine wpList_append_own_at _ rfl _ _ 50 rfl w2.heap.size 54 i0 _ 4 40 Tryz.underlying50 hi0 hz0 hz1 hz2 rfl (by decide) _ ts.length (tokCells ts) rfl (lownsRow_ext hown ((Ext.refl _).alloc _)) ⟨wr.heap.size, 0, none⟩ 1 1 (Tok.cells ⟨5, ⟨#[]⟩, 0, (s.size : Nat)⟩) rfl rfl ?c1 ?c2 ?c3 ?c4 ?c5 ?_)
    case c1 => exact World.news_of_block (cs := #[.int .i64 5, .string ⟨#[]⟩, .int .i64 0, .int .i64 (s.size : Nat)]) (t := 54) (fr := (0, 0)) (heap_alloc_new _ _)
    case c2 => exact Tok.one _
    case c3 => simp only [maxLen]; have := HL.out; omega
    case c4 => have := HL.out; omega
    case c5 => simp; omega
    intro v' w5 hown5 hgrow _ hat
    rw [← tokCells_snoc] at hown5
    have hxx : Ext wr (wr.alloc (.cells #[.int .i64 5, .string ⟨#[]⟩, .int .i64 0, .int .i64 (s.size : Nat)] 54)) := (Ext.refl wr).alloc _
    have hx25 : Chg (· = g) w2 w5 := Chg.own (hxr.trans (Chg.of_ext hxx)) (lownsRow_ext hown hxx) (Nat.le_refl _) hgrow
    have hxw : Ext w w5 := Chg.ext_of hx2 hx25 (fun b hb => by omega)
    clear hat hgrow hown hxx HL
    go_wp2_with fail
    go_ret3
    exact ⟨v', w2.heap.size, by rw [HF.out.2.1, HF.out.2.2]; rfl, by rw [HF.out.1, List.length_append]; exact hown5, hx2.size, hxw⟩
 ·
  have hl0 : decide ((4000 : Int) < (s.size : Int)) = true := decide_eq_true (by omega)
  have HF : Hid (lexT s = [] ∧ lexA s = 0 ∧ lexE s = 2) := Lib.hid (by unfold lexT lexA lexE; rw [if_pos (by omega), if_pos (by omega), if_pos (by omega)]; exact ⟨rfl, rfl, rfl⟩)
  go_enter Tryz.func28, Tryz.ntmps28
  go_wp2_with fail
  go_ret3
  exact ⟨.slice none 0 0, w.heap.size, by rw [HF.out.2.1, HF.out.2.2]; rfl, by rw [HF.out.1]; exact World.ownsRow_nil _ _ _ _, Nat.le_refl _, Ext.refl _⟩
end Go.Proofs.YtbjghkmjnhmlfaaGreatDoor
