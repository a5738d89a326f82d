/- facts.keyOf: a fact as a key. -/
import Derived.Test.YtcfhokejfibgoaaFkb
import Derived.Deep.MidRow
namespace Go.Proofs.Ytcfhokejfibgoaa
open Go.RowKit

abbrev factV (t : Tm) (A : Option Addr) (c : Nat) (f u : Int) : Value := .agg #[.int .i64 t.kind, .string t.name, .int .i64 t.n, .slice A t.args.length c, .int .i64 f, .int .i64 u]
def zero3 : Nat → List Value
  | 0 => []
  | n + 1 => .int .u64 0 :: .int .u64 0 :: .int .i64 0 :: zero3 n
/-- a key's cells -/
def keyCs (ps : List Pr3) (f u : Int) : List Value := putP (zero3 24 ++ [.int .i64 f, .int .i64 u]) 0 ps

theorem zero3_len : ∀ n, (zero3 n).length = n * 3
  | 0 => rfl
  | n + 1 => by simp only [zero3, List.length_cons, zero3_len n]; omega
theorem keyCs_len (ps : List Pr3) (f u : Int) : (keyCs ps f u).length = 74 := by unfold keyCs; rw [putP_len]; simp [zero3_len]
theorem one_set {cs : List Value} (h : ∀ v ∈ cs, v.oneCell' = true) (o : Nat) {v : Value} (hv : v.oneCell' = true) : ∀ x ∈ cs.set o v, x.oneCell' = true := fun x hx => by
  rcases List.mem_or_eq_of_mem_set hx with h1 | rfl
  · exact h x h1
  · exact hv
theorem putP_one : ∀ (ps : List Pr3) (cs : List Value) (a : Nat), (∀ v ∈ cs, v.oneCell' = true) → ∀ v ∈ putP cs a ps, v.oneCell' = true
  | [], _, _, h => h
  | _ :: ps, _, _, h => putP_one ps _ _ (one_set (one_set (one_set h _ rfl) _ rfl) _ rfl)
theorem zero3_one : ∀ n, ∀ v ∈ zero3 n, v.oneCell' = true
  | 0, v, h => by cases h
  | n + 1, v, h => by
    simp only [zero3, List.mem_cons] at h
    rcases h with rfl | rfl | rfl | h
    · rfl
    · rfl
    · rfl
    · exact zero3_one n v h
theorem keyCs_one (ps : List Pr3) (f u : Int) : ∀ v ∈ keyCs ps f u, v.oneCell' = true := putP_one ps _ _ (fun v h => by
  rcases List.mem_append.1 h with h | h
  · exact zero3_one 24 v h
  · simp only [List.mem_cons, List.not_mem_nil, or_false] at h
    rcases h with rfl | rfl <;> rfl)
theorem zero_key : Try.zeroCells68 = (zero3 24 ++ [Value.int .i64 0, Value.int .i64 0]).toArray := by kernel_rfl
theorem key_start (f u : Int) : (Try.zeroCells68.setIfInBounds 72 (Value.int .i64 f)).setIfInBounds 73 (Value.int .i64 u) = (keyCs [] f u).toArray := by rw [zero_key]; rfl
theorem blk_made (w : World) (cs : List Value) (Z : Array Value) (h : Z = cs.toArray) : BlkQ (w.alloc (.cells Z 68)) w.heap.size cs := by subst h; exact heap_alloc_new w _
theorem infoKey : (Try.prog.info? 68).map (·.size) = some 74 := by kernel_rfl
theorem ext_setCells {w : World} {b : Nat} (vs : List Value) : ∀ (o : Nat) (u : World) (_ : w.heap.size ≤ b), Ext w u → Ext w (u.setCells b o vs) := by
  induction vs with
  | nil => intro o u _ h; exact h
  | cons v r ih => intro o u hb h; exact ih (o + 1) _ hb (h.setCell hb v)
def setAll : List Value → Nat → List Value → List Value
  | cs, _, [] => cs
  | cs, o, v :: r => setAll (cs.set o v) (o + 1) r
theorem BlkQ.setCells {g : Nat} (vs : List Value) : ∀ (o : Nat) (w : World) (cs : List Value), BlkQ w g cs → BlkQ (w.setCells g o vs) g (setAll cs o vs) := by
  induction vs with
  | nil => intro o w cs h; exact h
  | cons v r ih => intro o w cs h; exact ih (o + 1) _ _ (h.set o v)
theorem setAll_eq : ∀ (vs cs : List Value) (o : Nat), o + vs.length = cs.length → setAll cs o vs = cs.take o ++ vs
  | [], cs, o, h => by simp only [setAll, List.append_nil]; rw [List.take_of_length_le (by simp at h; omega)]
  | v :: r, cs, o, h => by
    simp only [List.length_cons] at h
    rw [setAll, setAll_eq r _ _ (by rw [List.length_set]; omega), List.take_succ_eq_append_getElem (by rw [List.length_set]; omega), List.getElem_set_self, List.take_set_of_le (Nat.le_refl _), List.append_assoc]
    rfl
theorem BlkQ.all {w : World} {g : Nat} {cs vs : List Value} (h : BlkQ w g cs) (hl : vs.length = cs.length) : BlkQ (w.setCells g 0 vs) g vs := by
  have := BlkQ.setCells vs 0 w cs h
  rwa [setAll_eq vs cs 0 (by omega), List.take_zero, List.nil_append] at this

set_option maxRecDepth 100000 in
set_option maxHeartbeats 1000000 in
theorem keyOf_any (t : Tm) (A : Option Addr) (c : Nat) (f u : Int) (w : World) (h : TmAt w t A c) (hsh : shortT t) (hp : (partsT t).length ≤ 24) :
    Calls Try.prog 29 #[factV t A c f u] w fun e w' => e = .returned (.agg (keyCs (partsT t) f u).toArray) ∧ Ext w w' := by
  obtain ⟨W1, hW1⟩ : ∃ W1, W1 = w.alloc (.cells #[.int .i64 t.kind, .string t.name, .int .i64 t.n, .slice A t.args.length c, .int .i64 f, .int .i64 u] 37) := ⟨_, rfl⟩
  obtain ⟨W2, hW2⟩ : ∃ W2, W2 = W1.alloc (.cells Try.zeroCells68 68) := ⟨_, rfl⟩
  obtain ⟨W3, hW3⟩ : ∃ W3, W3 = W2.alloc (.cells Try.zeroCells68 68) := ⟨_, rfl⟩
  have hx1 : Ext w W1 := by rw [hW1]; exact (Ext.refl w).alloc _
  have hx2 : Ext W1 W2 := by rw [hW2]; exact (Ext.refl W1).alloc _
  have hx3 : Ext W2 W3 := by rw [hW3]; exact (Ext.refl W2).alloc _
  have hs1 : W1.heap.size = w.heap.size + 1 := by rw [hW1]; simp
  have hs2 : W2.heap.size = w.heap.size + 1 + 1 := by rw [hW2]; simp [hs1]
  have q0 : W1.cell? ⟨w.heap.size, 0, none⟩ = some (.int .i64 t.kind) := by rw [hW1]; go_simp
  have q1 : W1.cell? ⟨w.heap.size, 1, none⟩ = some (.string t.name) := by rw [hW1]; go_simp
  have q2 : W1.cell? ⟨w.heap.size, 2, none⟩ = some (.int .i64 t.n) := by rw [hW1]; go_simp
  have q3 : W1.cell? ⟨w.heap.size, 3, none⟩ = some (.slice A t.args.length c) := by rw [hW1]; go_simp
  have q4 : W1.cell? ⟨w.heap.size, 4, none⟩ = some (.int .i64 f) := by rw [hW1]; go_simp
  have q5 : W1.cell? ⟨w.heap.size, 5, none⟩ = some (.int .i64 u) := by rw [hW1]; go_simp
  obtain ⟨ZL, hZL⟩ : ∃ ZL : List Value, ZL = zero3 24 ++ [.int .i64 0, .int .i64 0] := ⟨_, rfl⟩
  have hZ : Try.zeroCells68 = ZL.toArray := by rw [hZL]; exact zero_key
  have hzl : ZL.length = 74 := by rw [hZL]; rfl
  obtain ⟨KL, hKL⟩ : ∃ KL : List Value, KL = keyCs [] f u := ⟨_, rfl⟩
  have hS : (Try.zeroCells68.setIfInBounds 72 (Value.int .i64 f)).setIfInBounds 73 (Value.int .i64 u) = KL.toArray := by rw [hKL]; exact key_start f u
  have hl0 : KL.length = 74 := by rw [hKL]; exact keyCs_len _ _ _
  have h1 : KL.toArray.all (·.oneCell') = true := by rw [hKL]; simp; exact keyCs_one _ _ _
  have HKL := Lib.hid hKL
  clear hKL hZL
  have hR2 : BlkQ W2 W1.heap.size ZL := by rw [hW2]; exact blk_made _ _ _ hZ
  have hK3 : BlkQ W3 W2.heap.size ZL := by rw [hW3]; exact blk_made _ _ _ hZ
  have hth : W3.there W2.heap.size 0 KL.toArray.size := by have := hK3.there; rw [hzl] at this; simpa [hl0] using this
  have hi' : (Try.prog.info? 68).map (·.size) = some KL.toArray.size := by simpa [hl0] using infoKey
  have hB4 : BlkQ (W3.setCells W2.heap.size 0 KL) W2.heap.size KL := hK3.all (by rw [hl0, hzl])
  have hx4 : Ext W2 (W3.setCells W2.heap.size 0 KL) := ext_setCells _ _ _ (Nat.le_refl _) hx3
  have HW3 : Hid (W3 = ((w.alloc (.cells #[.int .i64 t.kind, .string t.name, .int .i64 t.n, .slice A t.args.length c, .int .i64 f, .int .i64 u] 37)).alloc (.cells Try.zeroCells68 68)).alloc (.cells Try.zeroCells68 68)) := Lib.hid (by rw [hW3, hW2, hW1])
  rw [hs2] at hth hB4 hx4
  rw [hs1] at hR2
  have HS := Lib.hid hS
  have HTH := Lib.hid hth
  clear hW1 hW2 hW3 hZ hK3 hx3 hS hth
  go_enter Try.func29, Try.ntmps29
  go_upto_region 2 with (refine wpList_store_mid (op := ⟨none, _, _, _, _, _⟩) rfl 68 (.tmp 3) (.tmp 6) rfl (w.heap.size + 1 + 1) 0 KL.toArray rfl (congrArg Value.agg HS.out) (HW3.out ▸ HTH.out) hi' h1 ?_)
  rw [← HW3.out]
  have hx24 := hx2.trans hx4
  replace q0 := hx24.cell q0
  replace q1 := hx24.cell q1
  replace q2 := hx24.cell q2
  replace q3 := hx24.cell q3
  have HLAY := Lib.hid (lay_any t.high t A c W2 (W3.setCells (w.heap.size + 1 + 1) 0 KL) (w.heap.size + 1 + 1) 0 KL (Nat.le_refl _) hsh (h.ext (hx1.trans hx2)) hx4 (by omega) hB4 hl0 (by omega))
  have HX2 := Lib.hid (hx1.trans hx2)
  have HR2 := Lib.hid hR2
  have HK : Hid (putP KL 0 (partsT t) = keyCs (partsT t) f u) := Lib.hid (by rw [HKL.out]; rfl)
  have HSZ := Lib.hid hs2
  have HZ := Lib.hid hzl
  have hrb : w.heap.size + 1 ≠ w.heap.size := by omega
  generalize W3.setCells (w.heap.size + 1 + 1) 0 KL = W4 at *
  clear hx24 q4 q5 hR2 hl0 h1 hi' hB4 hx4 HTH HS HW3 hx1 hx2 hs1 hs2 HKL hsh hp
  go_wp2_with fail
  refine HLAY.out.mono ?_
  rintro e w5 ⟨rfl, hB5, hx5⟩
  have hR5 := HR2.out.ext hx5
  have HX5 := Lib.hid (HX2.out.trans hx5)
  rw [HK.out] at hB5
  obtain ⟨KF, hKF⟩ : ∃ KF : List Value, KF = keyCs (partsT t) f u := ⟨_, rfl⟩
  rw [← hKF] at hB5
  have HKF := Lib.hid hKF
  have hlf : KF.length = 74 := by rw [hKF]; exact keyCs_len _ _ _
  have h1 : KF.toArray.all (·.oneCell') = true := by rw [hKF]; simp; exact keyCs_one _ _ _
  have hi : (Try.prog.info? 68).map (·.size) = some KF.length := by rw [hlf]; exact infoKey
  have hi' : (Try.prog.info? 68).map (·.size) = some KF.toArray.size := by simpa using hi
  have hth : w5.there (w.heap.size + 1) 0 KF.toArray.size := by have := hR5.there; rw [HZ.out] at this; simpa [hlf] using this
  have hrg := hB5.range
  have hfin : Ext w (w5.setCells (w.heap.size + 1) 0 KF) := ext_setCells _ _ _ (by omega) HX5.out
  have hrs : (w5.setCells (w.heap.size + 1) 0 KF).rangeAt (w.heap.size + 1) 0 KF := World.rangeAt_setCells_same _ _ _ _ (by simpa using hth)
  have hres := run_loadVar_mid (P := Try.prog) _ (w.heap.size + 1) 0 68 KF _ hrs Try.underlying68 rfl hi
  clear hKF hB5 hR5 hx5 HLAY hrs
  go_wp2_with (first
    | (refine wpList_load_mid (op := ⟨some 10, _, _, _, _, _⟩) rfl 68 (.tmp 3) rfl (w.heap.size + 1 + 1) 0 rfl KF _ hrg Try.underlying68 rfl hi ?_)
    | (refine wpList_store_mid (op := ⟨none, _, _, _, _, _⟩) rfl 68 (.tmp 2) (.tmp 10) rfl (w.heap.size + 1) 0 KF.toArray rfl rfl hth hi' h1 ?_))
  refine bodyPost_ret (v := .agg KF.toArray) ?_ rfl ⟨by rw [HKF.out], hfin⟩
  simp [results, Try.results29, Act.put, asAddr, hres]
end Go.Proofs.Ytcfhokejfibgoaa
