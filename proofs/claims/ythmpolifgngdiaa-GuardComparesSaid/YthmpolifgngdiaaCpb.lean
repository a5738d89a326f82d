/- bind.copiedBind; slices.Grow, Concat at binds. -/
import Derived.Test.YthmpolifgngdiaaME
import Derived.Lib.AppendZeros
namespace Go.Proofs.Ythmpolifgngdiaa
open Go.RowKit

/-- a copy of a bind -/
def CopiedB (x : Bd) (w : World) (e : Ending) (w' : World) : Prop := ∃ A c, e = .returned (x.val A c) ∧ TmOwn w' x.tm A c (fun k => w.heap.size ≤ k ∧ k < w'.heap.size) ∧ Ext w w'
theorem TmOwn.answer5 {w : World} {t : Tm} {A : Option Addr} {c : Nat} {lo hi r : Nat} (h : TmOwn w t A c (fun k => lo ≤ k ∧ k < hi)) (v0 v1 v2 v3 v4 : Value) (hr : r < lo) {B : Nat} (hB : B ≤ lo) (hh : hi = w.heap.size) :
    TmOwn (set5 w r 0 v0 v1 v2 v3 v4) t A c (fun k => B ≤ k ∧ k < (set5 w r 0 v0 v1 v2 v3 v4).heap.size) :=
  (h.keep fun b hb _ => set5_block _ _ _ _ _ _ _ _ _ (by omega)).weak fun b hb => ⟨by omega, by rw [set5_size]; omega⟩

set_option maxRecDepth 100000 in
set_option maxHeartbeats 2000000 in
theorem copiedBind_any (x : Bd) (A : Option Addr) (c : Nat) (w : World) (ha : allP x.tm) (h : TmAt w x.tm A c) :
    Calls Try.prog 45 #[x.val A c] w (CopiedB x w) := by
  have HA := Lib.hid ha
  clear ha
  go_enter Try.func45, Try.ntmps45
  go_wp2_with fail
  obtain ⟨wi, hwi⟩ : ∃ wi, wi = (w.alloc (.cells #[.string x.name, .int .i64 x.tm.kind, .string x.tm.name, .int .i64 x.tm.n, .slice A x.tm.args.length c] 67)).alloc (.cells #[.string ⟨#[]⟩, .int .i64 0, .string ⟨#[]⟩, .int .i64 0, .slice none 0 0] 67) := ⟨_, rfl⟩
  have hxi : Ext w wi := by rw [hwi]; exact ((Ext.refl w).alloc _).alloc _
  have hsi : wi.heap.size = w.heap.size + 1 + 1 := by rw [hwi]; simp
  have a0 : wi.cell? ⟨w.heap.size, 0, none⟩ = some (.string x.name) := by rw [hwi]; go_simp
  have a1 : wi.cell? ⟨w.heap.size, 1, none⟩ = some (.int .i64 x.tm.kind) := by rw [hwi]; go_simp
  have a2 : wi.cell? ⟨w.heap.size, 2, none⟩ = some (.string x.tm.name) := by rw [hwi]; go_simp
  have a3 : wi.cell? ⟨w.heap.size, 3, none⟩ = some (.int .i64 x.tm.n) := by rw [hwi]; go_simp
  have a4 : wi.cell? ⟨w.heap.size, 4, none⟩ = some (.slice A x.tm.args.length c) := by rw [hwi]; go_simp
  have y0 : wi.cell? ⟨w.heap.size + 1, 0, none⟩ = some (.string ⟨#[]⟩) := by rw [hwi]; go_simp
  have y1 : wi.cell? ⟨w.heap.size + 1, 1, none⟩ = some (.int .i64 0) := by rw [hwi]; go_simp
  have y2 : wi.cell? ⟨w.heap.size + 1, 2, none⟩ = some (.string ⟨#[]⟩) := by rw [hwi]; go_simp
  have y3 : wi.cell? ⟨w.heap.size + 1, 3, none⟩ = some (.int .i64 0) := by rw [hwi]; go_simp
  have y4 : wi.cell? ⟨w.heap.size + 1, 4, none⟩ = some (.slice none 0 0) := by rw [hwi]; go_simp
  have z := fun o => (show wi.frozen? ⟨w.heap.size + 1, o, none⟩ = false by rw [hwi]; go_simp)
  rw [← hwi]
  have hTi := h.ext hxi
  have HSI := Lib.hid hsi
  clear hwi hsi
  have hgl : w.heap.size + 1 < wi.heap.size := World.block_lt_of_cell? wi _ y0
  have hne1 : w.heap.size + 1 ≠ w.heap.size := by omega
  have Z := Lib.hid z
  clear z
  have KEY : Hid (Calls Try.prog 52 #[x.tm.val A c] wi.drew (Copied x.tm wi.drew)) := Lib.hid (copied_any x.tm A c _ HA.out (hTi.ext (Ext.refl _).drew))
  have e0 : wi.drew.cell? ⟨w.heap.size, 0, none⟩ = some (.string x.name) := a0
  have e1 : wi.drew.cell? ⟨w.heap.size, 1, none⟩ = some (.int .i64 x.tm.kind) := a1
  have e2 : wi.drew.cell? ⟨w.heap.size, 2, none⟩ = some (.string x.tm.name) := a2
  have e3 : wi.drew.cell? ⟨w.heap.size, 3, none⟩ = some (.int .i64 x.tm.n) := a3
  have e4 : wi.drew.cell? ⟨w.heap.size, 4, none⟩ = some (.slice A x.tm.args.length c) := a4
  go_region_held3 (fun u => u.cell? ⟨w.heap.size, 0, none⟩ = some (.string x.name) ∧ u.cell? ⟨w.heap.size, 1, none⟩ = some (.int .i64 x.tm.kind) ∧ u.cell? ⟨w.heap.size, 2, none⟩ = some (.string x.tm.name) ∧
      u.cell? ⟨w.heap.size, 3, none⟩ = some (.int .i64 x.tm.n) ∧ u.cell? ⟨w.heap.size, 4, none⟩ = some (.slice A x.tm.args.length c))
    (first | (with_reducible exact ⟨a0, a1, a2, a3, a4⟩) | (with_reducible exact ⟨e0, e1, e2, e3, e4⟩) | (with_reducible exact ⟨hx2.cell e0, hx2.cell e1, hx2.cell e2, hx2.cell e3, hx2.cell e4⟩) | exact ⟨set5_far (o := 0) (hx2.cell e0) hne1, set5_far (o := 0) (hx2.cell e1) hne1, set5_far (o := 0) (hx2.cell e2) hne1, set5_far (o := 0) (hx2.cell e3) hne1, set5_far (o := 0) (hx2.cell e4) hne1⟩)
    (first | (go_at_call 52; refine KEY.out.mono ?_; rintro ee w2 ⟨A', c', rfl, hO, hx2⟩; have hx2' : Ext wi w2 := (Ext.refl _).drew.trans hx2; have v0 := hx2'.cell y0; have v1 := hx2'.cell y1; have v2 := hx2'.cell y2; have v3 := hx2'.cell y3; have v4 := hx2'.cell y4; have g0 := (Below.frozen hx2' (p := ⟨w.heap.size + 1, 0, none⟩) hgl).trans (Z.out 0); have g1 := (Below.frozen hx2' (p := ⟨w.heap.size + 1, 1, none⟩) hgl).trans (Z.out 1); have g2 := (Below.frozen hx2' (p := ⟨w.heap.size + 1, 2, none⟩) hgl).trans (Z.out 2); have g3 := (Below.frozen hx2' (p := ⟨w.heap.size + 1, 3, none⟩) hgl).trans (Z.out 3); have g4 := (Below.frozen hx2' (p := ⟨w.heap.size + 1, 4, none⟩) hgl).trans (Z.out 4)))
  have HO := Lib.hid (hO.weak (F' := fun k => wi.heap.size ≤ k ∧ k < w2.heap.size) fun k hk => hk)
  clear e0 e1 e2 e3 e4 y0 y1 y2 y3 y4 a0 a1 a2 a3 a4 KEY hO g0 g1 g2 g3 g4
  go_wp2_with fail
  refine bodyPost_ret (v := x.val A' c') (by simp [results, Try.results45, go_sem, *]) rfl ⟨A', c', rfl, HO.out.answer5 (r := w.heap.size + 1) (B := w.heap.size) _ _ _ _ _ hgl (by have := HSI.out; omega) rfl, ?_⟩
  exact Chg.ext_of (hxi.trans hx2') (set5_chg w2 (w.heap.size + 1) 0 _ _ _ _ _ (F := fun x => x = w.heap.size + 1) rfl) (fun b hb => by omega)

set_option maxRecDepth 100000 in
set_option maxHeartbeats 2000000 in
/-- room for n binds -/
theorem grow_any (n : Nat) (w : World) (hn : n ≤ 1000000) :
    Calls Try.prog 55 #[.slice none 0 0, .int .i64 n] w fun e w' => ∃ v', e = .returned v' ∧ w'.ownsRow w.heap.size 67 5 v' 0 [] ∧ Ext w w' := by
  obtain ⟨i0', hi0, hz0, hz1, hz2⟩ := info_parts infoBd
  by_cases h0 : n = 0
  · subst h0
    go_enter Try.func55, Try.ntmps55
    go_wp2_with fail
    go_ret
    exact ⟨_, rfl, World.ownsRow_nil _ _ _ _, Ext.refl _⟩
  · have hp : (0 : Int) < (n : Int) := by omega
    have hrun : ∀ ty, (Builtin.append_ #[44, 3] ty #[.slice none 0 0, .int .i64 (n : Int)]).run Try.prog w = _ := fun ty =>
      Lib.run_append_nil_zeros (P := Try.prog) w 44 3 ty 67 i0' _ .i64 .i64 Try.underlying44 Try.underlying3 hi0 hz0 n (by omega) (by omega) (by omega) (by rw [hz2]; omega)
    have hG := grownCap_le_maxLen w n 0 67 (by unfold maxLen; omega)
    have hGn := grownCap_ge w n 0 67
    obtain ⟨G, hGe⟩ : ∃ G, G = grownCap w n 0 67 := ⟨_, rfl⟩
    rw [← hGe] at hrun hG hGn
    obtain ⟨ROW, hROW⟩ : ∃ ROW : Array Value, ROW = Builtin.zeroCells (Value.agg #[.string ⟨#[]⟩, .int .i64 0, .string ⟨#[]⟩, .int .i64 0, .slice none 0 0]).cells n ++ Builtin.zeroCells (Value.agg #[.string ⟨#[]⟩, .int .i64 0, .string ⟨#[]⟩, .int .i64 0, .slice none 0 0]).cells (G - n) := ⟨_, rfl⟩
    rw [← hROW] at hrun
    have hsz : Hid (ROW.size = G * 5) := Lib.hid (by
      rw [hROW, Array.size_append, size_zeroCells, size_zeroCells]
      simp only [Value.cells, List.size_toArray, List.length_cons, List.length_nil]; omega)
    have HRun := Lib.hid hrun
    clear hGe hROW hrun hz0 hz1 hz2 hi0 h0
    have r1 := fun u => run_to (P := Try.prog) Try.underlying44 Try.sizeOf67 u (some ⟨w.heap.size, 0, none⟩) n G 0 (Nat.zero_le _)
    go_enter Try.func55, Try.ntmps55
    go_wp2_with (at_builtin; refine Lib.wpList_append_run _ rfl _ _ _ _ rfl _ _ rfl rfl _ _ (HRun.out _) ?_)
    go_ret
    refine ⟨_, rfl, World.ownsRow_made w.drew ROW G (Nat.le_refl _) hG hsz.out, ((Ext.refl w).drew).alloc _⟩

set_option maxRecDepth 100000 in
set_option maxHeartbeats 4000000 in
theorem concat_any (aa bb : List Bd) (A B : Option Addr) (ca cb : Nat) (w : World) (ha : BdsAt w aa A) (hb : BdsAt w bb B) (hla : aa.length ≤ 1000) (hlb : bb.length ≤ 1000) (hca : aa.length ≤ ca) (hcb : bb.length ≤ cb)
    (xs ys : List BLain) (hxs : xs.map (·.1) = aa) (hys : ys.map (·.1) = bb) (hxc : ∀ b o, A = some ⟨b, o, none⟩ → ∀ j u, (browCells xs)[j]? = some u → w.cell? ⟨b, o + j, none⟩ = some u) (hyc : ∀ b o, B = some ⟨b, o, none⟩ → ∀ j u, (browCells ys)[j]? = some u → w.cell? ⟨b, o + j, none⟩ = some u)
    (vb : Nat) (h0 : w.cell? ⟨vb, 0, none⟩ = some (.slice A aa.length ca)) (h1 : w.cell? ⟨vb, 1, none⟩ = some (.slice B bb.length cb)) :
    Calls Try.prog 47 #[.slice (some ⟨vb, 0, none⟩) 2 2] w fun e w' => ∃ v', e = .returned v' ∧ w'.ownsRow w.heap.size 67 5 v' (aa.length + bb.length) (browCells xs ++ browCells ys) ∧ Ext w w' := by
  obtain ⟨i0, hi0, hz0, hz1, hz2⟩ := info_parts infoBd
  have HSA := Lib.hid (bds_src ha hca hxs hxc)
  have HSB := Lib.hid (bds_src hb hcb hys hyc)
  clear hxs hys hxc hyc ha hb
  go_enter Try.func47, Try.ntmps47
  go_wp2_with fail
  go_loop [3, 11] (fun s i => (s = .int .i64 0 ∧ i = .int .i64 0) ∨ (s = .int .i64 aa.length ∧ i = .int .i64 1) ∨ (s = .int .i64 ((aa.length : Int) + bb.length) ∧ i = .int .i64 2)) (fun _ i => 2 - (intOf i).toNat)
  case atStart => exact .inl ⟨rfl, rfl⟩
  case round =>
    rcases hrel with ⟨rfl, rfl⟩ | ⟨rfl, rfl⟩ | ⟨rfl, rfl⟩
    · go_wp2_with fail
      go_round
      case rel => exact .inr (.inl ⟨by go_num, rfl⟩)
      case measure => simp [intOf]
    · go_wp2_with fail
      go_round
      case rel => exact .inr (.inr ⟨by go_num, rfl⟩)
      case measure => simp [intOf]
    · have hnn : (0 : Int) ≤ (aa.length : Int) + bb.length := by omega
      go_wp2_with fail
      refine (grow_any (aa.length + bb.length) _ (by omega)).mono ?_
      rintro e1 w1 ⟨v1, rfl, hown, hx1⟩
      have h0' := h0
      have h1' := h1
      have HO := Lib.hid hown
      clear hown h0 h1
      go_wp2_with fail
      go_loopw [6, 27] (fun v i wr => Ext w wr ∧ ((i = .int .i64 0 ∧ Hid (wr.ownsRow w.heap.size 67 5 v 0 [])) ∨ (i = .int .i64 1 ∧ Hid (wr.ownsRow w.heap.size 67 5 v aa.length (browCells xs))) ∨ (i = .int .i64 2 ∧ Hid (wr.ownsRow w.heap.size 67 5 v (aa.length + bb.length) (browCells xs ++ browCells ys))))) (fun _ i _ => 2 - (intOf i).toNat)
      case atStart => exact ⟨hx1, .inl ⟨rfl, HO⟩⟩
      case round =>
        obtain ⟨hx, hcase⟩ := hrel
        obtain ⟨wp, rfl⟩ : ∃ wp : World, wp = wr := ⟨_, rfl⟩
        have hsz := hx.size
        rcases hcase with ⟨rfl, HW⟩ | ⟨rfl, HW⟩ | ⟨rfl, HW⟩
        · have q0 := hx.cell h0'
          have HS := Lib.hid (HSA.out.ext hx)
          go_wp2_with (at_builtin; refine wpList_app _ rfl _ _ 44 rfl w.heap.size 67 i0 _ 5 72 Try.underlying44 hi0 hz0 hz1 hz2 rfl (by decide) _ 0 [] rfl HW.out A aa.length ca (browCells xs) rfl HS.out (browCells_one' xs) ?qc3 ?qc4 ?qc5 ?_)
          case qc3 => unfold maxLen; omega
          case qc4 => omega
          case qc5 => exact hsz
          intro v' w2 hown hgr _
          have HO2 := Lib.hid (show w2.ownsRow w.heap.size 67 5 v' aa.length (browCells xs) by simpa using hown)
          have hx2 : Ext w w2 := Ext.own hx HW.out (Nat.le_refl _) hgr
          clear hown hgr
          go_wp2_with fail
          go_roundw
          case rel => exact ⟨hx2, .inr (.inl ⟨rfl, HO2⟩)⟩
          case measure => simp [intOf]
        · have q0 := hx.cell h1'
          have HS := Lib.hid (HSB.out.ext hx)
          go_wp2_with (at_builtin; refine wpList_app _ rfl _ _ 44 rfl w.heap.size 67 i0 _ 5 72 Try.underlying44 hi0 hz0 hz1 hz2 rfl (by decide) _ aa.length (browCells xs) rfl HW.out B bb.length cb (browCells ys) rfl HS.out (browCells_one' ys) ?qc3 ?qc4 ?qc5 ?_)
          case qc3 => unfold maxLen; omega
          case qc4 => omega
          case qc5 => exact hsz
          intro v' w2 hown hgr _
          have HO2 := Lib.hid hown
          have hx2 : Ext w w2 := Ext.own hx HW.out (Nat.le_refl _) hgr
          clear hown hgr
          go_wp2_with fail
          go_roundw
          case rel => exact ⟨hx2, .inr (.inr ⟨rfl, HO2⟩)⟩
          case measure => simp [intOf]
        · go_wp2_with fail
          go_ret
          exact ⟨_, rfl, HW.out, hx⟩
end Go.Proofs.Ythmpolifgngdiaa
