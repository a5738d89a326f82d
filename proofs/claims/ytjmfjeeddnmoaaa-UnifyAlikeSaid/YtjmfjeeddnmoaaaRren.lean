/- The document's own renaming: almagestref1.Rename. -/
import Derived.Test.YtjmfjeeddnmoaaaRen
import Derived.Test.YtjmfjeeddnmoaaaSpoil
import Derived.Test.YtjmfjeeddnmoaaaRb
import Derived.Deep.Slices
namespace Go.Proofs.Ytjmfjeeddnmoaaa
open Go.RowKit

/-- a term that lies behind block lo -/
inductive TmHi (w : World) (lo : Nat) : Tm → Option Addr → Nat → Prop
  | mk (t : Tm) (A : Option Addr) (c : Nat) (g : Nat → Option Addr) (d : Nat → Nat) (fits : t.Fits) (cap : t.args.length ≤ c) (row : RowAt w t.args A g d) (hi : ∀ b o, A = some ⟨b, o, none⟩ → 0 < t.args.length → lo ≤ b)
      (sub : ∀ i (h : i < t.args.length), TmHi w lo t.args[i] (g i) (d i)) : TmHi w lo t A c
theorem TmHi.at_ {w : World} {lo : Nat} {t : Tm} {A : Option Addr} {c : Nat} (h : TmHi w lo t A c) : TmAt w t A c := by
  induction h with
  | mk t A c g d fits cap row hi sub ih => exact .mk t A c g d fits cap row ih
theorem TmHi.keep {w w' : World} {lo : Nat} {t : Tm} {A : Option Addr} {c : Nat} (h : TmHi w lo t A c) (k : ∀ b, lo ≤ b → b < w.heap.size → w'.heap[b]? = w.heap[b]?) : TmHi w' lo t A c := by
  induction h with
  | mk t A c g d fits cap row hi sub ih =>
    refine .mk t A c g d fits cap (fun i hi' => ?_) hi ih
    obtain ⟨b, o, e, h0, h1, h2, h3⟩ := row i hi'
    have hb : w'.heap[b]? = w.heap[b]? := k b (hi b o e (by omega)) (World.block_lt_of_cell? w _ h0)
    exact ⟨b, o, e, cell_same hb h0, cell_same hb h1, cell_same hb h2, cell_same hb h3⟩
theorem TmHi.weak {w : World} {lo lo' : Nat} {t : Tm} {A : Option Addr} {c : Nat} (h : TmHi w lo t A c) (k : lo' ≤ lo) : TmHi w lo' t A c := by
  induction h with
  | mk t A c g d fits cap row hi sub ih => exact .mk t A c g d fits cap row (fun b o e hl => Nat.le_trans k (hi b o e hl)) ih
theorem TmHi.ext {w w' : World} {lo : Nat} {t : Tm} {A : Option Addr} {c : Nat} (h : TmHi w lo t A c) (k : Ext w w') : TmHi w' lo t A c := h.keep fun b _ hb => k.block b hb

theorem Box4.set_1 {w : World} {g : Nat} {v0 v1 v2 v3 : Value} (h : Box4 w g v0 v1 v2 v3) (u : Value) : Box4 (w.setCell ⟨g, 1, none⟩ u) g v0 u v2 v3 := by
  obtain ⟨a, b, c, d, f0, f1, f2, f3⟩ := h
  exact ⟨by go_simp, by go_simp, by go_simp, by go_simp, by go_simp, by go_simp, by go_simp, by go_simp⟩
theorem Box4.set_all {w : World} {g : Nat} {v0 v1 v2 v3 : Value} (h : Box4 w g v0 v1 v2 v3) (u0 u1 u2 u3 : Value) : Box4 (set4 w g 0 u0 u1 u2 u3) g u0 u1 u2 u3 := by
  obtain ⟨a, b, c, d, f0, f1, f2, f3⟩ := h
  obtain ⟨x0, x1, x2, x3⟩ := set4_cells (o := 0) u0 u1 u2 u3 a b c d
  exact ⟨x0, x1, x2, x3, (set4_frozen _ _ _ _ _ _ _ _).trans f0, (set4_frozen _ _ _ _ _ _ _ _).trans f1, (set4_frozen _ _ _ _ _ _ _ _).trans f2, (set4_frozen _ _ _ _ _ _ _ _).trans f3⟩

mutual
/-- no name too long? -/
def okR (s : ByteArray) : Tm → Bool
  | ⟨k, m, _, l⟩ => if (k == 1) = true then decide (m.size + s.size ≤ 16) else okRL s l
def okRL (s : ByteArray) : List Tm → Bool
  | [] => true
  | t :: ts => okR s t && okRL s ts
end
theorem okR_eq (s : ByteArray) (t : Tm) : okR s t = if (t.kind == 1) = true then decide (t.name.size + s.size ≤ 16) else okRL s t.args := by obtain ⟨k, m, n, l⟩ := t; rw [okR]

def RRen (s : ByteArray) (t : Tm) (w : World) (e : Ending) (w' : World) : Prop :=
  Ext w w' ∧ ((okR s t = true ∧ ∃ A c, e = .returned (.tuple #[(renT s t).val A c, .bool true]) ∧ TmHi w' w.heap.size (renT s t) A c) ∨
    (okR s t = false ∧ ∃ k m n B l c, e = .returned (.tuple #[.agg #[.int .i64 k, .string m, .int .i64 n, .slice B l c], .bool false])))

/-- up to k the row has the renamed ones -/
def RowDone (w : World) (s : ByteArray) (ts : List Tm) (b o lo : Nat) (k : Nat) : Prop :=
  ∀ i (h : i < ts.length), i < k → ∃ A c, w.cell? ⟨b, o + i * 4, none⟩ = some (.int .i64 (renT s ts[i]).kind) ∧ w.cell? ⟨b, o + i * 4 + 1, none⟩ = some (.string (renT s ts[i]).name) ∧
    w.cell? ⟨b, o + i * 4 + 2, none⟩ = some (.int .i64 (renT s ts[i]).n) ∧ w.cell? ⟨b, o + i * 4 + 3, none⟩ = some (.slice A (renT s ts[i]).args.length c) ∧ TmHi w lo (renT s ts[i]) A c

theorem RowDone.next {w w1 : World} {s : ByteArray} {ts : List Tm} {b o lo k : Nat} (h : RowDone w s ts b o lo k) (hk : k < ts.length) (hx : Ext w w1) {A : Option Addr} {c : Nat} (hH : TmHi w1 lo (renT s ts[k]) A c) (hb : b < lo)
    {u0 u1 u2 u3 : Value} (h0 : w.cell? ⟨b, o + k * 4, none⟩ = some u0) (h1 : w.cell? ⟨b, o + k * 4 + 1, none⟩ = some u1) (h2 : w.cell? ⟨b, o + k * 4 + 2, none⟩ = some u2) (h3 : w.cell? ⟨b, o + k * 4 + 3, none⟩ = some u3) :
    RowDone (set4 w1 b (o + k * 4) (.int .i64 (renT s ts[k]).kind) (.string (renT s ts[k]).name) (.int .i64 (renT s ts[k]).n) (.slice A (renT s ts[k]).args.length c)) s ts b o lo (k + 1) := by
  intro i hi hik
  by_cases hlt : i < k
  · obtain ⟨A', c', g0, g1, g2, g3, g4⟩ := h i hi hlt
    refine ⟨A', c', ?_, ?_, ?_, ?_, ?_⟩
    · rw [set4_other _ _ _ _ _ _ _ _ (by omega)]; exact hx.cell g0
    · rw [set4_other _ _ _ _ _ _ _ _ (by omega)]; exact hx.cell g1
    · rw [set4_other _ _ _ _ _ _ _ _ (by omega)]; exact hx.cell g2
    · rw [set4_other _ _ _ _ _ _ _ _ (by omega)]; exact hx.cell g3
    · exact (g4.ext hx).keep fun x hx _ => set4_block _ _ _ _ _ _ _ _ (by omega)
  · have e : i = k := by omega
    subst e
    obtain ⟨c0, c1, c2, c3⟩ := set4_cells (.int .i64 (renT s ts[i]).kind) (.string (renT s ts[i]).name) (.int .i64 (renT s ts[i]).n) (.slice A (renT s ts[i]).args.length c) (hx.cell h0) (hx.cell h1) (hx.cell h2) (hx.cell h3)
    exact ⟨A, c, c0, c1, c2, c3, hH.keep fun x hx _ => set4_block _ _ _ _ _ _ _ _ (by omega)⟩
theorem RowFrom.ext {w w' : World} {ts : List Tm} {b o : Nat} {g : Nat → Option Addr} {d : Nat → Nat} {G : Nat → Nat → Prop} {k : Nat} (h : RowFrom w ts b o g d G k) (x : Ext w w') (hb : b < w.heap.size) : RowFrom w' ts b o g d G k :=
  ⟨fun i hi hk => by obtain ⟨h0, h1, h2, h3, h4⟩ := h.1 i hi hk; exact ⟨x.cell h0, x.cell h1, x.cell h2, x.cell h3, h4.ext x⟩, fun j hj => (Below.frozen x hb).trans (h.2 j hj)⟩
theorem RowDone.ext {w w' : World} {s : ByteArray} {ts : List Tm} {b o lo k : Nat} (h : RowDone w s ts b o lo k) (x : Ext w w') : RowDone w' s ts b o lo k := fun i hi hk => by
  obtain ⟨A, c, h0, h1, h2, h3, h4⟩ := h i hi hk
  exact ⟨A, c, x.cell h0, x.cell h1, x.cell h2, x.cell h3, h4.ext x⟩
theorem RowDone.done {w : World} {s : ByteArray} {t : Tm} {b o lo lo' k c : Nat} (h : RowDone w s t.args b o lo k) (hk : t.args.length ≤ k) (fits : (renT s t).Fits) (hc : t.args.length ≤ c) (hlo : lo' ≤ b) (hlo2 : lo' ≤ lo) : TmHi w lo' (renT s t) (some ⟨b, o, none⟩) c := by
  haveI : Inhabited (Option Addr × Nat) := ⟨(none, 0)⟩
  obtain ⟨f, hf⟩ := Go.Deep.choose_lt (α := Option Addr × Nat) (n := t.args.length) (p := fun i y => ∀ hi : i < t.args.length, w.cell? ⟨b, o + i * 4, none⟩ = some (.int .i64 (renT s t.args[i]).kind) ∧ w.cell? ⟨b, o + i * 4 + 1, none⟩ = some (.string (renT s t.args[i]).name) ∧
      w.cell? ⟨b, o + i * 4 + 2, none⟩ = some (.int .i64 (renT s t.args[i]).n) ∧ w.cell? ⟨b, o + i * 4 + 3, none⟩ = some (.slice y.1 (renT s t.args[i]).args.length y.2) ∧ TmHi w lo (renT s t.args[i]) y.1 y.2) (fun i hi => by
        obtain ⟨A, c, hall⟩ := h i hi (by omega)
        exact ⟨(A, c), fun _ => hall⟩)
  have hl : (renT s t).args.length = t.args.length := by rw [renT_args, renL_len]
  have hat : ∀ i (hi : i < (renT s t).args.length), (renT s t).args[i] = renT s (t.args[i]'(by omega)) := fun i hi => by
    have := renL_at s t.args i (by omega)
    simp only [renT_args] at hi ⊢
    exact this
  refine .mk (renT s t) _ c (fun i => (f i).1) (fun i => (f i).2) fits (by omega) (fun i hi => ?_) (fun b' o' e _ => by injection e with e; injection e with e1 e2; omega) (fun i hi => ?_)
  · obtain ⟨g0, g1, g2, g3, _⟩ := hf i (by omega) (by omega)
    rw [hat i hi]
    exact ⟨b, o, rfl, g0, g1, g2, g3⟩
  · rw [hat i hi]
    exact ((hf i (by omega) (by omega)).2.2.2.2).weak hlo2
set_option maxRecDepth 100000 in
set_option maxHeartbeats 4000000 in
theorem rren_any (hh : Nat) : ∀ (t : Tm) (s : ByteArray) (A : Option Addr) (c : Nat) (w : World), t.high ≤ hh → allP t → s.size ≤ 100000 → TmAt w t A c →
    Calls Try.prog 35 #[t.val A c, .string s] w (RRen s t w) := by
  induction hh with
  | zero => intro t s A c w h0; have := high_pos t; omega
  | succ hh ih =>
    intro t s A c w h0 hp hs h
    have IH := Lib.hid ih
    clear ih
    have hl := h.fits.args
    have hn := plain_name hp.plain
    have HF := Lib.hid (ren_fits h.fits hn hs)
    have HK := Lib.hid (renT_kind s t)
    have HNN := Lib.hid (renT_n s t)
    have HAL : Hid ((renT s t).args.length = t.args.length) := Lib.hid (by rw [renT_args, renL_len])
    have HAR := Lib.hid (renT_args s t)
    have HOK := Lib.hid (okR_eq s t)
    go_enter Try.func35, Try.ntmps35
    go_wp2_with fail
    refine (copy_all _ t A c _ (Nat.le_refl _) (h.ext (((Ext.refl _).alloc _).alloc _))).mono ?_
    rintro e w1 ⟨A1, c1, rfl, hO, hx1⟩
    have hx01 := (((Ext.refl w).alloc _).alloc _).trans hx1
    have hsz : w.heap.size + 1 + 1 ≤ w1.heap.size := by have := hx1.size; simpa using this
    have HO : Hid (TmOwn w1 t A1 c1 (fun k => w.heap.size + 1 + 1 ≤ k ∧ k < w1.heap.size)) := Lib.hid (hO.weak fun b hb => by simpa using hb)
    have HT : Hid (Box4 w1 w.heap.size (.int .i64 t.kind) (.string t.name) (.int .i64 t.n) (.slice A t.args.length c)) := Lib.hid (Box4.ext ⟨by go_simp, by go_simp, by go_simp, by go_simp, by go_simp, by go_simp, by go_simp, by go_simp⟩ hx1)
    have HR : Hid (Box4 w1 (w.heap.size + 1) (.int .i64 0) (.string ⟨#[]⟩) (.int .i64 0) (.slice none 0 0)) := Lib.hid (Box4.ext ⟨by go_simp, by go_simp, by go_simp, by go_simp, by go_simp, by go_simp, by go_simp, by go_simp⟩ hx1)
    obtain ⟨b0, b1, b2, b3, f0, f1, f2, f3⟩ := HT.out
    obtain ⟨r0, r1, r2, r3, g0, g1, g2, g3⟩ := HR.out
    clear hO hx1
    by_cases hk1 : (t.kind == 1) = true
    · have E := Lib.hid (HOK.out.trans (if_pos hk1))
      have hN : Hid ((renT s t).name = t.name ++ s) := Lib.hid (by rw [renT_name, if_pos hk1])
      have hne : t.args = [] := by
        have := hp.plain
        unfold plainB at this
        rw [if_pos hk1] at this
        simp at this
        exact this.2
      have HE : Hid ((renT s t).args = []) := Lib.hid (by rw [renT_args, hne]; rfl)
      have HZ : Hid (t.args.length = 0) := Lib.hid (by rw [hne]; rfl)
      clear hne
      go_wp2_with fail
      have HT2 : Hid (Box4 (((((w1.setCell ⟨w.heap.size, 0, none⟩ (.int .i64 t.kind)).setCell ⟨w.heap.size, 1, none⟩ (.string t.name)).setCell ⟨w.heap.size, 2, none⟩ (.int .i64 t.n)).setCell ⟨w.heap.size, 3, none⟩ (.slice A1 t.args.length c1)).setCell ⟨w.heap.size, 1, none⟩ (.string (t.name ++ s))) w.heap.size (.int .i64 t.kind) (.string (t.name ++ s)) (.int .i64 t.n) (.slice A1 t.args.length c1)) := Lib.hid ((HT.out.set_all (.int .i64 t.kind) (.string t.name) (.int .i64 t.n) (.slice A1 t.args.length c1)).set_1 _)
      have HR2 : Hid (Box4 (((((w1.setCell ⟨w.heap.size, 0, none⟩ (.int .i64 t.kind)).setCell ⟨w.heap.size, 1, none⟩ (.string t.name)).setCell ⟨w.heap.size, 2, none⟩ (.int .i64 t.n)).setCell ⟨w.heap.size, 3, none⟩ (.slice A1 t.args.length c1)).setCell ⟨w.heap.size, 1, none⟩ (.string (t.name ++ s))) (w.heap.size + 1) (.int .i64 0) (.string ⟨#[]⟩) (.int .i64 0) (.slice none 0 0)) := Lib.hid (HR.out.same (by
        have n1 : w.heap.size + 1 ≠ w.heap.size := by omega
        rw [Below.heap_setCell _ _ _ _ n1, Below.heap_setCell _ _ _ _ n1, Below.heap_setCell _ _ _ _ n1, Below.heap_setCell _ _ _ _ n1, Below.heap_setCell _ _ _ _ n1]))
      have hx2 : Ext w (((((w1.setCell ⟨w.heap.size, 0, none⟩ (.int .i64 t.kind)).setCell ⟨w.heap.size, 1, none⟩ (.string t.name)).setCell ⟨w.heap.size, 2, none⟩ (.int .i64 t.n)).setCell ⟨w.heap.size, 3, none⟩ (.slice A1 t.args.length c1)).setCell ⟨w.heap.size, 1, none⟩ (.string (t.name ++ s))) := ((((hx01.setCell (p := ⟨w.heap.size, 0, none⟩) (Nat.le_refl _) _).setCell (p := ⟨w.heap.size, 1, none⟩) (Nat.le_refl _) _).setCell (p := ⟨w.heap.size, 2, none⟩) (Nat.le_refl _) _).setCell (p := ⟨w.heap.size, 3, none⟩) (Nat.le_refl _) _).setCell (p := ⟨w.heap.size, 1, none⟩) (Nat.le_refl _) _
      generalize (((((w1.setCell ⟨w.heap.size, 0, none⟩ (.int .i64 t.kind)).setCell ⟨w.heap.size, 1, none⟩ (.string t.name)).setCell ⟨w.heap.size, 2, none⟩ (.int .i64 t.n)).setCell ⟨w.heap.size, 3, none⟩ (.slice A1 t.args.length c1)).setCell ⟨w.heap.size, 1, none⟩ (.string (t.name ++ s))) = w2 at *
      clear b0 b1 b2 b3 f0 f1 f2 f3 r0 r1 r2 r3 g0 g1 g2 g3 HT HR HO hx01 hsz
      obtain ⟨b0, b1, b2, b3, f0, f1, f2, f3⟩ := HT2.out
      obtain ⟨r0, r1, r2, r3, g0, g1, g2, g3⟩ := HR2.out
      have lb := World.block_lt_of_cell? w2 _ r0
      simp only at lb
      go_region
      go_wp2_with fail
      refine bodyPost_ret (v := .tuple #[.agg #[.int .i64 t.kind, .string (t.name ++ s), .int .i64 t.n, .slice A1 t.args.length c1], .bool (decide ((t.name.size : Int) + (s.size : Int) ≤ 16))]) (by simp [results, Try.results35, go_sem, *]) rfl ⟨Chg.ext_of hx2.drew (set4_chg w2.drew (w.heap.size + 1) 0 _ _ _ _ (F := fun x => x = w.heap.size + 1) rfl) (fun b hb => by omega), ?_⟩
      by_cases hlen : t.name.size + s.size ≤ 16
      · refine .inl ⟨by rw [E.out]; simp [hlen], A1, c1, ?_, .mk _ _ _ (fun _ => none) (fun _ => 0) HF.out (by have := HAL.out; have := HZ.out; omega) (fun i hi => absurd hi (by have := HAL.out; have := HZ.out; omega)) (fun b o e hl => absurd hl (by have := HAL.out; have := HZ.out; omega)) (fun i hi => absurd hi (by have := HAL.out; have := HZ.out; omega))⟩
        have hd : decide ((t.name.size : Int) + (s.size : Int) ≤ 16) = true := decide_eq_true (by omega)
        simp only [Tm.val, HK.out, HNN.out, HAL.out, hN.out, hd]
      · have hd : decide ((t.name.size : Int) + (s.size : Int) ≤ 16) = false := decide_eq_false (by omega)
        exact .inr ⟨by rw [E.out]; simp [hlen], _, _, _, _, _, _, by rw [hd]⟩
    · have E := Lib.hid (HOK.out.trans (if_neg hk1))
      have hN : Hid ((renT s t).name = t.name) := Lib.hid (by rw [renT_name, if_neg hk1])
      have hk1' := not_true hk1
      clear hk1
      go_wp2_with fail
      have HT2 : Hid (Box4 ((((w1.setCell ⟨w.heap.size, 0, none⟩ (.int .i64 t.kind)).setCell ⟨w.heap.size, 1, none⟩ (.string t.name)).setCell ⟨w.heap.size, 2, none⟩ (.int .i64 t.n)).setCell ⟨w.heap.size, 3, none⟩ (.slice A1 t.args.length c1)) w.heap.size (.int .i64 t.kind) (.string t.name) (.int .i64 t.n) (.slice A1 t.args.length c1)) := Lib.hid (HT.out.set_all (.int .i64 t.kind) (.string t.name) (.int .i64 t.n) (.slice A1 t.args.length c1))
      have HR2 : Hid (Box4 ((((w1.setCell ⟨w.heap.size, 0, none⟩ (.int .i64 t.kind)).setCell ⟨w.heap.size, 1, none⟩ (.string t.name)).setCell ⟨w.heap.size, 2, none⟩ (.int .i64 t.n)).setCell ⟨w.heap.size, 3, none⟩ (.slice A1 t.args.length c1)) (w.heap.size + 1) (.int .i64 0) (.string ⟨#[]⟩) (.int .i64 0) (.slice none 0 0)) := Lib.hid (HR.out.same (set4_block w1 w.heap.size 0 _ _ _ _ (w.heap.size + 1) (by omega)))
      have hx2 : Ext w ((((w1.setCell ⟨w.heap.size, 0, none⟩ (.int .i64 t.kind)).setCell ⟨w.heap.size, 1, none⟩ (.string t.name)).setCell ⟨w.heap.size, 2, none⟩ (.int .i64 t.n)).setCell ⟨w.heap.size, 3, none⟩ (.slice A1 t.args.length c1)) := Chg.ext_of hx01 (set4_chg w1 w.heap.size 0 _ _ _ _ (F := fun x => x = w.heap.size) rfl) (fun b hb => by omega)
      have HO2 : Hid (TmOwn ((((w1.setCell ⟨w.heap.size, 0, none⟩ (.int .i64 t.kind)).setCell ⟨w.heap.size, 1, none⟩ (.string t.name)).setCell ⟨w.heap.size, 2, none⟩ (.int .i64 t.n)).setCell ⟨w.heap.size, 3, none⟩ (.slice A1 t.args.length c1)) t A1 c1 (fun k => w.heap.size + 1 + 1 ≤ k ∧ k < w1.heap.size)) := Lib.hid (HO.out.keep fun b hb _ => set4_block w1 w.heap.size 0 _ _ _ _ b (by omega))
      have hs2 : ((((w1.setCell ⟨w.heap.size, 0, none⟩ (.int .i64 t.kind)).setCell ⟨w.heap.size, 1, none⟩ (.string t.name)).setCell ⟨w.heap.size, 2, none⟩ (.int .i64 t.n)).setCell ⟨w.heap.size, 3, none⟩ (.slice A1 t.args.length c1)).heap.size = w1.heap.size := set4_size w1 w.heap.size 0 _ _ _ _
      have HS2 := Lib.hid hs2
      clear hs2
      generalize ((((w1.setCell ⟨w.heap.size, 0, none⟩ (.int .i64 t.kind)).setCell ⟨w.heap.size, 1, none⟩ (.string t.name)).setCell ⟨w.heap.size, 2, none⟩ (.int .i64 t.n)).setCell ⟨w.heap.size, 3, none⟩ (.slice A1 t.args.length c1)) = w2 at *
      clear b0 b1 b2 b3 f0 f1 f2 f3 r0 r1 r2 r3 g0 g1 g2 g3 HT HR HO hx01
      by_cases hpos : 0 < t.args.length
      · have hall := Lib.hid hp.args
        have hown := HO2.out
        cases hown with
        | mk _ _ _ _ g d G fits cap row sub =>
        obtain ⟨b, o, rfl, _⟩ := row.row 0 hpos
        obtain ⟨hFb, hGb, hfz⟩ := row.own b o rfl hpos
        have hap := Lib.hid row.apart
        have hGB := Lib.hid hGb
        have R0 : Hid (RowFrom w2 t.args b o g d G 0) := Lib.hid ⟨fun i hi _ => by
          obtain ⟨b', o', e, h0, h1, h2, h3⟩ := row.row i hi
          injection e with e; injection e with e1 e2; subst e1 e2
          exact ⟨h0, h1, h2, h3, sub i hi⟩, hfz⟩
        have hb2 : w.heap.size + 1 + 1 ≤ b := hFb.1
        have hb1 : b < w1.heap.size := hFb.2
        have D0 : Hid (RowDone w2 s t.args b o w1.heap.size 0) := Lib.hid (fun i hi h => absurd h (by omega))
        have E0 : Hid (okRL s (t.args.drop 0) = okR s t) := Lib.hid (by rw [List.drop_zero]; exact E.out.symm)
        clear row sub hfz hGb hFb HO2 E
        go_loopw [6] (fun i wr => ∃ k : Nat, k ≤ t.args.length ∧ i = .int .i64 k ∧ Hid (RowFrom wr t.args b o g d G k) ∧ Hid (RowDone wr s t.args b o w1.heap.size k) ∧ Hid (okRL s (t.args.drop k) = okR s t) ∧ Ext w wr ∧ w1.heap.size ≤ wr.heap.size ∧
          Hid (Box4 wr w.heap.size (.int .i64 t.kind) (.string t.name) (.int .i64 t.n) (.slice (some ⟨b, o, none⟩) t.args.length c1)) ∧ Hid (Box4 wr (w.heap.size + 1) (.int .i64 0) (.string ⟨#[]⟩) (.int .i64 0) (.slice none 0 0))) (fun i _ => t.args.length - (intOf i).toNat)
        case atStart => exact ⟨0, Nat.zero_le _, rfl, R0, D0, E0, hx2, by have := HS2.out; omega, HT2, HR2⟩
        case round =>
          obtain ⟨k, hk, rfl, HRF, HRD, HRE, hxr, hsr, HBT, HBR⟩ := hrel
          have t3 := HBT.out.2.2.2.1
          have lt3 := World.block_lt_of_cell? wr _ t3
          simp only at lt3
          by_cases hlt : k < t.args.length
          · obtain ⟨c0, c1', c2, c3, hsub⟩ := HRF.out.1 k hlt (Nat.le_refl _)
            have hbw : b < wr.heap.size := by omega
            have hh1 := high_lt hlt
            go_wp2_with fail
            refine (IH.out t.args[k] s _ _ _ (by omega) (allPs_mem hall.out (List.getElem_mem hlt)) hs hsub.at_).mono ?_
            rintro e w3 ⟨hx3, hcase⟩
            rcases hcase with ⟨hok, A', c', rfl, hH⟩ | ⟨hno, k', m', n', B', l', c', rfl⟩
            · have HRE2 : Hid (okRL s (t.args.drop (k + 1)) = okR s t) := Lib.hid (by have := HRE.out; rwa [List.drop_eq_getElem_cons hlt, okRL, hok, Bool.true_and] at this)
              have t3' := hx3.cell t3
              have z0 := HRF.out.2 (k * 4) (by omega)
              have z1 := HRF.out.2 (k * 4 + 1) (by omega)
              have z2 := HRF.out.2 (k * 4 + 2) (by omega)
              have z3 := HRF.out.2 (k * 4 + 3) (by omega)
              simp only [← Nat.add_assoc] at z1 z2 z3
              have y0 := hx3.cell c0
              have y1 := hx3.cell c1'
              have y2 := hx3.cell c2
              have y3 := hx3.cell c3
              have q0 := (Below.frozen hx3 (p := ⟨b, o + k * 4, none⟩) hbw).trans z0
              have q1 := (Below.frozen hx3 (p := ⟨b, o + k * 4 + 1, none⟩) hbw).trans z1
              have q2 := (Below.frozen hx3 (p := ⟨b, o + k * 4 + 2, none⟩) hbw).trans z2
              have q3 := (Below.frozen hx3 (p := ⟨b, o + k * 4 + 3, none⟩) hbw).trans z3
              have hs3 := hx3.size
              have hbw3 : b < w3.heap.size := by omega
              have lt3' : w.heap.size < w3.heap.size := by omega
              have hne : b ≠ w3.heap.size := by omega
              have hne2 : b ≠ w.heap.size := by omega
              have NX : Hid (∀ o', RowFrom ((set4 w3 b (o + k * 4) (.int .i64 (renT s t.args[k]).kind) (.string (renT s t.args[k]).name) (.int .i64 (renT s t.args[k]).n) (.slice A' (renT s t.args[k]).args.length c')).alloc o') t.args b o g d G (k + 1) ∧
                  RowDone ((set4 w3 b (o + k * 4) (.int .i64 (renT s t.args[k]).kind) (.string (renT s t.args[k]).name) (.int .i64 (renT s t.args[k]).n) (.slice A' (renT s t.args[k]).args.length c')).alloc o') s t.args b o w1.heap.size (k + 1)) := Lib.hid fun o' =>
                ⟨(HRF.out.next hlt (Chg.of_ext hx3) hGB.out hap.out _ _ _ _ hbw).ext ((Ext.refl _).alloc o') (by rw [set4_size]; exact hbw3), (HRD.out.next hlt hx3 (hH.weak hsr) hb1 c0 c1' c2 c3).ext ((Ext.refl _).alloc o')⟩
              have HBT3 := Lib.hid (HBT.out.ext hx3)
              have HBR3 := Lib.hid (HBR.out.ext hx3)
              clear z0 z1 z2 z3 c0 c1' c2 c3 t3 hH HRF HRD HRE HBT HBR hsub hok
              go_wp2_with fail
              go_roundw
              case rel =>
                refine ⟨k + 1, by omega, by go_num, Lib.hid (NX.out _).1, Lib.hid (NX.out _).2, HRE2, ?_, ?_, ?_, ?_⟩
                · exact (Chg.ext_of (hxr.trans hx3) (set4_chg w3 b (o + k * 4) _ _ _ _ (F := fun x => x = b) rfl) (fun x hx => by omega)).alloc _
                · have := set4_size w3 b (o + k * 4) (.int .i64 (renT s t.args[k]).kind) (.string (renT s t.args[k]).name) (.int .i64 (renT s t.args[k]).n) (.slice A' (renT s t.args[k]).args.length c')
                  exact Nat.le_trans (show w1.heap.size ≤ (set4 w3 b (o + k * 4) (.int .i64 (renT s t.args[k]).kind) (.string (renT s t.args[k]).name) (.int .i64 (renT s t.args[k]).n) (.slice A' (renT s t.args[k]).args.length c')).heap.size by omega) (Below.size ((Ext.refl _).alloc _))
                · exact Lib.hid ((HBT3.out.same (set4_block w3 b (o + k * 4) _ _ _ _ _ (Ne.symm hne2))).ext ((Ext.refl _).alloc _))
                · exact Lib.hid ((HBR3.out.same (set4_block w3 b (o + k * 4) _ _ _ _ _ (by omega))).ext ((Ext.refl _).alloc _))
              case measure => simp [intOf]; omega
            · have HNO : Hid (okR s t = false) := Lib.hid (by have := HRE.out; rw [List.drop_eq_getElem_cons hlt, okRL, hno, Bool.false_and] at this; exact this.symm)
              obtain ⟨r0, r1, r2, r3, g0, g1, g2, g3⟩ := HBR.out.ext hx3
              have lr := World.block_lt_of_cell? w3 _ r0
              simp only at lr
              clear HRF HRD HRE HBT HBR hno
              go_wp2_with fail
              refine bodyPost_ret (v := .tuple #[.agg #[.int .i64 0, .string ⟨#[]⟩, .int .i64 0, .slice none 0 0], .bool false]) (by simp [results, Try.results35, go_sem, *]) rfl ⟨(Chg.ext_of (hxr.trans hx3) (set4_chg w3 (w.heap.size + 1) 0 _ _ _ _ (F := fun x => x = w.heap.size + 1) rfl) (fun b hb => by omega)).alloc _, .inr ⟨HNO.out, _, _, _, _, _, _, rfl⟩⟩
          · have HOKT : Hid (okR s t = true) := Lib.hid (by have := HRE.out; rw [show t.args.drop k = [] from List.drop_eq_nil_of_le (by omega), okRL] at this; exact this.symm)
            have HH : Hid (TmHi wr (w.heap.size + 1 + 1) (renT s t) (some ⟨b, o, none⟩) c1) := Lib.hid (HRD.out.done (by omega) HF.out cap hb2 (by omega))
            obtain ⟨b0, b1, b2, b3, _, _, _, _⟩ := HBT.out
            obtain ⟨r0, r1, r2, r3, g0, g1, g2, g3⟩ := HBR.out
            clear HRF HRD HRE HBT HBR
            go_wp2_with fail
            refine bodyPost_ret (v := .tuple #[.agg #[.int .i64 t.kind, .string t.name, .int .i64 t.n, .slice (some ⟨b, o, none⟩) t.args.length c1], .bool true]) (by simp [results, Try.results35, go_sem, *]) rfl ⟨Chg.ext_of hxr (set4_chg wr (w.heap.size + 1) 0 _ _ _ _ (F := fun x => x = w.heap.size + 1) rfl) (fun b hb => by omega), .inl ⟨HOKT.out, _, _, ?_, (HH.out.keep fun x hx _ => set4_block wr (w.heap.size + 1) 0 _ _ _ _ x (by omega)).weak (by omega)⟩⟩
            simp only [Tm.val, HK.out, HNN.out, HAL.out, hN.out]
      · have hz : decide (0 < t.args.length) = false := decide_eq_false hpos
        have HE : Hid ((renT s t).args.length = 0) := Lib.hid (by have := HAL.out; omega)
        have HOKT : Hid (okR s t = true) := Lib.hid (by rw [E.out, show t.args = [] from List.eq_nil_of_length_eq_zero (by omega), okRL])
        clear hpos HO2
        go_loopw [6] (fun i wr => i = .int .i64 0 ∧ Ext w wr ∧ Hid (Box4 wr w.heap.size (.int .i64 t.kind) (.string t.name) (.int .i64 t.n) (.slice A1 t.args.length c1)) ∧ Hid (Box4 wr (w.heap.size + 1) (.int .i64 0) (.string ⟨#[]⟩) (.int .i64 0) (.slice none 0 0))) (fun _ _ => 0)
        case atStart => exact ⟨rfl, hx2, HT2, HR2⟩
        case round =>
          obtain ⟨rfl, hxr, HBT, HBR⟩ := hrel
          obtain ⟨b0, b1, b2, b3, _, _, _, _⟩ := HBT.out
          obtain ⟨r0, r1, r2, r3, g0, g1, g2, g3⟩ := HBR.out
          clear HBT HBR HT2 HR2
          go_wp2_with fail
          refine bodyPost_ret (v := .tuple #[.agg #[.int .i64 t.kind, .string t.name, .int .i64 t.n, .slice A1 t.args.length c1], .bool true]) (by simp [results, Try.results35, go_sem, *]) rfl ⟨Chg.ext_of hxr (set4_chg wr (w.heap.size + 1) 0 _ _ _ _ (F := fun x => x = w.heap.size + 1) rfl) (fun b hb => by omega), .inl ⟨HOKT.out, A1, c1, ?_, .mk _ _ _ (fun _ => none) (fun _ => 0) HF.out (by have := HE.out; omega) (fun i hi => absurd hi (by have := HE.out; omega)) (fun b o e hl => absurd hl (by have := HE.out; omega)) (fun i hi => absurd hi (by have := HE.out; omega))⟩⟩
          simp only [Tm.val, HK.out, HNN.out, HAL.out, hN.out]
end Go.Proofs.Ytjmfjeeddnmoaaa
