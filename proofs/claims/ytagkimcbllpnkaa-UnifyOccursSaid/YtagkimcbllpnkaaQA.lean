/- Joined: Uoe, Uow. -/
import Derived.Test.YtagkimcbllpnkaaPA

/- UnifyOccurs: what the made terms come to (pure). -/
namespace Go.Proofs.Ytagkimcbllpnkaa
def gT (t : Tm) : Tm := fTm ⟨#[103]⟩ [t]
def o1 : Tm := fTm ⟨#[102]⟩ [vTm nX]
def o2 : Tm := fTm ⟨#[102]⟩ [vTm nX, vTm nY]
def o3 : Tm := fTm ⟨#[102]⟩ [gT (vTm nY), gT (vTm nX)]
def o4 : Tm := fTm ⟨#[102]⟩ [vTm nX, vTm nY, vTm nW]
def o5 : Tm := fTm ⟨#[102]⟩ [vTm nY, vTm nW, cT]
theorem oc_1 : unifP 8 [] (vTm nX) o1 = (3, []) := by kernel_rfl
theorem oc_2 : unifP 8 [] o2 o3 = (3, []) := by kernel_rfl
theorem oc_3 : unifP 8 [] o4 o5 = (0, [⟨nW, cT⟩, ⟨nX, cT⟩, ⟨nY, cT⟩]) := by kernel_rfl
theorem oc_4 : unifP 8 [] (vTm nX) (vTm nX) = (0, []) := by kernel_rfl
theorem oc1_uny : unyP 8 [] (vTm nX) o1 = (3, []) := by kernel_rfl
theorem oc2_uny : unyP 8 [] o2 o3 = (3, []) := by kernel_rfl
theorem oc3_uny : unyP 8 [] o4 o5 = (0, [⟨nW, cT⟩, ⟨nX, cT⟩, ⟨nY, cT⟩]) := by kernel_rfl
theorem oc4_uny : unyP 8 [] (vTm nX) (vTm nX) = (0, []) := by kernel_rfl
end Go.Proofs.Ytagkimcbllpnkaa

/- UnifyOccurs: the walk. -/
namespace Go.Proofs.Ytagkimcbllpnkaa
open Go.RowKit

theorem hi_zero {w : World} {t : Tm} {A : Option Addr} {c : Nat} (h : TmAt w t A c) : TmHi w 0 t A c := by
  induction h with
  | mk t A c g d fits cap row sub ih => exact .mk t A c g d fits cap row (fun _ _ _ _ => Nat.zero_le _) ih
/-- a row of terms at g -/
def RowIn (u : World) (g : Nat) (xs : List Lain) : Prop := ∀ j v, (rowCells xs)[j]? = some v → u.cell? ⟨g, j, none⟩ = some v
def NmOut (t : Tm) (u : World) (e : Ending) (w' : World) : Prop := ∃ A c, e = .returned (t.val A c) ∧ Hid (TmAt w' t A c) ∧ Ext u w'
theorem name_row (s : ByteArray) (xs : List Lain) (n g : Nat) (u : World) (hs : s.size ≤ 140737488351232) (hn : xs.length = n) (hl : n ≤ 1000) (hr : RowIn u g xs) (hx : ∀ x ∈ xs, TmAt u x.1 x.2.1 x.2.2) :
    Calls Try.prog 62 #[.string s, .slice (some ⟨g, 0, none⟩) n n] u (NmOut (fTm s (xs.map (·.1))) u) := by
  subst hn
  refine (name_hi s xs (some ⟨g, 0, none⟩) xs.length u hs hl ⟨by rw [rowCells_len], .inr ⟨_, rfl, fun j v hv => ?_⟩, Nat.le_refl _⟩ 0 (Nat.zero_le _) (fun x hxm => hi_zero (hx x hxm))).mono ?_
  · have := hr j v hv
    rw [add_addr, Nat.zero_add]; exact this
  · rintro e w' ⟨A, c, rfl, hh, hx'⟩
    exact ⟨A, c, rfl, Lib.hid hh.at_, hx'⟩
theorem name_v (s p : ByteArray) (g : Nat) (u : World) (hs : s.size ≤ 140737488351232) (hp : p.size ≤ 140737488351232)
    (a0 : u.cell? ⟨g, 0, none⟩ = some (.int .i64 1)) (a1 : u.cell? ⟨g, 1, none⟩ = some (.string p)) (a2 : u.cell? ⟨g, 2, none⟩ = some (.int .i64 0)) (a3 : u.cell? ⟨g, 3, none⟩ = some (.slice none 0 0)) :
    Calls Try.prog 62 #[.string s, .slice (some ⟨g, 0, none⟩) 1 1] u (NmOut (fTm s [vTm p]) u) :=
  name_row s [(vTm p, none, 0)] 1 g u hs rfl (by decide) (fun j v hv => by
    match j, hv with
    | 0, hv => simp [rowCells, Lain.cells, vTm] at hv; subst hv; exact a0
    | 1, hv => simp [rowCells, Lain.cells, vTm] at hv; subst hv; exact a1
    | 2, hv => simp [rowCells, Lain.cells, vTm] at hv; subst hv; exact a2
    | 3, hv => simp [rowCells, Lain.cells, vTm] at hv; subst hv; exact a3
    | j + 4, hv => simp [rowCells, Lain.cells, vTm] at hv) (fun x hx => by obtain rfl := List.mem_singleton.1 hx; exact vTm_at p hp u)
theorem oc1_call (A : Option Addr) (c : Nat) (w : World) (hA : TmAt w o1 A c) :
    Calls Try.prog 57 #[.slice none 0 0, (vTm nX).val none 0, o1.val A c] w fun e w' => ∃ X xc, e = .returned (.tuple #[.slice X 0 xc, .int .i64 3]) ∧ Ext w w' := by
  have K := Unify_any 8 [] (vTm nX) o1 none none A 0 0 c w (by rw [oc_1]; decide) (fun h => by rw [oc_1] at h; exact absurd h (by decide)) (by simp) (by simp) (BdsAt.nil _ _) (vTm_at nX (by decide) _) hA
  rw [oc1_uny] at K
  exact K.mono fun _ _ ⟨X, xc, he, _, _, hx⟩ => ⟨X, xc, he, hx⟩

theorem name_2 (s : ByteArray) {x y : Tm} {X Y : Option Addr} {cx cy : Nat} (g : Nat) (u : World) (hs : s.size ≤ 140737488351232) (h0 : u.cell? ⟨g, 0, none⟩ = some (.int .i64 x.kind)) (h1 : u.cell? ⟨g, 1, none⟩ = some (.string x.name)) (h2 : u.cell? ⟨g, 2, none⟩ = some (.int .i64 x.n)) (h3 : u.cell? ⟨g, 3, none⟩ = some (.slice X x.args.length cx)) (h4 : u.cell? ⟨g, 4, none⟩ = some (.int .i64 y.kind)) (h5 : u.cell? ⟨g, 5, none⟩ = some (.string y.name)) (h6 : u.cell? ⟨g, 6, none⟩ = some (.int .i64 y.n)) (h7 : u.cell? ⟨g, 7, none⟩ = some (.slice Y y.args.length cy))
    (tx : TmAt u x X cx) (ty : TmAt u y Y cy) : Calls Try.prog 62 #[.string s, .slice (some ⟨g, 0, none⟩) 2 2] u (NmOut (fTm s [x, y]) u) :=
  name_row s [(x, X, cx), (y, Y, cy)] 2 g u hs rfl (by decide) (fun j v hv => by
    match j, hv with
    | 0, hv => simp [rowCells, Lain.cells] at hv; subst hv; exact h0
    | 1, hv => simp [rowCells, Lain.cells] at hv; subst hv; exact h1
    | 2, hv => simp [rowCells, Lain.cells] at hv; subst hv; exact h2
    | 3, hv => simp [rowCells, Lain.cells] at hv; subst hv; exact h3
    | 4, hv => simp [rowCells, Lain.cells] at hv; subst hv; exact h4
    | 5, hv => simp [rowCells, Lain.cells] at hv; subst hv; exact h5
    | 6, hv => simp [rowCells, Lain.cells] at hv; subst hv; exact h6
    | 7, hv => simp [rowCells, Lain.cells] at hv; subst hv; exact h7
    | j + 8, hv => simp [rowCells, Lain.cells] at hv) (fun q hq => by
      simp only [List.mem_cons, List.not_mem_nil, or_false] at hq
      rcases hq with rfl | rfl
      · exact tx
      · exact ty
      )
theorem name_3 (s : ByteArray) {x y z : Tm} {X Y Z : Option Addr} {cx cy cz : Nat} (g : Nat) (u : World) (hs : s.size ≤ 140737488351232) (h0 : u.cell? ⟨g, 0, none⟩ = some (.int .i64 x.kind)) (h1 : u.cell? ⟨g, 1, none⟩ = some (.string x.name)) (h2 : u.cell? ⟨g, 2, none⟩ = some (.int .i64 x.n)) (h3 : u.cell? ⟨g, 3, none⟩ = some (.slice X x.args.length cx)) (h4 : u.cell? ⟨g, 4, none⟩ = some (.int .i64 y.kind)) (h5 : u.cell? ⟨g, 5, none⟩ = some (.string y.name)) (h6 : u.cell? ⟨g, 6, none⟩ = some (.int .i64 y.n)) (h7 : u.cell? ⟨g, 7, none⟩ = some (.slice Y y.args.length cy)) (h8 : u.cell? ⟨g, 8, none⟩ = some (.int .i64 z.kind)) (h9 : u.cell? ⟨g, 9, none⟩ = some (.string z.name)) (h10 : u.cell? ⟨g, 10, none⟩ = some (.int .i64 z.n)) (h11 : u.cell? ⟨g, 11, none⟩ = some (.slice Z z.args.length cz))
    (tx : TmAt u x X cx) (ty : TmAt u y Y cy) (tz : TmAt u z Z cz) : Calls Try.prog 62 #[.string s, .slice (some ⟨g, 0, none⟩) 3 3] u (NmOut (fTm s [x, y, z]) u) :=
  name_row s [(x, X, cx), (y, Y, cy), (z, Z, cz)] 3 g u hs rfl (by decide) (fun j v hv => by
    match j, hv with
    | 0, hv => simp [rowCells, Lain.cells] at hv; subst hv; exact h0
    | 1, hv => simp [rowCells, Lain.cells] at hv; subst hv; exact h1
    | 2, hv => simp [rowCells, Lain.cells] at hv; subst hv; exact h2
    | 3, hv => simp [rowCells, Lain.cells] at hv; subst hv; exact h3
    | 4, hv => simp [rowCells, Lain.cells] at hv; subst hv; exact h4
    | 5, hv => simp [rowCells, Lain.cells] at hv; subst hv; exact h5
    | 6, hv => simp [rowCells, Lain.cells] at hv; subst hv; exact h6
    | 7, hv => simp [rowCells, Lain.cells] at hv; subst hv; exact h7
    | 8, hv => simp [rowCells, Lain.cells] at hv; subst hv; exact h8
    | 9, hv => simp [rowCells, Lain.cells] at hv; subst hv; exact h9
    | 10, hv => simp [rowCells, Lain.cells] at hv; subst hv; exact h10
    | 11, hv => simp [rowCells, Lain.cells] at hv; subst hv; exact h11
    | j + 12, hv => simp [rowCells, Lain.cells] at hv) (fun q hq => by
      simp only [List.mem_cons, List.not_mem_nil, or_false] at hq
      rcases hq with rfl | rfl | rfl
      · exact tx
      · exact ty
      · exact tz
      )
theorem name_vv (s p q : ByteArray) (g : Nat) (u : World) (hs : s.size ≤ 140737488351232) (hp : p.size ≤ 140737488351232) (hq : q.size ≤ 140737488351232) (h0 : u.cell? ⟨g, 0, none⟩ = some (.int .i64 1)) (h1 : u.cell? ⟨g, 1, none⟩ = some (.string p)) (h2 : u.cell? ⟨g, 2, none⟩ = some (.int .i64 0)) (h3 : u.cell? ⟨g, 3, none⟩ = some (.slice none 0 0)) (h4 : u.cell? ⟨g, 4, none⟩ = some (.int .i64 1)) (h5 : u.cell? ⟨g, 5, none⟩ = some (.string q)) (h6 : u.cell? ⟨g, 6, none⟩ = some (.int .i64 0)) (h7 : u.cell? ⟨g, 7, none⟩ = some (.slice none 0 0)) :
    Calls Try.prog 62 #[.string s, .slice (some ⟨g, 0, none⟩) 2 2] u (NmOut (fTm s [vTm p, vTm q]) u) :=
  name_2 s (x := vTm p) (y := vTm q) g u hs h0 h1 h2 h3 h4 h5 h6 h7 (vTm_at p hp u) (vTm_at q hq u)
theorem name_vvv (s p q r : ByteArray) (g : Nat) (u : World) (hs : s.size ≤ 140737488351232) (hp : p.size ≤ 140737488351232) (hq : q.size ≤ 140737488351232) (hr : r.size ≤ 140737488351232) (h0 : u.cell? ⟨g, 0, none⟩ = some (.int .i64 1)) (h1 : u.cell? ⟨g, 1, none⟩ = some (.string p)) (h2 : u.cell? ⟨g, 2, none⟩ = some (.int .i64 0)) (h3 : u.cell? ⟨g, 3, none⟩ = some (.slice none 0 0)) (h4 : u.cell? ⟨g, 4, none⟩ = some (.int .i64 1)) (h5 : u.cell? ⟨g, 5, none⟩ = some (.string q)) (h6 : u.cell? ⟨g, 6, none⟩ = some (.int .i64 0)) (h7 : u.cell? ⟨g, 7, none⟩ = some (.slice none 0 0)) (h8 : u.cell? ⟨g, 8, none⟩ = some (.int .i64 1)) (h9 : u.cell? ⟨g, 9, none⟩ = some (.string r)) (h10 : u.cell? ⟨g, 10, none⟩ = some (.int .i64 0)) (h11 : u.cell? ⟨g, 11, none⟩ = some (.slice none 0 0)) :
    Calls Try.prog 62 #[.string s, .slice (some ⟨g, 0, none⟩) 3 3] u (NmOut (fTm s [vTm p, vTm q, vTm r]) u) :=
  name_3 s (x := vTm p) (y := vTm q) (z := vTm r) g u hs h0 h1 h2 h3 h4 h5 h6 h7 h8 h9 h10 h11 (vTm_at p hp u) (vTm_at q hq u) (vTm_at r hr u)
theorem name_vvc (s p q : ByteArray) {Z : Option Addr} {cz : Nat} (g : Nat) (u : World) (hs : s.size ≤ 140737488351232) (hp : p.size ≤ 140737488351232) (hq : q.size ≤ 140737488351232) (h0 : u.cell? ⟨g, 0, none⟩ = some (.int .i64 1)) (h1 : u.cell? ⟨g, 1, none⟩ = some (.string p)) (h2 : u.cell? ⟨g, 2, none⟩ = some (.int .i64 0)) (h3 : u.cell? ⟨g, 3, none⟩ = some (.slice none 0 0)) (h4 : u.cell? ⟨g, 4, none⟩ = some (.int .i64 1)) (h5 : u.cell? ⟨g, 5, none⟩ = some (.string q)) (h6 : u.cell? ⟨g, 6, none⟩ = some (.int .i64 0)) (h7 : u.cell? ⟨g, 7, none⟩ = some (.slice none 0 0)) (h8 : u.cell? ⟨g, 8, none⟩ = some (.int .i64 3)) (h9 : u.cell? ⟨g, 9, none⟩ = some (.string ⟨#[99]⟩)) (h10 : u.cell? ⟨g, 10, none⟩ = some (.int .i64 0)) (h11 : u.cell? ⟨g, 11, none⟩ = some (.slice Z 0 cz)) :
    Calls Try.prog 62 #[.string s, .slice (some ⟨g, 0, none⟩) 3 3] u (NmOut (fTm s [vTm p, vTm q, cT]) u) :=
  name_3 s (x := vTm p) (y := vTm q) (z := cT) (Z := Z) (cz := cz) g u hs h0 h1 h2 h3 h4 h5 h6 h7 h8 h9 h10 h11 (vTm_at p hp u) (vTm_at q hq u) (no_args_hi (lo := 0) cT_fits rfl).at_
theorem name_gg (s p q : ByteArray) {B C : Option Addr} {cb cc : Nat} (g : Nat) (u : World) (hs : s.size ≤ 140737488351232) (h0 : u.cell? ⟨g, 0, none⟩ = some (.int .i64 3)) (h1 : u.cell? ⟨g, 1, none⟩ = some (.string ⟨#[103]⟩)) (h2 : u.cell? ⟨g, 2, none⟩ = some (.int .i64 0)) (h3 : u.cell? ⟨g, 3, none⟩ = some (.slice B 1 cb)) (h4 : u.cell? ⟨g, 4, none⟩ = some (.int .i64 3)) (h5 : u.cell? ⟨g, 5, none⟩ = some (.string ⟨#[103]⟩)) (h6 : u.cell? ⟨g, 6, none⟩ = some (.int .i64 0)) (h7 : u.cell? ⟨g, 7, none⟩ = some (.slice C 1 cc)) (tB : TmAt u (gT (vTm p)) B cb) (tC : TmAt u (gT (vTm q)) C cc) :
    Calls Try.prog 62 #[.string s, .slice (some ⟨g, 0, none⟩) 2 2] u (NmOut (fTm s [gT (vTm p), gT (vTm q)]) u) :=
  name_2 s (x := gT (vTm p)) (y := gT (vTm q)) g u hs h0 h1 h2 h3 h4 h5 h6 h7 tB tC
theorem nm_1 (g : Nat) (u : World) (h0 : u.cell? ⟨g, 0, none⟩ = some (.int .i64 1)) (h1 : u.cell? ⟨g, 1, none⟩ = some (.string nX)) (h2 : u.cell? ⟨g, 2, none⟩ = some (.int .i64 0)) (h3 : u.cell? ⟨g, 3, none⟩ = some (.slice none 0 0)) :
    Calls Try.prog 62 #[.string ⟨#[102]⟩, .slice (some ⟨g, 0, none⟩) 1 1] u (NmOut o1 u) := name_v ⟨#[102]⟩ nX g u (by decide) (by decide) h0 h1 h2 h3
theorem nm_2 (g : Nat) (u : World) (h0 : u.cell? ⟨g, 0, none⟩ = some (.int .i64 1)) (h1 : u.cell? ⟨g, 1, none⟩ = some (.string nX)) (h2 : u.cell? ⟨g, 2, none⟩ = some (.int .i64 0)) (h3 : u.cell? ⟨g, 3, none⟩ = some (.slice none 0 0)) (h4 : u.cell? ⟨g, 4, none⟩ = some (.int .i64 1)) (h5 : u.cell? ⟨g, 5, none⟩ = some (.string nY)) (h6 : u.cell? ⟨g, 6, none⟩ = some (.int .i64 0)) (h7 : u.cell? ⟨g, 7, none⟩ = some (.slice none 0 0)) : Calls Try.prog 62 #[.string ⟨#[102]⟩, .slice (some ⟨g, 0, none⟩) 2 2] u (NmOut o2 u) := name_vv ⟨#[102]⟩ nX nY g u (by decide) (by decide) (by decide) h0 h1 h2 h3 h4 h5 h6 h7
theorem nm_g (p : ByteArray) (hp : p.size ≤ 140737488351232) (g : Nat) (u : World) (h0 : u.cell? ⟨g, 0, none⟩ = some (.int .i64 1)) (h1 : u.cell? ⟨g, 1, none⟩ = some (.string p)) (h2 : u.cell? ⟨g, 2, none⟩ = some (.int .i64 0)) (h3 : u.cell? ⟨g, 3, none⟩ = some (.slice none 0 0)) : Calls Try.prog 62 #[.string ⟨#[103]⟩, .slice (some ⟨g, 0, none⟩) 1 1] u (NmOut (gT (vTm p)) u) := name_v ⟨#[103]⟩ p g u (by decide) hp h0 h1 h2 h3
theorem nm_gY (g : Nat) (u : World) (h0 : u.cell? ⟨g, 0, none⟩ = some (.int .i64 1)) (h1 : u.cell? ⟨g, 1, none⟩ = some (.string nY)) (h2 : u.cell? ⟨g, 2, none⟩ = some (.int .i64 0)) (h3 : u.cell? ⟨g, 3, none⟩ = some (.slice none 0 0)) : Calls Try.prog 62 #[.string ⟨#[103]⟩, .slice (some ⟨g, 0, none⟩) 1 1] u (NmOut (gT (vTm nY)) u) := nm_g nY (by decide) g u h0 h1 h2 h3
theorem nm_gX (g : Nat) (u : World) (h0 : u.cell? ⟨g, 0, none⟩ = some (.int .i64 1)) (h1 : u.cell? ⟨g, 1, none⟩ = some (.string nX)) (h2 : u.cell? ⟨g, 2, none⟩ = some (.int .i64 0)) (h3 : u.cell? ⟨g, 3, none⟩ = some (.slice none 0 0)) : Calls Try.prog 62 #[.string ⟨#[103]⟩, .slice (some ⟨g, 0, none⟩) 1 1] u (NmOut (gT (vTm nX)) u) := nm_g nX (by decide) g u h0 h1 h2 h3
theorem nm_3 {B C : Option Addr} {cb cc : Nat} (g : Nat) (u : World) (tB : TmAt u (gT (vTm nY)) B cb) (tC : TmAt u (gT (vTm nX)) C cc) (h0 : u.cell? ⟨g, 0, none⟩ = some (.int .i64 3)) (h1 : u.cell? ⟨g, 1, none⟩ = some (.string ⟨#[103]⟩)) (h2 : u.cell? ⟨g, 2, none⟩ = some (.int .i64 0)) (h3 : u.cell? ⟨g, 3, none⟩ = some (.slice B 1 cb)) (h4 : u.cell? ⟨g, 4, none⟩ = some (.int .i64 3)) (h5 : u.cell? ⟨g, 5, none⟩ = some (.string ⟨#[103]⟩)) (h6 : u.cell? ⟨g, 6, none⟩ = some (.int .i64 0)) (h7 : u.cell? ⟨g, 7, none⟩ = some (.slice C 1 cc)) : Calls Try.prog 62 #[.string ⟨#[102]⟩, .slice (some ⟨g, 0, none⟩) 2 2] u (NmOut o3 u) := name_gg ⟨#[102]⟩ nY nX g u (by decide) h0 h1 h2 h3 h4 h5 h6 h7 tB tC
theorem nm_4 (g : Nat) (u : World) (h0 : u.cell? ⟨g, 0, none⟩ = some (.int .i64 1)) (h1 : u.cell? ⟨g, 1, none⟩ = some (.string nX)) (h2 : u.cell? ⟨g, 2, none⟩ = some (.int .i64 0)) (h3 : u.cell? ⟨g, 3, none⟩ = some (.slice none 0 0)) (h4 : u.cell? ⟨g, 4, none⟩ = some (.int .i64 1)) (h5 : u.cell? ⟨g, 5, none⟩ = some (.string nY)) (h6 : u.cell? ⟨g, 6, none⟩ = some (.int .i64 0)) (h7 : u.cell? ⟨g, 7, none⟩ = some (.slice none 0 0)) (h8 : u.cell? ⟨g, 8, none⟩ = some (.int .i64 1)) (h9 : u.cell? ⟨g, 9, none⟩ = some (.string nW)) (h10 : u.cell? ⟨g, 10, none⟩ = some (.int .i64 0)) (h11 : u.cell? ⟨g, 11, none⟩ = some (.slice none 0 0)) : Calls Try.prog 62 #[.string ⟨#[102]⟩, .slice (some ⟨g, 0, none⟩) 3 3] u (NmOut o4 u) := name_vvv ⟨#[102]⟩ nX nY nW g u (by decide) (by decide) (by decide) (by decide) h0 h1 h2 h3 h4 h5 h6 h7 h8 h9 h10 h11
theorem nm_5 {Z : Option Addr} {cz : Nat} (g : Nat) (u : World) (h0 : u.cell? ⟨g, 0, none⟩ = some (.int .i64 1)) (h1 : u.cell? ⟨g, 1, none⟩ = some (.string nY)) (h2 : u.cell? ⟨g, 2, none⟩ = some (.int .i64 0)) (h3 : u.cell? ⟨g, 3, none⟩ = some (.slice none 0 0)) (h4 : u.cell? ⟨g, 4, none⟩ = some (.int .i64 1)) (h5 : u.cell? ⟨g, 5, none⟩ = some (.string nW)) (h6 : u.cell? ⟨g, 6, none⟩ = some (.int .i64 0)) (h7 : u.cell? ⟨g, 7, none⟩ = some (.slice none 0 0)) (h8 : u.cell? ⟨g, 8, none⟩ = some (.int .i64 3)) (h9 : u.cell? ⟨g, 9, none⟩ = some (.string ⟨#[99]⟩)) (h10 : u.cell? ⟨g, 10, none⟩ = some (.int .i64 0)) (h11 : u.cell? ⟨g, 11, none⟩ = some (.slice Z 0 cz)) : Calls Try.prog 62 #[.string ⟨#[102]⟩, .slice (some ⟨g, 0, none⟩) 3 3] u (NmOut o5 u) := name_vvc ⟨#[102]⟩ nY nW g u (by decide) (by decide) (by decide) h0 h1 h2 h3 h4 h5 h6 h7 h8 h9 h10 h11
theorem oc2_call (A B : Option Addr) (c d : Nat) (w : World) (hA : TmAt w o2 A c) (hB : TmAt w o3 B d) :
    Calls Try.prog 57 #[.slice none 0 0, o2.val A c, o3.val B d] w fun e w' => ∃ X xc, e = .returned (.tuple #[.slice X 0 xc, .int .i64 3]) ∧ Ext w w' := by
  have K := Unify_any 8 [] o2 o3 none A B 0 c d w (by rw [oc_2]; decide) (fun h => by rw [oc_2] at h; exact absurd h (by decide)) (by simp) (by simp) (BdsAt.nil _ _) hA hB
  rw [oc2_uny] at K
  exact K.mono fun _ _ ⟨X, xc, he, _, _, hx⟩ => ⟨X, xc, he, hx⟩
/-- three binds, each to c -/
def Three (w : World) (X : Option Addr) : Prop := ∃ b o, X = some ⟨b, o, none⟩ ∧ ∀ i : Nat, i < 3 → w.cell? ⟨b, o + i * 5 + 2, none⟩ = some (.string ⟨#[99]⟩)
theorem Three.ext {w w' : World} {X : Option Addr} (h : Three w X) (k : Ext w w') : Three w' X := by
  obtain ⟨b, o, e, hc⟩ := h
  exact ⟨b, o, e, fun i hi => k.cell (hc i hi)⟩
theorem oc3_call (A B : Option Addr) (c d : Nat) (w : World) (hA : TmAt w o4 A c) (hB : TmAt w o5 B d) :
    Calls Try.prog 57 #[.slice none 0 0, o4.val A c, o5.val B d] w fun e w' => ∃ X xc, e = .returned (.tuple #[.slice X 3 xc, .int .i64 0]) ∧ Hid (Three w' X) ∧ Ext w w' := by
  have K := Unify_any 8 [] o4 o5 none A B 0 c d w (by rw [oc_3]; decide) (fun _ => by rw [oc_3]; kernel_rfl) (by simp) (by simp) (BdsAt.nil _ _) hA hB
  rw [oc3_uny] at K
  refine K.mono ?_
  rintro e w' ⟨X, xc, rfl, _, hB', hx⟩
  refine ⟨X, xc, rfl, Lib.hid ?_, hx⟩
  obtain ⟨b, o, _, _, rfl, _, _, k0, _⟩ := hB' 0 (by decide)
  obtain ⟨b1, o1, _, _, e1, _, _, k1, _⟩ := hB' 1 (by decide)
  obtain ⟨b2, o2, _, _, e2, _, _, k2, _⟩ := hB' 2 (by decide)
  injection e1 with e1; injection e1 with e1 e1'; subst e1 e1'
  injection e2 with e2; injection e2 with e2 e2'; subst e2 e2'
  refine ⟨b, o, rfl, fun i hi => ?_⟩
  have h3 : i = 0 ∨ i = 1 ∨ i = 2 := by omega
  rcases h3 with rfl | rfl | rfl
  · exact k0
  · exact k1
  · exact k2
theorem oc4_call (w : World) : Calls Try.prog 57 #[.slice none 0 0, (vTm nX).val none 0, (vTm nX).val none 0] w fun e w' => ∃ X xc, e = .returned (.tuple #[.slice X 0 xc, .int .i64 0]) ∧ Ext w w' := by
  have K := Unify_any 8 [] (vTm nX) (vTm nX) none none none 0 0 0 w (by rw [oc_4]; decide) (fun _ => by rw [oc_4]; kernel_rfl) (by simp) (by simp) (BdsAt.nil _ _) (vTm_at nX (by decide) _) (vTm_at nX (by decide) _)
  rw [oc4_uny] at K
  exact K.mono fun _ _ ⟨X, xc, he, _, _, hx⟩ => ⟨X, xc, he, hx⟩

set_option maxRecDepth 100000 in
set_option maxHeartbeats 8000000 in
theorem occurs_walk (Bs : List (List Bd)) (ts : List Tm) (ss : List ByteArray) (A T S : Option Addr) (ca ct cs : Nat) (w : World) :
    Calls Try.prog 10 #[.agg #[.slice A Bs.length ca, .slice T ts.length ct, .slice S ss.length cs]] w fun e w' => e = .returned (.bool true) ∧ Ext w w' := by
  have hx0 : Ext w (w.alloc (.cells #[.slice A Bs.length ca, .slice T ts.length ct, .slice S ss.length cs] 56)) := (Ext.refl w).alloc _
  go_enter Try.func10, Try.ntmps10
  go_wp2_with fail
  refine (var3_any nX _).mono ?_
  rintro e1 w1 ⟨rfl, hx1⟩
  go_wp2_with fail
  refine (var3_any nY _).mono ?_
  rintro e2 w2 ⟨rfl, hx2⟩
  go_wp2_with fail
  refine (var3_any nW _).mono ?_
  rintro e3 w3 ⟨rfl, hx3⟩
  have p1 : w3.cell? ⟨w.heap.size, 1, none⟩ = some (.slice T ts.length ct) := (hx2.trans hx3).cell (hx1.cell (by go_simp))
  have hx03 := ((hx0.trans hx1).trans hx2).trans hx3
  clear hx0 hx1 hx2 hx3
  go_upto_region 2 with (fail)
  obtain ⟨w4, hw4⟩ : ∃ w4, w4 = ((w3.alloc (.cells #[.int .i64 (vTm nX).kind, .string (vTm nX).name, .int .i64 (vTm nX).n, .slice none (vTm nX).args.length 0] 28)).alloc (.cells #[.int .i64 (vTm nY).kind, .string (vTm nY).name, .int .i64 (vTm nY).n, .slice none (vTm nY).args.length 0] 28)).alloc (.cells #[.int .i64 (vTm nW).kind, .string (vTm nW).name, .int .i64 (vTm nW).n, .slice none (vTm nW).args.length 0] 28) := ⟨_, rfl⟩
  rw [← hw4]
  have hx34 : Ext w3 w4 := by rw [hw4]; exact (((Ext.refl _).alloc _).alloc _).alloc _
  have x0 : w4.cell? ⟨w3.heap.size, 0, none⟩ = some (.int .i64 1) := by rw [hw4]; go_simp; rfl
  have x1 : w4.cell? ⟨w3.heap.size, 1, none⟩ = some (.string nX) := by rw [hw4]; go_simp; rfl
  have x2 : w4.cell? ⟨w3.heap.size, 2, none⟩ = some (.int .i64 0) := by rw [hw4]; go_simp; rfl
  have x3 : w4.cell? ⟨w3.heap.size, 3, none⟩ = some (.slice none 0 0) := by rw [hw4]; go_simp; rfl
  have y0 : w4.cell? ⟨w3.heap.size + 1, 0, none⟩ = some (.int .i64 1) := by rw [hw4]; go_simp; rfl
  have y1 : w4.cell? ⟨w3.heap.size + 1, 1, none⟩ = some (.string nY) := by rw [hw4]; go_simp; rfl
  have y2 : w4.cell? ⟨w3.heap.size + 1, 2, none⟩ = some (.int .i64 0) := by rw [hw4]; go_simp; rfl
  have y3 : w4.cell? ⟨w3.heap.size + 1, 3, none⟩ = some (.slice none 0 0) := by rw [hw4]; go_simp; rfl
  have z0 : w4.cell? ⟨w3.heap.size + 1 + 1, 0, none⟩ = some (.int .i64 1) := by rw [hw4]; go_simp; rfl
  have z1 : w4.cell? ⟨w3.heap.size + 1 + 1, 1, none⟩ = some (.string nW) := by rw [hw4]; go_simp; rfl
  have z2 : w4.cell? ⟨w3.heap.size + 1 + 1, 2, none⟩ = some (.int .i64 0) := by rw [hw4]; go_simp; rfl
  have z3 : w4.cell? ⟨w3.heap.size + 1 + 1, 3, none⟩ = some (.slice none 0 0) := by rw [hw4]; go_simp; rfl
  have q1 := hx34.cell p1
  have hx04 := hx03.trans hx34
  clear hw4 hx34 p1
  go_cut [6, 7] (fun v6 v7 wx => ∃ (X : Option Addr) (xc : Nat), v6 = .slice X 0 xc ∧ v7 = .int .i64 3 ∧ Ext w4 wx)
  case first =>
    have hI0 := Ext.refl w4
    have rulesI := fun (u : World) (z : Ext w4 u) => And.intro (z.cell x0) (And.intro (z.cell x1) (And.intro (z.cell x2) (z.cell x3)))
    go_region_held3 (fun u => Ext w4 u) (repeat (first | with_reducible exact Ext.refl _ | with_reducible assumption | with_reducible refine Ext.trans ?_ hxu | with_reducible refine Ext.trans ?_ hxa | with_reducible refine Ext.trans ?_ hxb | with_reducible refine Ext.trans ?_ hxc | with_reducible refine Ext.trans ?_ hxd | with_reducible refine Ext.drew ?_ | with_reducible refine Ext.alloc ?_ _))
      (first
        | (go_at_call 62; (with_reducible refine (nm_1 _ _ ?_ ?_ ?_ ?_).mono ?_); (all_goals (first | ((repeat (first | (go_simp; done) | (go_simp; rfl) | with_reducible assumption | with_reducible refine Ext.cell hxa ?_ | with_reducible refine Ext.cell hxb ?_ | with_reducible refine Ext.cell hxc ?_ | with_reducible refine Ext.cell hxd ?_ | with_reducible refine Ext.cell (Ext.drew (Ext.refl _)) ?_ | with_reducible refine Ext.cell (Ext.alloc (Ext.refl _) _) ?_)); done) | skip)); rintro ea wa ⟨Aa, ca', rfl, Ha, hxa⟩)
        | (go_at_call 57; refine (oc1_call Aa ca' _ (Ha.out.ext ?_)).mono ?_; (all_goals (first | ((repeat (first | with_reducible exact Ext.refl _ | with_reducible assumption | with_reducible refine Ext.trans ?_ hxu | with_reducible refine Ext.trans ?_ hxa | with_reducible refine Ext.trans ?_ hxb | with_reducible refine Ext.trans ?_ hxc | with_reducible refine Ext.trans ?_ hxd | with_reducible refine Ext.drew ?_ | with_reducible refine Ext.alloc ?_ _)); done) | skip)); rintro eu wu ⟨X, xc, rfl, hxu⟩))
    all_goals
      go_wp2_with fail
      go_meet
      exact ⟨X, xc, rfl, rfl, (by repeat (first | with_reducible exact Ext.refl _ | with_reducible assumption | with_reducible refine Ext.trans ?_ hxu | with_reducible refine Ext.trans ?_ hxa | with_reducible refine Ext.trans ?_ hxb | with_reducible refine Ext.trans ?_ hxc | with_reducible refine Ext.trans ?_ hxd | with_reducible refine Ext.drew ?_ | with_reducible refine Ext.alloc ?_ _))⟩
  case rest =>
    obtain ⟨X6, x6, rfl, rfl, hx45⟩ := hcut
    obtain ⟨w5, rfl⟩ : ∃ w5 : World, w5 = wc := ⟨_, rfl⟩
    have x05 := hx45.cell x0
    have x15 := hx45.cell x1
    have x25 := hx45.cell x2
    have x35 := hx45.cell x3
    have y05 := hx45.cell y0
    have y15 := hx45.cell y1
    have y25 := hx45.cell y2
    have y35 := hx45.cell y3
    have z05 := hx45.cell z0
    have z15 := hx45.cell z1
    have z25 := hx45.cell z2
    have z35 := hx45.cell z3
    go_upto_region 3 with (fail)
    go_cut [8, 9] (fun v8 v9 wx => ∃ (X : Option Addr) (xc : Nat), v8 = .slice X 0 xc ∧ v9 = .int .i64 3 ∧ Ext w5 wx)
    case first =>
      --BEGIN3
      have hI0 := Ext.refl w5
      have rulesI := fun (u : World) (z : Ext w5 u) => And.intro (z.cell x05) (And.intro (z.cell x15) (And.intro (z.cell x25) (And.intro (z.cell x35) (And.intro (z.cell y05) (And.intro (z.cell y15) (And.intro (z.cell y25) (And.intro (z.cell y35) (And.intro (z.cell z05) (And.intro (z.cell z15) (And.intro (z.cell z25) (z.cell z35)))))))))))
      go_region_held3 (fun u => Ext w5 u) (repeat (first | with_reducible exact Ext.refl _ | with_reducible assumption | with_reducible refine Ext.trans ?_ hxu | with_reducible refine Ext.trans ?_ hxa | with_reducible refine Ext.trans ?_ hxb | with_reducible refine Ext.trans ?_ hxc | with_reducible refine Ext.trans ?_ hxd | with_reducible refine Ext.drew ?_ | with_reducible refine Ext.alloc ?_ _))
        (first
          | (go_at_call 62; (with_reducible refine (nm_2 _ _ ?_ ?_ ?_ ?_ ?_ ?_ ?_ ?_).mono ?_); (all_goals (first | ((repeat (first | (go_simp; done) | (go_simp; rfl) | with_reducible assumption | with_reducible refine Ext.cell hxa ?_ | with_reducible refine Ext.cell hxb ?_ | with_reducible refine Ext.cell hxc ?_ | with_reducible refine Ext.cell hxd ?_ | with_reducible refine Ext.cell (Ext.drew (Ext.refl _)) ?_ | with_reducible refine Ext.cell (Ext.alloc (Ext.refl _) _) ?_)); done) | skip)); rintro ea wa ⟨Aa, ca', rfl, Ha, hxa⟩)
          | (go_at_call 62; (with_reducible refine (nm_gY _ _ ?_ ?_ ?_ ?_).mono ?_); (all_goals (first | ((repeat (first | (go_simp; done) | (go_simp; rfl) | with_reducible assumption | with_reducible refine Ext.cell hxa ?_ | with_reducible refine Ext.cell hxb ?_ | with_reducible refine Ext.cell hxc ?_ | with_reducible refine Ext.cell hxd ?_ | with_reducible refine Ext.cell (Ext.drew (Ext.refl _)) ?_ | with_reducible refine Ext.cell (Ext.alloc (Ext.refl _) _) ?_)); done) | skip)); rintro eb wb ⟨Ab, cb, rfl, Hb, hxb⟩)
          | (go_at_call 62; (with_reducible refine (nm_gX _ _ ?_ ?_ ?_ ?_).mono ?_); (all_goals (first | ((repeat (first | (go_simp; done) | (go_simp; rfl) | with_reducible assumption | with_reducible refine Ext.cell hxa ?_ | with_reducible refine Ext.cell hxb ?_ | with_reducible refine Ext.cell hxc ?_ | with_reducible refine Ext.cell hxd ?_ | with_reducible refine Ext.cell (Ext.drew (Ext.refl _)) ?_ | with_reducible refine Ext.cell (Ext.alloc (Ext.refl _) _) ?_)); done) | skip)); rintro ec wc' ⟨Ac, cc, rfl, Hc, hxc⟩)
          | (go_at_call 62; (with_reducible refine (nm_3 (B := Ab) (C := Ac) (cb := cb) (cc := cc) _ _ (Hb.out.ext ?_) (Hc.out.ext ?_) ?_ ?_ ?_ ?_ ?_ ?_ ?_ ?_).mono ?_); (all_goals (first | ((repeat (first | with_reducible exact Ext.refl _ | with_reducible assumption | with_reducible refine Ext.trans ?_ hxu | with_reducible refine Ext.trans ?_ hxa | with_reducible refine Ext.trans ?_ hxb | with_reducible refine Ext.trans ?_ hxc | with_reducible refine Ext.trans ?_ hxd | with_reducible refine Ext.drew ?_ | with_reducible refine Ext.alloc ?_ _)); done) | skip)); (all_goals (first | ((repeat (first | (go_simp; done) | (go_simp; rfl) | with_reducible assumption | with_reducible refine Ext.cell hxa ?_ | with_reducible refine Ext.cell hxb ?_ | with_reducible refine Ext.cell hxc ?_ | with_reducible refine Ext.cell hxd ?_ | with_reducible refine Ext.cell (Ext.drew (Ext.refl _)) ?_ | with_reducible refine Ext.cell (Ext.alloc (Ext.refl _) _) ?_)); done) | skip)); rintro ed wd ⟨Ad, cd, rfl, Hd, hxd⟩)
          | (go_at_call 57; refine (oc2_call Aa Ad ca' cd _ (Ha.out.ext ?_) (Hd.out.ext ?_)).mono ?_; (all_goals (first | ((repeat (first | with_reducible exact Ext.refl _ | with_reducible assumption | with_reducible refine Ext.trans ?_ hxu | with_reducible refine Ext.trans ?_ hxa | with_reducible refine Ext.trans ?_ hxb | with_reducible refine Ext.trans ?_ hxc | with_reducible refine Ext.trans ?_ hxd | with_reducible refine Ext.drew ?_ | with_reducible refine Ext.alloc ?_ _)); done) | skip)); rintro eu wu ⟨X, xc, rfl, hxu⟩))
      all_goals
        go_wp2_with fail
        go_meet
        exact ⟨X, xc, rfl, rfl, by repeat (first | with_reducible exact Ext.refl _ | with_reducible assumption | with_reducible refine Ext.trans ?_ hxu | with_reducible refine Ext.trans ?_ hxa | with_reducible refine Ext.trans ?_ hxb | with_reducible refine Ext.trans ?_ hxc | with_reducible refine Ext.trans ?_ hxd | with_reducible refine Ext.drew ?_ | with_reducible refine Ext.alloc ?_ _)⟩
      --END3
    case rest =>
      obtain ⟨X8, x8, rfl, rfl, hx56⟩ := hcut
      obtain ⟨w6, rfl⟩ : ∃ w6 : World, w6 = wc := ⟨_, rfl⟩
      have x06 := hx56.cell x05
      have x16 := hx56.cell x15
      have x26 := hx56.cell x25
      have x36 := hx56.cell x35
      have y06 := hx56.cell y05
      have y16 := hx56.cell y15
      have y26 := hx56.cell y25
      have y36 := hx56.cell y35
      have z06 := hx56.cell z05
      have z16 := hx56.cell z15
      have z26 := hx56.cell z25
      have z36 := hx56.cell z35
      go_upto_region 4 with (fail)
      go_cut [10, 11] (fun v10 v11 wx => ∃ (X : Option Addr) (xc : Nat), v10 = .slice X 3 xc ∧ v11 = .int .i64 0 ∧ Hid (Three wx X) ∧ Ext w6 wx)
      case first =>
        --BEGIN4
        have hI0 := Ext.refl w6
        have rulesI := fun (u : World) (z : Ext w6 u) => And.intro (z.cell x06) (And.intro (z.cell x16) (And.intro (z.cell x26) (And.intro (z.cell x36) (And.intro (z.cell y06) (And.intro (z.cell y16) (And.intro (z.cell y26) (And.intro (z.cell y36) (And.intro (z.cell z06) (And.intro (z.cell z16) (And.intro (z.cell z26) (z.cell z36)))))))))))
        go_region_held3 (fun u => Ext w6 u) (repeat (first | with_reducible exact Ext.refl _ | with_reducible assumption | with_reducible refine Ext.trans ?_ hxu | with_reducible refine Ext.trans ?_ hxa | with_reducible refine Ext.trans ?_ hxb | with_reducible refine Ext.trans ?_ hxc | with_reducible refine Ext.trans ?_ hxd | with_reducible refine Ext.drew ?_ | with_reducible refine Ext.alloc ?_ _))
          (first
            | (go_at_call 62; (with_reducible refine (name_c _).mono ?_); rintro eb wb ⟨Ab, cb, rfl, hxb⟩)
            | (go_at_call 62; (with_reducible refine (nm_4 _ _ ?_ ?_ ?_ ?_ ?_ ?_ ?_ ?_ ?_ ?_ ?_ ?_).mono ?_); (all_goals (first | ((repeat (first | (go_simp; done) | (go_simp; rfl) | with_reducible assumption | with_reducible refine Ext.cell hxa ?_ | with_reducible refine Ext.cell hxb ?_ | with_reducible refine Ext.cell hxc ?_ | with_reducible refine Ext.cell hxd ?_ | with_reducible refine Ext.cell (Ext.drew (Ext.refl _)) ?_ | with_reducible refine Ext.cell (Ext.alloc (Ext.refl _) _) ?_)); done) | skip)); rintro ea wa ⟨Aa, ca', rfl, Ha, hxa⟩)
            | (go_at_call 62; (with_reducible refine (nm_5 (Z := Ab) (cz := cb) _ _ ?_ ?_ ?_ ?_ ?_ ?_ ?_ ?_ ?_ ?_ ?_ ?_).mono ?_); (all_goals (first | ((repeat (first | (go_simp; done) | (go_simp; rfl) | with_reducible assumption | with_reducible refine Ext.cell hxa ?_ | with_reducible refine Ext.cell hxb ?_ | with_reducible refine Ext.cell hxc ?_ | with_reducible refine Ext.cell hxd ?_ | with_reducible refine Ext.cell (Ext.drew (Ext.refl _)) ?_ | with_reducible refine Ext.cell (Ext.alloc (Ext.refl _) _) ?_)); done) | skip)); rintro ec wc' ⟨Ac, cc, rfl, Hc, hxc⟩)
            | (go_at_call 57; refine (oc3_call Aa Ac ca' cc _ (Ha.out.ext ?_) (Hc.out.ext ?_)).mono ?_; (all_goals (first | ((repeat (first | with_reducible exact Ext.refl _ | with_reducible assumption | with_reducible refine Ext.trans ?_ hxu | with_reducible refine Ext.trans ?_ hxa | with_reducible refine Ext.trans ?_ hxb | with_reducible refine Ext.trans ?_ hxc | with_reducible refine Ext.trans ?_ hxd | with_reducible refine Ext.drew ?_ | with_reducible refine Ext.alloc ?_ _)); done) | skip)); rintro eu wu ⟨X, xc, rfl, HX, hxu⟩))
        all_goals
          go_wp2_with fail
          go_meet
          exact ⟨X, xc, rfl, rfl, HX, (by repeat (first | with_reducible exact Ext.refl _ | with_reducible assumption | with_reducible refine Ext.trans ?_ hxu | with_reducible refine Ext.trans ?_ hxa | with_reducible refine Ext.trans ?_ hxb | with_reducible refine Ext.trans ?_ hxc | with_reducible refine Ext.trans ?_ hxd | with_reducible refine Ext.drew ?_ | with_reducible refine Ext.alloc ?_ _))⟩
        --END4
      case rest =>
        obtain ⟨X10, x10, rfl, rfl, HT3, hx67⟩ := hcut
        obtain ⟨w7, rfl⟩ : ∃ w7 : World, w7 = wc := ⟨_, rfl⟩
        have k0 := hx67.cell x06
        have k1 := hx67.cell x16
        have k2 := hx67.cell x26
        have k3 := hx67.cell x36
        have q7 := ((hx45.trans hx56).trans hx67).cell q1
        have hx07 := ((hx04.trans hx45).trans hx56).trans hx67
        have KU := Lib.hid (oc4_call w7)
        clear q1
        go_wp2_with fail
        refine KU.out.mono ?_
        rintro eu w8 ⟨X12, x12, rfl, hx78⟩
        have q8 := hx78.cell q7
        have HT8 := Lib.hid (HT3.out.ext hx78)
        clear KU k0 k1 k2 k3 q7 HT3
        go_wp2_with (go_at_call 58; refine (num3_any _ _).mono ?_; rintro e w' ⟨rfl, rfl⟩)
        go_loopw [14] (fun iv wr => ∃ k : Nat, k ≤ 3 ∧ iv = .int .i64 k ∧ Ext w8 wr) (fun iv _ => 3 - (intOf iv).toNat)
        case atStart => exact ⟨0, by omega, rfl, Ext.refl _⟩
        case round =>
          obtain ⟨k, hk, rfl, hxr⟩ := hrel
          by_cases hlt : k < 3
          · obtain ⟨b, o, rfl, hcs⟩ := HT8.out.ext hxr
            have c0 := hcs k hlt
            have i0 : (0 : Int) ≤ (k : Int) := Int.natCast_nonneg _
            have i1 : (k : Int) < 3 := by omega
            clear hcs
            go_wp2_with fail
            go_roundw
            case rel => exact ⟨k + 1, by omega, by go_num, hxr⟩
            case measure => simp [intOf]; omega
          · have q9 := hxr.cell q8
            go_wp2_with fail
            refine (wakes3_any _).mono ?_
            rintro e9 w9 ⟨rfl, hx9⟩
            go_wp2_with fail
            go_ret
            exact ⟨rfl, ((hx07.trans hx78).trans hxr).trans hx9⟩
end Go.Proofs.Ytagkimcbllpnkaa
