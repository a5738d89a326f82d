/- bind.replaced, copied: a term in new memory, each bound variable its term. -/
import Derived.Test.YthmpolifgngdiaaFil
import Derived.Test.YthmpolifgngdiaaExw
import Derived.Maps.OwnSet
namespace Go.Proofs.Ythmpolifgngdiaa
open Go.RowKit Go.Maps

set_option maxHeartbeats 1000000 in
theorem find_nil (s : ByteArray) (w : World) (hs : s.size ≤ 140737488351232) :
    Calls Try.prog 70 #[.map none, .string s] w fun e w' => e = .returned (.tuple #[.int .i64 0, .bool false]) ∧ Ext w w' := by
  by_cases h16 : s.size ≤ 16
  · go_enter Try.func70, Try.ntmps70
    go_wp2_with fail
    refine (keyOf_any s _ h16).mono ?_
    rintro e1 w1 ⟨rfl, hx1⟩
    have hrun := Maps.look_nil (w := w1) true keyedKey Try.underlying103 (zeroInt w1) (key_key h16)
    rw [if_pos rfl] at hrun
    go_wp2_with fail
    go_ret2
    exact ⟨rfl, hx1⟩
  · have hgt : 16 < s.size := by omega
    clear h16
    go_enter Try.func70, Try.ntmps70
    go_wp2_with fail
    go_ret2
    exact ⟨rfl, Ext.refl _⟩

theorem find_arg (bs : List Bd) (A : Option Addr) (p : Value) (s : ByteArray) (w : World) (h : PArg w bs A p) (hn : Short bs) (hs : s.size ≤ 140737488351232) :
    Calls Try.prog 70 #[p, .string s] w fun e w' => e = .returned (.tuple #[.int .i64 (plI bs s), .bool (plB bs s)]) ∧ Ext w w' := by
  rcases h with ⟨rfl, rfl⟩ | ⟨b, rfl, hP, _⟩
  · exact find_nil s w hs
  · exact find_any bs b s w hP hn hs
/-- .. where it stands -/
theorem find_at (bs : List Bd) (A : Option Addr) (p : Value) (s : ByteArray) (w : World) (h : PArg w bs A p) (hn : Short bs) (hs : s.size ≤ 140737488351232) {i : Nat} (hp : plc bs bs.length s = some i) :
    Calls Try.prog 70 #[p, .string s] w fun e w' => e = .returned (.tuple #[.int .i64 (i : Int), .bool true]) ∧ Ext w w' := by
  refine (find_arg bs A p s w h hn hs).mono fun e w' ⟨he, hx⟩ => ⟨?_, hx⟩
  rw [he, plI, plB, hp]; rfl
theorem find_no (bs : List Bd) (A : Option Addr) (p : Value) (s : ByteArray) (w : World) (h : PArg w bs A p) (hn : Short bs) (hs : s.size ≤ 140737488351232) (hp : plc bs bs.length s = none) :
    Calls Try.prog 70 #[p, .string s] w fun e w' => e = .returned (.tuple #[.int .i64 0, .bool false]) ∧ Ext w w' := by
  refine (find_arg bs A p s w h hn hs).mono fun e w' ⟨he, hx⟩ => ⟨?_, hx⟩
  rw [he, plI, plB, hp]; rfl

/-- what copied is to give of the binds' terms -/
def CopTo (bs : List Bd) : Prop := ∀ i (h : i < bs.length) (A : Option Addr) (c : Nat) (w : World), TmAt w bs[i].tm A c → Calls Try.prog 52 #[bs[i].tm.val A c] w (Copied bs[i].tm w)

theorem allP_var {t : Tm} (h : allP t) (hk : (t.kind == 1) = true) : t.args.length = 0 := by
  have hq := h.plain
  unfold plainB at hq
  rw [if_pos hk] at hq
  simp at hq
  exact List.length_eq_zero_iff.2 (by simpa using hq.2)

set_option maxRecDepth 100000 in
set_option maxHeartbeats 4000000 in
/-- a bound variable -/
theorem rep_found (bs : List Bd) (hn : Short bs) (hC : CopTo bs) (LA : Option Addr) (lc : Nat) (ll : bs.length ≤ 1000000) (p : Value) (t : Tm) (A : Option Addr) (c : Nat) (w : World) (h : TmAt w t A c) (hp : PArg w bs LA p)
    (hk : (t.kind == 1) = true) {i : Nat} (hi : plc bs bs.length t.name = some i) :
    Calls Try.prog 62 #[t.val A c, .slice LA bs.length lc, p] w (Copied (repT bs t) w) := by
  have hlt : i < bs.length := (plc_some hi).1
  have E := Lib.hid (repT_var hlt hk hi)
  have hnm := h.fits.name
  have hx0 := ((Ext.refl w).alloc (.cells #[.int .i64 t.kind, .string t.name, .int .i64 t.n, .slice A t.args.length c] 32)).alloc (.cells #[.int .i64 0, .string ⟨#[]⟩, .int .i64 0, .slice none 0 0] 32)
  have hB : BdsAt w bs LA := by
    rcases hp with ⟨rfl, _⟩ | ⟨_, _, _, h⟩
    · exact absurd hlt (by simp)
    · exact h
  have HP := Lib.hid hp
  have HI := Lib.hid hi
  have HN := Lib.hid hn
  have HC := Lib.hid hC
  clear hi hn hC hp
  have i0 : (0 : Int) ≤ (i : Int) := Int.natCast_nonneg _
  have i1 : (i : Int) < (bs.length : Int) := by omega
  go_enter Try.func62, Try.ntmps62
  go_wp2_with fail
  refine (find_at bs LA p t.name _ (HP.out.ext hx0) HN.out hnm HI.out).mono ?_
  rintro e1 w1 ⟨rfl, hx1⟩
  have hx01 := hx0.trans hx1
  obtain ⟨b, o, B, e, rfl, c0, c1, c2, c3, c4, hT, _⟩ := (hB.ext hx01) i hlt
  obtain ⟨r0, r1, r2, r3, g0, g1, g2, g3⟩ : Box4 w1 (w.heap.size + 1) (.int .i64 0) (.string ⟨#[]⟩) (.int .i64 0) (.slice none 0 0) := Box4.ext ⟨by go_simp, by go_simp, by go_simp, by go_simp, by go_simp, by go_simp, by go_simp, by go_simp⟩ hx1
  have hs1 := hx1.size
  have hlr := World.block_lt_of_cell? w1 _ r0
  go_wp2_with fail
  refine (HC.out i hlt B e _ hT).mono ?_
  rintro e2 w2 ⟨A', c', rfl, hO, hx2⟩
  have s0 := hx2.cell r0
  have s1 := hx2.cell r1
  have s2 := hx2.cell r2
  have s3 := hx2.cell r3
  have f0 := (Below.frozen hx2 (p := ⟨w.heap.size + 1, 0, none⟩) hlr).trans g0
  have f1 := (Below.frozen hx2 (p := ⟨w.heap.size + 1, 1, none⟩) hlr).trans g1
  have f2 := (Below.frozen hx2 (p := ⟨w.heap.size + 1, 2, none⟩) hlr).trans g2
  have f3 := (Below.frozen hx2 (p := ⟨w.heap.size + 1, 3, none⟩) hlr).trans g3
  have HO := Lib.hid hO
  have hsz : w.heap.size + 1 < w1.heap.size := hlr
  clear hO r0 r1 r2 r3 g0 g1 g2 g3 c0 c1 c2 c3 c4
  go_wp2_with fail
  refine bodyPost_ret (v := bs[i].tm.val A' c') (by simp [results, Try.results62, go_sem, *]) rfl ⟨A', c', by rw [E.out], ?_, ?_⟩
  · rw [E.out]
    exact HO.out.answer (r := w.heap.size + 1) (B := w.heap.size) _ _ _ _ (by omega) (by omega) rfl
  · exact Chg.ext_of (hx01.trans hx2) (set4_chg w2 (w.heap.size + 1) 0 _ _ _ _ (F := fun x => x = w.heap.size + 1) rfl) (fun b hb => by omega)
end Go.Proofs.Ythmpolifgngdiaa
