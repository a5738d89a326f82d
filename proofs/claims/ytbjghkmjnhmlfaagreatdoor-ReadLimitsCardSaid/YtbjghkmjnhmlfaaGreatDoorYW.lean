/- Joined: Pha, Phb. -/
import Derived.Test.YtbjghkmjnhmlfaaGreatDoorYV
import Derived.Test.YtbjghkmjnhmlfaaGreatDoorYJ
import Derived.Test.YtbjghkmjnhmlfaaGreatDoorPal

/- The page's reader: patterns: what reading one comes to; two. -/
namespace Go.Proofs.YtbjghkmjnhmlfaaGreatDoor
open Go.RowKit

/-- what the page's reading of a pattern comes to -/
def PPOut (w : World) (g A c : Nat) (T : List Tok) (a : Int) (b : Nat) (F : Rs Pt) (e : Ending) (w' : World) : Prop := Chg (· = g) w w' ∧
  match F with
  | .ok (p, j) => ∃ pl, e = .returned (p.val pl) ∧ PtIn w' (New w w') p pl ∧ PgAt w' g A c T j 0 a b
  | .error (q, x) => x ≠ 0 ∧ (∃ cs, Sh9 cs ∧ e = .returned (.agg cs.toArray)) ∧ ∃ i' d', PgAt w' g A c T i' x q d'
def PPTo (f : FuncId) (T : List Tok) (b : Nat) (F : Nat → Rs Pt) : Prop := ∀ (w : World) (g A c i : Nat) (a : Int), PgAt w g A c T i 0 a b → Calls Tryz.prog f #[.pointer (some ⟨g, 0, none⟩)] w (PPOut w g A c T a b (F i))
/-- behind an error nothing is read -/
def PEr (f : FuncId) (T : List Tok) : Prop := ∀ (w : World) (g A c i : Nat) (e0 a d : Int), PgAt w g A c T i e0 a d → e0 ≠ 0 → Calls Tryz.prog f #[.pointer (some ⟨g, 0, none⟩)] w fun e w' => (∃ cs, Sh9 cs ∧ e = .returned (.agg cs.toArray)) ∧ Ext w w'
theorem PPOut.val {w : World} {g A c : Nat} {T : List Tok} {a : Int} {b : Nat} {F : Rs Pt} {e : Ending} {w' : World} (h : PPOut w g A c T a b F e w') : ∃ cs, Sh9 cs ∧ e = .returned (.agg cs.toArray) := by
  match F, h with
  | .ok (p, j), ⟨_, pl, he, _⟩ => exact ⟨p.cells pl, ⟨_, _, _, _, _, _, _, _, _, _, _, _, _, _, _, _, _, rfl⟩, he⟩
  | .error (q, x), ⟨_, _, he, _⟩ => exact he
set_option maxRecDepth 100000 in
set_option maxHeartbeats 2000000 in
theorem two_pg (kind : Int) (vs us : List Value) (hv : Sh9 vs) (hu : Sh9 us) (w : World) : Calls Tryz.prog 65 #[.int .i64 kind, .agg vs.toArray, .agg us.toArray] w fun e w' => ∃ m n, w.heap.size ≤ m ∧ m < w'.heap.size ∧ w.heap.size ≤ n ∧ n < w'.heap.size ∧ Box9 w' m vs ∧ Box9 w' n us ∧ Ext w w' ∧
    e = .returned (.agg #[.int .i64 kind, .int .i64 0, .string ⟨#[]⟩, .int .i64 0, .slice none 0 0, .int .i64 0, .slice (some ⟨m, 0, none⟩) 1 1, .slice (some ⟨n, 0, none⟩) 1 1, .slice none 0 0]) := by
  obtain ⟨k0, k1, s2, k3, A4, l4, d4, k5, A6, l6, d6, A7, l7, d7, A8, l8, d8, rfl⟩ := hv
  obtain ⟨j0, j1, t2, j3, B4, m4, f4, j5, B6, m6, f6, B7, m7, f7, B8, m8, f8, rfl⟩ := hu
  obtain ⟨w0, hw0⟩ : ∃ w0, w0 = (w.alloc (.cells #[.int .i64 k0, .int .i64 k1, .string s2, .int .i64 k3, .slice A4 l4 d4, .int .i64 k5, .slice A6 l6 d6, .slice A7 l7 d7, .slice A8 l8 d8] 63)).alloc (.cells #[.int .i64 j0, .int .i64 j1, .string t2, .int .i64 j3, .slice B4 m4 f4, .int .i64 j5, .slice B6 m6 f6, .slice B7 m7 f7, .slice B8 m8 f8] 63) := ⟨_, rfl⟩
  have ha0 : Box9 w0 w.heap.size [.int .i64 k0, .int .i64 k1, .string s2, .int .i64 k3, .slice A4 l4 d4, .int .i64 k5, .slice A6 l6 d6, .slice A7 l7 d7, .slice A8 l8 d8] := by rw [hw0]; exact (Box9.new w _ _ rfl).ext ((Ext.refl _).alloc _)
  have hb0 : Box9 w0 (w.heap.size + 1) [.int .i64 j0, .int .i64 j1, .string t2, .int .i64 j3, .slice B4 m4 f4, .int .i64 j5, .slice B6 m6 f6, .slice B7 m7 f7, .slice B8 m8 f8] := by
    have := Box9.new (w.alloc (.cells #[.int .i64 k0, .int .i64 k1, .string s2, .int .i64 k3, .slice A4 l4 d4, .int .i64 k5, .slice A6 l6 d6, .slice A7 l7 d7, .slice A8 l8 d8] 63)) #[.int .i64 j0, .int .i64 j1, .string t2, .int .i64 j3, .slice B4 m4 f4, .int .i64 j5, .slice B6 m6 f6, .slice B7 m7 f7, .slice B8 m8 f8] 63 rfl
    rw [hsz_alloc] at this
    rw [hw0]; exact this
  have hx0 : Ext w w0 := by rw [hw0]; exact ((Ext.refl _).alloc _).alloc _
  obtain ⟨w1, hw1⟩ : ∃ w1, w1 = w0.alloc (.cells #[.int .i64 0, .int .i64 0, .string ⟨#[]⟩, .int .i64 0, .slice none 0 0, .int .i64 0, .slice none 0 0, .slice none 0 0, .slice none 0 0] 63) := ⟨_, rfl⟩
  obtain ⟨q, hq⟩ : ∃ q, q = w.heap.size + 1 + 1 := ⟨_, rfl⟩
  have hqw : q = w0.heap.size := by rw [hq, hw0]; simp
  have hr1 : Box9 w1 q zero9 := by rw [hw1, hqw]; exact Box9.new w0 _ _ rfl
  have hx1 : Ext w0 w1 := by rw [hw1]; exact (Ext.refl _).alloc _
  have HW1 := Lib.hid (And.intro hw0 (And.intro hw1 hq))
  have hq0 : w.heap.size + 1 < q := by omega
  obtain ⟨x0, x1, x2, x3, x4, x5, x6, x7, x8⟩ := (ha0.ext hx1).get
  obtain ⟨b0, b1, b2, b3, b4, b5, b6, b7, b8⟩ := (hb0.ext hx1).get
  obtain ⟨y0, y1, y2, y3, y4, y5, y6, y7, y8⟩ := hr1.get
  obtain ⟨z0, z1, z2, z3, z4, z5, z6, z7, z8⟩ := hr1.fzs
  have hx01 := hx0.trans hx1
  have hql : q < w1.heap.size := hr1.lt
  have hal : w.heap.size < w1.heap.size := by omega
  have hbl : w.heap.size + 1 < w1.heap.size := by omega
  clear hw0 hw1 hq hqw ha0 hb0 hx0 hx1
  go_enter Tryz.func65, Tryz.ntmps65
  go_upto_region 1 with (fail)
  rw [← HW1.out.1, ← HW1.out.2.2, ← HW1.out.2.1]
  go_wp2_with fail
  refine bodyPost_ret (v := .agg #[.int .i64 kind, .int .i64 0, .string ⟨#[]⟩, .int .i64 0, .slice none 0 0, .int .i64 0, .slice (some ⟨w1.heap.size, 0, none⟩) 1 1, .slice (some ⟨w1.heap.size + 1, 0, none⟩) 1 1, .slice none 0 0]) (by simp [results, Tryz.results65, go_sem, *]) rfl ?_
  obtain ⟨wm, hwm⟩ : ∃ wm, wm = w1.setCells q 0 [.int .i64 kind, .int .i64 0, .string ⟨#[]⟩, .int .i64 0, .slice none 0 0, .int .i64 0, .slice (some ⟨w1.heap.size, 0, none⟩) 1 1, .slice (some ⟨w1.heap.size + 1, 0, none⟩) 1 1, .slice none 0 0] := ⟨_, rfl⟩
  have hxm : Ext w wm := by rw [hwm]; exact ext_setCells [.int .i64 kind, .int .i64 0, .string ⟨#[]⟩, .int .i64 0, .slice none 0 0, .int .i64 0, .slice (some ⟨w1.heap.size, 0, none⟩) 1 1, .slice (some ⟨w1.heap.size + 1, 0, none⟩) 1 1, .slice none 0 0] 0 w1 (by omega) hx01
  have hsm : wm.heap.size = w1.heap.size := by rw [hwm]; exact setCells_size (w := w1) _ 0 w1 rfl
  obtain ⟨wn, hwn⟩ : ∃ wn, wn = wm.alloc (.cells #[.int .i64 k0, .int .i64 k1, .string s2, .int .i64 k3, .slice A4 l4 d4, .int .i64 k5, .slice A6 l6 d6, .slice A7 l7 d7, .slice A8 l8 d8] 63) := ⟨_, rfl⟩
  obtain ⟨wf, hwf⟩ : ∃ wf, wf = wn.alloc (.cells #[.int .i64 j0, .int .i64 j1, .string t2, .int .i64 j3, .slice B4 m4 f4, .int .i64 j5, .slice B6 m6 f6, .slice B7 m7 f7, .slice B8 m8 f8] 63) := ⟨_, rfl⟩
  have hxn : Ext wm wn := by rw [hwn]; exact (Ext.refl _).alloc _
  have hxf : Ext wn wf := by rw [hwf]; exact (Ext.refl _).alloc _
  have b1 : Box9 wn w1.heap.size [.int .i64 k0, .int .i64 k1, .string s2, .int .i64 k3, .slice A4 l4 d4, .int .i64 k5, .slice A6 l6 d6, .slice A7 l7 d7, .slice A8 l8 d8] := by rw [hwn, ← hsm]; exact Box9.new wm _ _ rfl
  have hsn : wn.heap.size = w1.heap.size + 1 := by rw [hwn, ← hsm]; simp
  have b2 : Box9 wf (w1.heap.size + 1) [.int .i64 j0, .int .i64 j1, .string t2, .int .i64 j3, .slice B4 m4 f4, .int .i64 j5, .slice B6 m6 f6, .slice B7 m7 f7, .slice B8 m8 f8] := by rw [hwf, ← hsn]; exact Box9.new wn _ _ rfl
  have l1 := b1.lt
  have l2 := b2.lt
  have l3 := hxf.size
  have key : ∃ m n, w.heap.size ≤ m ∧ m < wf.heap.size ∧ w.heap.size ≤ n ∧ n < wf.heap.size ∧ Box9 wf m [.int .i64 k0, .int .i64 k1, .string s2, .int .i64 k3, .slice A4 l4 d4, .int .i64 k5, .slice A6 l6 d6, .slice A7 l7 d7, .slice A8 l8 d8] ∧ Box9 wf n [.int .i64 j0, .int .i64 j1, .string t2, .int .i64 j3, .slice B4 m4 f4, .int .i64 j5, .slice B6 m6 f6, .slice B7 m7 f7, .slice B8 m8 f8] ∧ Ext w wf ∧
      Ending.returned (.agg #[.int .i64 kind, .int .i64 0, .string ⟨#[]⟩, .int .i64 0, .slice none 0 0, .int .i64 0, .slice (some ⟨w1.heap.size, 0, none⟩) 1 1, .slice (some ⟨w1.heap.size + 1, 0, none⟩) 1 1, .slice none 0 0]) = .returned (.agg #[.int .i64 kind, .int .i64 0, .string ⟨#[]⟩, .int .i64 0, .slice none 0 0, .int .i64 0, .slice (some ⟨m, 0, none⟩) 1 1, .slice (some ⟨n, 0, none⟩) 1 1, .slice none 0 0]) :=
    ⟨w1.heap.size, w1.heap.size + 1, by omega, by omega, by omega, l2, b1.ext hxf, b2, (hxm.trans hxn).trans hxf, rfl⟩
  rw [hwf, hwn, hwm] at key
  exact key
end Go.Proofs.YtbjghkmjnhmlfaaGreatDoor

/- The page's reader: patterns: behind an error nothing is read. -/
namespace Go.Proofs.YtbjghkmjnhmlfaaGreatDoor
open Go.RowKit

theorem sh_intro {k0 k1 k3 k5 : Int} {s2 : ByteArray} {A4 A6 A7 A8 : Option Addr} {l4 d4 l6 d6 l7 d7 l8 d8 : Nat} : Sh9 [.int .i64 k0, .int .i64 k1, .string s2, .int .i64 k3, .slice A4 l4 d4, .int .i64 k5, .slice A6 l6 d6, .slice A7 l7 d7, .slice A8 l8 d8] := ⟨_, _, _, _, _, _, _, _, _, _, _, _, _, _, _, _, _, rfl⟩
theorem sh_zero : Sh9 zero9 := sh_intro
set_option maxRecDepth 100000 in
set_option maxHeartbeats 1000000 in
theorem one_per (T : List Tok) : PEr 118 T := by
  intro w g A c i e0 a d h he
  obtain ⟨w0, hw0⟩ : ∃ w0, w0 = w.alloc (.cells #[.int .i64 0, .int .i64 0, .string ⟨#[]⟩, .int .i64 0, .slice none 0 0, .int .i64 0, .slice none 0 0, .slice none 0 0, .slice none 0 0] 63) := ⟨_, rfl⟩
  have hr0 : Box9 w0 w.heap.size zero9 := by rw [hw0]; exact Box9.new w _ _ rfl
  have hx0 : Ext w w0 := by rw [hw0]; exact (Ext.refl _).alloc _
  have c2 := (h.ext hx0).c2
  have q : (e0 != 0) = true := by simp [he]
  have HW0 := Lib.hid hw0
  obtain ⟨y0, y1, y2, y3, y4, y5, y6, y7, y8⟩ := hr0.get
  obtain ⟨z0, z1, z2, z3, z4, z5, z6, z7, z8⟩ := hr0.fzs
  clear hw0 h hr0 he
  go_enter Tryz.func118, Tryz.ntmps118
  go_upto_region 1 with (fail)
  rw [← HW0.out]
  go_wp2_with fail
  refine bodyPost_ret (v := .agg #[.int .i64 0, .int .i64 0, .string ⟨#[]⟩, .int .i64 0, .slice none 0 0, .int .i64 0, .slice none 0 0, .slice none 0 0, .slice none 0 0]) (by simp [results, Tryz.results118, go_sem, *]) rfl ?_
  exact ⟨⟨_, sh_zero, rfl⟩, ext_setCells zero9 0 w0 (Nat.le_refl _) hx0⟩
set_option maxRecDepth 100000 in
set_option maxHeartbeats 1000000 in
theorem row_per (T : List Tok) (hP : PEr 118 T) : PEr 106 T := by
  intro w g A c i e0 a d h he
  obtain ⟨w0, hw0⟩ : ∃ w0, w0 = w.alloc (.cells #[.int .i64 0, .int .i64 0, .string ⟨#[]⟩, .int .i64 0, .slice none 0 0, .int .i64 0, .slice none 0 0, .slice none 0 0, .slice none 0 0] 63) := ⟨_, rfl⟩
  have hr0 : Box9 w0 w.heap.size zero9 := by rw [hw0]; exact Box9.new w _ _ rfl
  have hx0 : Ext w w0 := by rw [hw0]; exact (Ext.refl _).alloc _
  have h0 := h.ext hx0
  have KP := Lib.hid (hP w0 g A c i e0 a d h0 he)
  have HW0 := Lib.hid hw0
  clear hw0 h
  go_enter Tryz.func106, Tryz.ntmps106
  go_upto_region 1 with (fail)
  rw [← HW0.out]
  go_wp2_with fail
  refine KP.out.mono ?_
  rintro e w1 ⟨⟨vs, hvs, rfl⟩, hx1⟩
  obtain ⟨k0, k1, s2, k3, A4, l4, d4, k5, A6, l6, d6, A7, l7, d7, A8, l8, d8, rfl⟩ := hvs
  obtain ⟨w2, hw2⟩ : ∃ w2, w2 = w1.alloc (.cells #[.int .i64 k0, .int .i64 k1, .string s2, .int .i64 k3, .slice A4 l4 d4, .int .i64 k5, .slice A6 l6 d6, .slice A7 l7 d7, .slice A8 l8 d8] 63) := ⟨_, rfl⟩
  have hb2 : Box9 w2 w1.heap.size [.int .i64 k0, .int .i64 k1, .string s2, .int .i64 k3, .slice A4 l4 d4, .int .i64 k5, .slice A6 l6 d6, .slice A7 l7 d7, .slice A8 l8 d8] := by rw [hw2]; exact Box9.new w1 _ _ rfl
  have hx2 : Ext w1 w2 := by rw [hw2]; exact (Ext.refl _).alloc _
  have HW2 := Lib.hid hw2
  have hx12 := hx1.trans hx2
  have KT := Lib.hid (take_per ⟨#[59]⟩ (h0.ext hx12) he)
  have hr2 := hr0.ext hx12
  have hxw := hx0.trans hx12
  clear hw2 hx2 hx1 hr0 hx0 h0 KP hx12
  go_upto_region 2 with (fail)
  rw [← HW2.out]
  go_loopw [] (fun wr => wr = w2) (fun _ => 0)
  case atStart => rfl
  obtain rfl := hrel
  go_wp2_with fail
  refine KT.out.mono ?_
  rintro e w3 ⟨rfl, hx3⟩
  obtain ⟨x0, x1, x2, x3, x4, x5, x6, x7, x8⟩ := (hb2.ext hx3).get
  obtain ⟨y0, y1, y2, y3, y4, y5, y6, y7, y8⟩ := (hr2.ext hx3).get
  obtain ⟨z0, z1, z2, z3, z4, z5, z6, z7, z8⟩ := (hr2.ext hx3).fzs
  have HX := Lib.hid (hxw.trans hx3)
  clear hx3 hb2 hr2 hxw KT
  go_wp2_with fail
  refine bodyPost_ret (v := .agg #[.int .i64 k0, .int .i64 k1, .string s2, .int .i64 k3, .slice A4 l4 d4, .int .i64 k5, .slice A6 l6 d6, .slice A7 l7 d7, .slice A8 l8 d8]) (by simp [results, Tryz.results106, go_sem, *]) rfl ?_
  exact ⟨⟨_, sh_intro, rfl⟩, ext_setCells [.int .i64 k0, .int .i64 k1, .string s2, .int .i64 k3, .slice A4 l4 d4, .int .i64 k5, .slice A6 l6 d6, .slice A7 l7 d7, .slice A8 l8 d8] 0 w3 (Nat.le_refl _) HX.out⟩
set_option maxRecDepth 100000 in
set_option maxHeartbeats 1000000 in
theorem pair_per (T : List Tok) (hP : PEr 106 T) : PEr 90 T := by
  intro w g A c i e0 a d h he
  obtain ⟨w0, hw0⟩ : ∃ w0, w0 = w.alloc (.cells #[.int .i64 0, .int .i64 0, .string ⟨#[]⟩, .int .i64 0, .slice none 0 0, .int .i64 0, .slice none 0 0, .slice none 0 0, .slice none 0 0] 63) := ⟨_, rfl⟩
  have hr0 : Box9 w0 w.heap.size zero9 := by rw [hw0]; exact Box9.new w _ _ rfl
  have hx0 : Ext w w0 := by rw [hw0]; exact (Ext.refl _).alloc _
  have h0 := h.ext hx0
  have KP := Lib.hid (hP w0 g A c i e0 a d h0 he)
  have HW0 := Lib.hid hw0
  clear hw0 h
  go_enter Tryz.func90, Tryz.ntmps90
  go_upto_region 1 with (fail)
  rw [← HW0.out]
  go_wp2_with fail
  refine KP.out.mono ?_
  rintro e w1 ⟨⟨vs, hvs, rfl⟩, hx1⟩
  obtain ⟨k0, k1, s2, k3, A4, l4, d4, k5, A6, l6, d6, A7, l7, d7, A8, l8, d8, rfl⟩ := hvs
  obtain ⟨w2, hw2⟩ : ∃ w2, w2 = w1.alloc (.cells #[.int .i64 k0, .int .i64 k1, .string s2, .int .i64 k3, .slice A4 l4 d4, .int .i64 k5, .slice A6 l6 d6, .slice A7 l7 d7, .slice A8 l8 d8] 63) := ⟨_, rfl⟩
  have hb2 : Box9 w2 w1.heap.size [.int .i64 k0, .int .i64 k1, .string s2, .int .i64 k3, .slice A4 l4 d4, .int .i64 k5, .slice A6 l6 d6, .slice A7 l7 d7, .slice A8 l8 d8] := by rw [hw2]; exact Box9.new w1 _ _ rfl
  have hx2 : Ext w1 w2 := by rw [hw2]; exact (Ext.refl _).alloc _
  have HW2 := Lib.hid hw2
  have hx12 := hx1.trans hx2
  have KT := Lib.hid (take_per ⟨#[64]⟩ (h0.ext hx12) he)
  have hr2 := hr0.ext hx12
  have hxw := hx0.trans hx12
  clear hw2 hx2 hx1 hr0 hx0 h0 KP hx12
  go_upto_region 2 with (fail)
  rw [← HW2.out]
  go_wp2_with fail
  refine KT.out.mono ?_
  rintro e w3 ⟨rfl, hx3⟩
  obtain ⟨x0, x1, x2, x3, x4, x5, x6, x7, x8⟩ := (hb2.ext hx3).get
  obtain ⟨y0, y1, y2, y3, y4, y5, y6, y7, y8⟩ := (hr2.ext hx3).get
  obtain ⟨z0, z1, z2, z3, z4, z5, z6, z7, z8⟩ := (hr2.ext hx3).fzs
  have HX := Lib.hid (hxw.trans hx3)
  clear hx3 hb2 hr2 hxw KT
  go_wp2_with fail
  refine bodyPost_ret (v := .agg #[.int .i64 k0, .int .i64 k1, .string s2, .int .i64 k3, .slice A4 l4 d4, .int .i64 k5, .slice A6 l6 d6, .slice A7 l7 d7, .slice A8 l8 d8]) (by simp [results, Tryz.results90, go_sem, *]) rfl ?_
  exact ⟨⟨_, sh_intro, rfl⟩, ext_setCells [.int .i64 k0, .int .i64 k1, .string s2, .int .i64 k3, .slice A4 l4 d4, .int .i64 k5, .slice A6 l6 d6, .slice A7 l7 d7, .slice A8 l8 d8] 0 w3 (Nat.le_refl _) HX.out⟩
set_option maxRecDepth 100000 in
set_option maxHeartbeats 1000000 in
theorem both_per (T : List Tok) (hP : PEr 90 T) : PEr 64 T := by
  intro w g A c i e0 a d h he
  obtain ⟨w0, hw0⟩ : ∃ w0, w0 = w.alloc (.cells #[.int .i64 0, .int .i64 0, .string ⟨#[]⟩, .int .i64 0, .slice none 0 0, .int .i64 0, .slice none 0 0, .slice none 0 0, .slice none 0 0] 63) := ⟨_, rfl⟩
  have hr0 : Box9 w0 w.heap.size zero9 := by rw [hw0]; exact Box9.new w _ _ rfl
  have hx0 : Ext w w0 := by rw [hw0]; exact (Ext.refl _).alloc _
  have h0 := h.ext hx0
  have KP := Lib.hid (hP w0 g A c i e0 a d h0 he)
  have HW0 := Lib.hid hw0
  clear hw0 h
  go_enter Tryz.func64, Tryz.ntmps64
  go_upto_region 1 with (fail)
  rw [← HW0.out]
  go_wp2_with fail
  refine KP.out.mono ?_
  rintro e w1 ⟨⟨vs, hvs, rfl⟩, hx1⟩
  obtain ⟨k0, k1, s2, k3, A4, l4, d4, k5, A6, l6, d6, A7, l7, d7, A8, l8, d8, rfl⟩ := hvs
  obtain ⟨w2, hw2⟩ : ∃ w2, w2 = w1.alloc (.cells #[.int .i64 k0, .int .i64 k1, .string s2, .int .i64 k3, .slice A4 l4 d4, .int .i64 k5, .slice A6 l6 d6, .slice A7 l7 d7, .slice A8 l8 d8] 63) := ⟨_, rfl⟩
  have hb2 : Box9 w2 w1.heap.size [.int .i64 k0, .int .i64 k1, .string s2, .int .i64 k3, .slice A4 l4 d4, .int .i64 k5, .slice A6 l6 d6, .slice A7 l7 d7, .slice A8 l8 d8] := by rw [hw2]; exact Box9.new w1 _ _ rfl
  have hx2 : Ext w1 w2 := by rw [hw2]; exact (Ext.refl _).alloc _
  have HW2 := Lib.hid hw2
  have hx12 := hx1.trans hx2
  have KT := Lib.hid (take_per ⟨#[38]⟩ (h0.ext hx12) he)
  have hr2 := hr0.ext hx12
  have hxw := hx0.trans hx12
  clear hw2 hx2 hx1 hr0 hx0 h0 KP hx12
  go_upto_region 2 with (fail)
  rw [← HW2.out]
  go_loopw [] (fun wr => wr = w2) (fun _ => 0)
  case atStart => rfl
  obtain rfl := hrel
  go_wp2_with fail
  refine KT.out.mono ?_
  rintro e w3 ⟨rfl, hx3⟩
  obtain ⟨x0, x1, x2, x3, x4, x5, x6, x7, x8⟩ := (hb2.ext hx3).get
  obtain ⟨y0, y1, y2, y3, y4, y5, y6, y7, y8⟩ := (hr2.ext hx3).get
  obtain ⟨z0, z1, z2, z3, z4, z5, z6, z7, z8⟩ := (hr2.ext hx3).fzs
  have HX := Lib.hid (hxw.trans hx3)
  clear hx3 hb2 hr2 hxw KT
  go_wp2_with fail
  refine bodyPost_ret (v := .agg #[.int .i64 k0, .int .i64 k1, .string s2, .int .i64 k3, .slice A4 l4 d4, .int .i64 k5, .slice A6 l6 d6, .slice A7 l7 d7, .slice A8 l8 d8]) (by simp [results, Tryz.results64, go_sem, *]) rfl ?_
  exact ⟨⟨_, sh_intro, rfl⟩, ext_setCells [.int .i64 k0, .int .i64 k1, .string s2, .int .i64 k3, .slice A4 l4 d4, .int .i64 k5, .slice A6 l6 d6, .slice A7 l7 d7, .slice A8 l8 d8] 0 w3 (Nat.le_refl _) HX.out⟩
set_option maxRecDepth 100000 in
set_option maxHeartbeats 1000000 in
theorem pattern_per (T : List Tok) (hP : PEr 64 T) : PEr 37 T := by
  intro w g A c i e0 a d h he
  obtain ⟨w0, hw0⟩ : ∃ w0, w0 = w.alloc (.cells #[.int .i64 0, .int .i64 0, .string ⟨#[]⟩, .int .i64 0, .slice none 0 0, .int .i64 0, .slice none 0 0, .slice none 0 0, .slice none 0 0] 63) := ⟨_, rfl⟩
  have hr0 : Box9 w0 w.heap.size zero9 := by rw [hw0]; exact Box9.new w _ _ rfl
  have hx0 : Ext w w0 := by rw [hw0]; exact (Ext.refl _).alloc _
  have h0 := h.ext hx0
  have KP := Lib.hid (hP w0 g A c i e0 a d h0 he)
  have HW0 := Lib.hid hw0
  clear hw0 h
  go_enter Tryz.func37, Tryz.ntmps37
  go_upto_region 1 with (fail)
  rw [← HW0.out]
  go_wp2_with fail
  refine KP.out.mono ?_
  rintro e w1 ⟨⟨vs, hvs, rfl⟩, hx1⟩
  obtain ⟨k0, k1, s2, k3, A4, l4, d4, k5, A6, l6, d6, A7, l7, d7, A8, l8, d8, rfl⟩ := hvs
  obtain ⟨w2, hw2⟩ : ∃ w2, w2 = w1.alloc (.cells #[.int .i64 k0, .int .i64 k1, .string s2, .int .i64 k3, .slice A4 l4 d4, .int .i64 k5, .slice A6 l6 d6, .slice A7 l7 d7, .slice A8 l8 d8] 63) := ⟨_, rfl⟩
  have hb2 : Box9 w2 w1.heap.size [.int .i64 k0, .int .i64 k1, .string s2, .int .i64 k3, .slice A4 l4 d4, .int .i64 k5, .slice A6 l6 d6, .slice A7 l7 d7, .slice A8 l8 d8] := by rw [hw2]; exact Box9.new w1 _ _ rfl
  have hx2 : Ext w1 w2 := by rw [hw2]; exact (Ext.refl _).alloc _
  have HW2 := Lib.hid hw2
  have hx12 := hx1.trans hx2
  have KT := Lib.hid (take_per ⟨#[124]⟩ (h0.ext hx12) he)
  have hr2 := hr0.ext hx12
  have hxw := hx0.trans hx12
  clear hw2 hx2 hx1 hr0 hx0 h0 KP hx12
  go_upto_region 2 with (fail)
  rw [← HW2.out]
  go_loopw [] (fun wr => wr = w2) (fun _ => 0)
  case atStart => rfl
  obtain rfl := hrel
  go_wp2_with fail
  refine KT.out.mono ?_
  rintro e w3 ⟨rfl, hx3⟩
  obtain ⟨x0, x1, x2, x3, x4, x5, x6, x7, x8⟩ := (hb2.ext hx3).get
  obtain ⟨y0, y1, y2, y3, y4, y5, y6, y7, y8⟩ := (hr2.ext hx3).get
  obtain ⟨z0, z1, z2, z3, z4, z5, z6, z7, z8⟩ := (hr2.ext hx3).fzs
  have HX := Lib.hid (hxw.trans hx3)
  clear hx3 hb2 hr2 hxw KT
  go_wp2_with fail
  refine bodyPost_ret (v := .agg #[.int .i64 k0, .int .i64 k1, .string s2, .int .i64 k3, .slice A4 l4 d4, .int .i64 k5, .slice A6 l6 d6, .slice A7 l7 d7, .slice A8 l8 d8]) (by simp [results, Tryz.results37, go_sem, *]) rfl ?_
  exact ⟨⟨_, sh_intro, rfl⟩, ext_setCells [.int .i64 k0, .int .i64 k1, .string s2, .int .i64 k3, .slice A4 l4 d4, .int .i64 k5, .slice A6 l6 d6, .slice A7 l7 d7, .slice A8 l8 d8] 0 w3 (Nat.le_refl _) HX.out⟩
end Go.Proofs.YtbjghkmjnhmlfaaGreatDoor
