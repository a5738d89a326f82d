/- Joined: Eqa, Eqp, Eqr, Eqs. -/
import Derived.Test.YtbjghkmjnhmlfaaGreatDoorYB
import Derived.Test.YtbjghkmjnhmlfaaGreatDoorYQ
import Derived.Test.YtbjghkmjnhmlfaaGreatDoorYV
import Derived.Test.YtbjghkmjnhmlfaaGreatDoorYA

/- almagestref0.EqGuard, EqGuards, EqTerms: the same ones are alike. -/
namespace Go.Proofs.YtbjghkmjnhmlfaaGreatDoor
open Go.RowKit

mutual
theorem eqT_self : ∀ t : Tm, eqT t t = true
  | ⟨k, s, n, l⟩ => by rw [eqT, eqL_self l]; simp
theorem eqL_self : ∀ l : List Tm, eqL l l = true
  | [] => rfl
  | a :: l => by rw [eqL, eqT_self a, eqL_self l]; rfl
end
theorem eqTerm_yes (t : Tm) (A B : Option Addr) (c d : Nat) (w : World) (ha : TmAt w t A c) (hb : TmAt w t B d) :
    Calls Tryz.prog 67 #[t.val A c, t.val B d] w fun e w' => e = .returned (.bool true) ∧ Ext w w' :=
  (eqTerm_all t.high t t A B c d w (Nat.le_refl _) ha hb).mono fun _ _ ⟨he, hx⟩ => ⟨by rw [he, eqT_self], hx⟩
def GdAt (w : World) (x : Gd) (p : GdPl) : Prop := TmAt w x.l p.A p.ac ∧ TmAt w x.r p.B p.bc
theorem GdAt.ext {w w' : World} {x : Gd} {p : GdPl} (h : GdAt w x p) (k : Ext w w') : GdAt w' x p := ⟨h.1.ext k, h.2.ext k⟩
set_option maxRecDepth 100000 in
set_option maxHeartbeats 4000000 in
theorem eqGuard_yes (x : Gd) (p q : GdPl) (w : World) (hp : GdAt w x p) (hq : GdAt w x q) :
    Calls Tryz.prog 91 #[.agg #[.int .i64 x.kind, .int .i64 x.l.kind, .string x.l.name, .int .i64 x.l.n, .slice p.A x.l.args.length p.ac, .int .i64 x.r.kind, .string x.r.name, .int .i64 x.r.n, .slice p.B x.r.args.length p.bc], .agg #[.int .i64 x.kind, .int .i64 x.l.kind, .string x.l.name, .int .i64 x.l.n, .slice q.A x.l.args.length q.ac, .int .i64 x.r.kind, .string x.r.name, .int .i64 x.r.n, .slice q.B x.r.args.length q.bc]] w fun e w' => e = .returned (.bool true) ∧ Ext w w' := by
  obtain ⟨W, hW⟩ : ∃ W, W = (w.alloc (.cells #[.int .i64 x.kind, .int .i64 x.l.kind, .string x.l.name, .int .i64 x.l.n, .slice p.A x.l.args.length p.ac, .int .i64 x.r.kind, .string x.r.name, .int .i64 x.r.n, .slice p.B x.r.args.length p.bc] 95)).alloc (.cells #[.int .i64 x.kind, .int .i64 x.l.kind, .string x.l.name, .int .i64 x.l.n, .slice q.A x.l.args.length q.ac, .int .i64 x.r.kind, .string x.r.name, .int .i64 x.r.n, .slice q.B x.r.args.length q.bc] 95) := ⟨_, rfl⟩
  have hx0 : Ext w W := by rw [hW]; exact ((Ext.refl w).alloc _).alloc _
  have a0 : W.cell? ⟨w.heap.size, 0, none⟩ = some (.int .i64 x.kind) := by rw [hW]; go_simp
  have a1 : W.cell? ⟨w.heap.size, 1, none⟩ = some (.int .i64 x.l.kind) := by rw [hW]; go_simp
  have a2 : W.cell? ⟨w.heap.size, 2, none⟩ = some (.string x.l.name) := by rw [hW]; go_simp
  have a3 : W.cell? ⟨w.heap.size, 3, none⟩ = some (.int .i64 x.l.n) := by rw [hW]; go_simp
  have a4 : W.cell? ⟨w.heap.size, 4, none⟩ = some (.slice p.A x.l.args.length p.ac) := by rw [hW]; go_simp
  have a5 : W.cell? ⟨w.heap.size, 5, none⟩ = some (.int .i64 x.r.kind) := by rw [hW]; go_simp
  have a6 : W.cell? ⟨w.heap.size, 6, none⟩ = some (.string x.r.name) := by rw [hW]; go_simp
  have a7 : W.cell? ⟨w.heap.size, 7, none⟩ = some (.int .i64 x.r.n) := by rw [hW]; go_simp
  have a8 : W.cell? ⟨w.heap.size, 8, none⟩ = some (.slice p.B x.r.args.length p.bc) := by rw [hW]; go_simp
  have b0 : W.cell? ⟨w.heap.size + 1, 0, none⟩ = some (.int .i64 x.kind) := by rw [hW]; go_simp
  have b1 : W.cell? ⟨w.heap.size + 1, 1, none⟩ = some (.int .i64 x.l.kind) := by rw [hW]; go_simp
  have b2 : W.cell? ⟨w.heap.size + 1, 2, none⟩ = some (.string x.l.name) := by rw [hW]; go_simp
  have b3 : W.cell? ⟨w.heap.size + 1, 3, none⟩ = some (.int .i64 x.l.n) := by rw [hW]; go_simp
  have b4 : W.cell? ⟨w.heap.size + 1, 4, none⟩ = some (.slice q.A x.l.args.length q.ac) := by rw [hW]; go_simp
  have b5 : W.cell? ⟨w.heap.size + 1, 5, none⟩ = some (.int .i64 x.r.kind) := by rw [hW]; go_simp
  have b6 : W.cell? ⟨w.heap.size + 1, 6, none⟩ = some (.string x.r.name) := by rw [hW]; go_simp
  have b7 : W.cell? ⟨w.heap.size + 1, 7, none⟩ = some (.int .i64 x.r.n) := by rw [hW]; go_simp
  have b8 : W.cell? ⟨w.heap.size + 1, 8, none⟩ = some (.slice q.B x.r.args.length q.bc) := by rw [hW]; go_simp
  have K1 := Lib.hid (eqTerm_yes x.l p.A q.A p.ac q.ac W (hp.1.ext hx0) (hq.1.ext hx0))
  have K2 := Lib.hid (fun u (k : Ext W u) => eqTerm_yes x.r p.B q.B p.bc q.bc u (hp.2.ext (hx0.trans k)) (hq.2.ext (hx0.trans k)))
  have HW := Lib.hid hW
  clear hW hp hq
  go_enter Tryz.func91, Tryz.ntmps91
  go_upto_region 1 with (fail)
  rw [← HW.out]
  clear HW
  go_wp2_with fail
  refine K1.out.mono ?_
  rintro e w2 ⟨rfl, hx2⟩
  replace a0 := hx2.cell a0
  replace b0 := hx2.cell b0
  replace a1 := hx2.cell a1
  replace b1 := hx2.cell b1
  replace a2 := hx2.cell a2
  replace b2 := hx2.cell b2
  replace a3 := hx2.cell a3
  replace b3 := hx2.cell b3
  replace a4 := hx2.cell a4
  replace b4 := hx2.cell b4
  replace a5 := hx2.cell a5
  replace b5 := hx2.cell b5
  replace a6 := hx2.cell a6
  replace b6 := hx2.cell b6
  replace a7 := hx2.cell a7
  replace b7 := hx2.cell b7
  replace a8 := hx2.cell a8
  replace b8 := hx2.cell b8
  have K3 := Lib.hid (K2.out w2 hx2)
  have HX2 := Lib.hid (hx0.trans hx2)
  clear K1 K2 hx2 hx0
  go_wp2_with fail
  refine K3.out.mono ?_
  rintro e w3 ⟨rfl, hx3⟩
  have HX := Lib.hid (HX2.out.trans hx3)
  clear hx3 K3 a0 b0 a1 b1 a2 b2 a3 b3 a4 b4 a5 b5 a6 b6 a7 b7 a8 b8
  go_wp2_with fail
  go_ret
  exact ⟨rfl, HX.out⟩
/-- from A on lie these guards -/
def GdsAt (w : World) (xs : List Gd) (A : Option Addr) : Prop := ∀ i (h : i < xs.length), ∃ b o p, A = some ⟨b, o, none⟩ ∧ w.cell? ⟨b, o + i * 9, none⟩ = some (.int .i64 xs[i].kind) ∧ w.cell? ⟨b, o + i * 9 + 1, none⟩ = some (.int .i64 xs[i].l.kind) ∧ w.cell? ⟨b, o + i * 9 + 2, none⟩ = some (.string xs[i].l.name) ∧ w.cell? ⟨b, o + i * 9 + 3, none⟩ = some (.int .i64 xs[i].l.n) ∧ w.cell? ⟨b, o + i * 9 + 4, none⟩ = some (.slice p.A xs[i].l.args.length p.ac) ∧ w.cell? ⟨b, o + i * 9 + 5, none⟩ = some (.int .i64 xs[i].r.kind) ∧ w.cell? ⟨b, o + i * 9 + 6, none⟩ = some (.string xs[i].r.name) ∧ w.cell? ⟨b, o + i * 9 + 7, none⟩ = some (.int .i64 xs[i].r.n) ∧ w.cell? ⟨b, o + i * 9 + 8, none⟩ = some (.slice p.B xs[i].r.args.length p.bc) ∧ GdAt w xs[i] p
theorem GdsAt.ext {w w' : World} {xs : List Gd} {A : Option Addr} (h : GdsAt w xs A) (k : Ext w w') : GdsAt w' xs A := by
  intro i hi
  obtain ⟨b, o, p, e, c0, c1, c2, c3, c4, c5, c6, c7, c8, t⟩ := h i hi
  exact ⟨b, o, p, e, k.cell c0, k.cell c1, k.cell c2, k.cell c3, k.cell c4, k.cell c5, k.cell c6, k.cell c7, k.cell c8, t.ext k⟩
theorem GdsAt.nil (w : World) (A : Option Addr) : GdsAt w [] A := fun i hi => absurd hi (by simp)
theorem RowIn.gds {w : World} {F : Nat → Prop} {A : Option Addr} {c : Nat} {xs : List GLain} (h : RowIn SG w F (.slice A xs.length c) xs) : GdsAt w (xs.map (·.1)) A := by
  intro i hi
  have hi' : i < xs.length := by simpa using hi
  rcases h.1 with ⟨rfl, _⟩ | ⟨_, q, cap, e, _, _, hc⟩
  · exact absurd hi' (by simp)
  · injection e with e
    subst e
    have hm := h.2 _ (List.getElem_mem hi')
    have cell : ∀ j, j < 9 → w.cell? ⟨q, i * 9 + j, none⟩ = (gdCells xs[i])[j]? := fun j hj => by
      have h9 := srow_at (S := SG) xs i j hi' hj
      have hl : (gdCells xs[i])[j]? = some ((gdCells xs[i])[j]'(by simpa [gdCells] using hj)) := List.getElem?_eq_getElem _
      rw [hl]
      exact hc _ _ (h9.trans hl)
    refine ⟨q, 0, xs[i].2, rfl, (by have := cell 0 (by omega); simpa [gdCells] using this), (by have := cell 1 (by omega); simpa [gdCells] using this), (by have := cell 2 (by omega); simpa [gdCells] using this), (by have := cell 3 (by omega); simpa [gdCells] using this), (by have := cell 4 (by omega); simpa [gdCells] using this), (by have := cell 5 (by omega); simpa [gdCells] using this), (by have := cell 6 (by omega); simpa [gdCells] using this), (by have := cell 7 (by omega); simpa [gdCells] using this), (by have := cell 8 (by omega); simpa [gdCells] using this), ?_⟩
    · simpa using (show GdAt w xs[i].1 xs[i].2 from ⟨hm.1.at_, hm.2.at_⟩)
set_option maxRecDepth 100000 in
set_option maxHeartbeats 4000000 in
theorem eqGuards_yes (xs : List Gd) (A B : Option Addr) (c d : Nat) (w : World) (hl : xs.length ≤ 1000000) (ha : GdsAt w xs A) (hb : GdsAt w xs B) :
    Calls Tryz.prog 69 #[.slice A xs.length c, .slice B xs.length d] w fun e w' => e = .returned (.bool true) ∧ Ext w w' := by
  go_enter Tryz.func69, Tryz.ntmps69
  go_wp2_with fail
  go_loopw [5] (fun i wr => ∃ k : Nat, k ≤ xs.length ∧ i = .int .i64 k ∧ Ext w wr) (fun i _ => xs.length - (intOf i).toNat)
  case atStart => exact ⟨0, Nat.zero_le _, rfl, Ext.refl _⟩
  case round =>
    obtain ⟨k, hk, rfl, hx⟩ := hrel
    by_cases hlt : k < xs.length
    · obtain ⟨b, o, p, rfl, c0, c1, c2, c3, c4, c5, c6, c7, c8, hT⟩ := (ha.ext hx) k hlt
      obtain ⟨b2, o2, q, rfl, d0, d1, d2, d3, d4, d5, d6, d7, d8, hT2⟩ := (hb.ext hx) k hlt
      have i0 : (0 : Int) ≤ (k : Int) := Int.natCast_nonneg _
      have i1 : (k : Int) < (xs.length : Int) := by omega
      have HK := Lib.hid hlt
      have HX := Lib.hid hx
      generalize xs[k] = x at *
      have KEY := Lib.hid (fun u (k' : Ext wr u) => eqGuard_yes x p q u (hT.ext k') (hT2.ext k'))
      have q0 : ∀ p : ExtOf wr, p.to.cell? _ = _ := ext_cell c0
      have q1 : ∀ p : ExtOf wr, p.to.cell? _ = _ := ext_cell c1
      have q2 : ∀ p : ExtOf wr, p.to.cell? _ = _ := ext_cell c2
      have q3 : ∀ p : ExtOf wr, p.to.cell? _ = _ := ext_cell c3
      have q4 : ∀ p : ExtOf wr, p.to.cell? _ = _ := ext_cell c4
      have q5 : ∀ p : ExtOf wr, p.to.cell? _ = _ := ext_cell c5
      have q6 : ∀ p : ExtOf wr, p.to.cell? _ = _ := ext_cell c6
      have q7 : ∀ p : ExtOf wr, p.to.cell? _ = _ := ext_cell c7
      have q8 : ∀ p : ExtOf wr, p.to.cell? _ = _ := ext_cell c8
      have p0 : ∀ p : ExtOf wr, p.to.cell? _ = _ := ext_cell d0
      have p1 : ∀ p : ExtOf wr, p.to.cell? _ = _ := ext_cell d1
      have p2 : ∀ p : ExtOf wr, p.to.cell? _ = _ := ext_cell d2
      have p3 : ∀ p : ExtOf wr, p.to.cell? _ = _ := ext_cell d3
      have p4 : ∀ p : ExtOf wr, p.to.cell? _ = _ := ext_cell d4
      have p5 : ∀ p : ExtOf wr, p.to.cell? _ = _ := ext_cell d5
      have p6 : ∀ p : ExtOf wr, p.to.cell? _ = _ := ext_cell d6
      have p7 : ∀ p : ExtOf wr, p.to.cell? _ = _ := ext_cell d7
      have p8 : ∀ p : ExtOf wr, p.to.cell? _ = _ := ext_cell d8
      clear hT hT2 hx c0 d0 c1 d1 c2 d2 c3 d3 c4 d4 c5 d5 c6 d6 c7 d7 c8 d8
      go_wp2_with fail
      refine wp_region_ext (by kernel_rfl) (by kernel_rfl) ?_
      repeat (go_big_quiet_step ((go_at_call 91; with_reducible exact of_ext (KEY.out _ (ExtOf.is _)))))
      refine wpQuiet_nil ?_
      refine ext_all ?_
      intro w2 hx2
      have HX2 := Lib.hid (HX.out.trans hx2)
      clear hx2 KEY q0 p0 q1 p1 q2 p2 q3 p3 q4 p4 q5 p5 q6 p6 q7 p7 q8 p8
      go_wp2_with fail
      go_roundw
      case rel => exact ⟨k + 1, HK.out, by have := HK.out; go_num, HX2.out⟩
      case measure => have := HK.out; simp [intOf]; omega
    · have i1 : ¬ (k : Int) < (xs.length : Int) := by omega
      have HX := Lib.hid hx
      clear hx
      go_wp2_with fail
      go_ret
      exact ⟨rfl, HX.out⟩
end Go.Proofs.YtbjghkmjnhmlfaaGreatDoor

/- almagestref0.EqPattern, EqPatterns: the same ones are alike. -/
namespace Go.Proofs.YtbjghkmjnhmlfaaGreatDoor
open Go.RowKit

/-- from A on lie these patterns -/
def PtsAt (w : World) (xs : List Pt) (A : Option Addr) : Prop := ∀ i (h : i < xs.length), ∃ b o a F, A = some ⟨b, o, none⟩ ∧ w.cell? ⟨b, o + i * 9, none⟩ = some (.int .i64 xs[i].kind) ∧ w.cell? ⟨b, o + i * 9 + 1, none⟩ = some (.int .i64 xs[i].tm.kind) ∧ w.cell? ⟨b, o + i * 9 + 2, none⟩ = some (.string xs[i].tm.name) ∧ w.cell? ⟨b, o + i * 9 + 3, none⟩ = some (.int .i64 xs[i].tm.n) ∧ w.cell? ⟨b, o + i * 9 + 4, none⟩ = some (.slice a.A xs[i].tm.args.length a.ac) ∧ w.cell? ⟨b, o + i * 9 + 5, none⟩ = some (.int .i64 xs[i].rel) ∧ w.cell? ⟨b, o + i * 9 + 6, none⟩ = some (.slice a.L xs[i].l.length a.lc) ∧ w.cell? ⟨b, o + i * 9 + 7, none⟩ = some (.slice a.R xs[i].r.length a.rc) ∧ w.cell? ⟨b, o + i * 9 + 8, none⟩ = some (.slice a.C xs[i].c.length a.cc) ∧ PtIn w F xs[i] a
theorem PtIn.ext {w w' : World} {F : Nat → Prop} {p : Pt} {a : PtPl} (h : PtIn w F p a) (k : Ext w w') : PtIn w' F p a := h.keep fun b hb hl => ⟨k.block b hl, hb⟩
theorem PtsAt.ext {w w' : World} {xs : List Pt} {A : Option Addr} (h : PtsAt w xs A) (k : Ext w w') : PtsAt w' xs A := by
  intro i hi
  obtain ⟨b, o, a, F, e, c0, c1, c2, c3, c4, c5, c6, c7, c8, t⟩ := h i hi
  exact ⟨b, o, a, F, e, k.cell c0, k.cell c1, k.cell c2, k.cell c3, k.cell c4, k.cell c5, k.cell c6, k.cell c7, k.cell c8, t.ext k⟩
theorem pts_of {w : World} {F : Nat → Prop} {ps : List Pt} {L : Option Addr} {g : Nat → PtPl} (h : PRow w F ps L g) (hs : ∀ i (h : i < ps.length), PtIn w F ps[i] (g i)) : PtsAt w ps L := by
  intro i hi
  obtain ⟨b, e, _, hc⟩ := h i hi
  exact ⟨b, 0, g i, F, e, (by have := hc 0 (by omega); simpa using this), (by have := hc 1 (by omega); simpa using this), (by have := hc 2 (by omega); simpa using this), (by have := hc 3 (by omega); simpa using this), (by have := hc 4 (by omega); simpa using this), (by have := hc 5 (by omega); simpa using this), (by have := hc 6 (by omega); simpa using this), (by have := hc 7 (by omega); simpa using this), (by have := hc 8 (by omega); simpa using this), hs i hi⟩
def EqPTo (n : Nat) : Prop := ∀ (x : Pt) (a zz : PtPl) (F F2 : Nat → Prop) (w : World), SizeOf.sizeOf x < n → PtIn w F x a → PtIn w F2 x zz →
    Calls Tryz.prog 70 #[.agg #[.int .i64 x.kind, .int .i64 x.tm.kind, .string x.tm.name, .int .i64 x.tm.n, .slice a.A x.tm.args.length a.ac, .int .i64 x.rel, .slice a.L x.l.length a.lc, .slice a.R x.r.length a.rc, .slice a.C x.c.length a.cc], .agg #[.int .i64 x.kind, .int .i64 x.tm.kind, .string x.tm.name, .int .i64 x.tm.n, .slice zz.A x.tm.args.length zz.ac, .int .i64 x.rel, .slice zz.L x.l.length zz.lc, .slice zz.R x.r.length zz.rc, .slice zz.C x.c.length zz.cc]] w fun e w' => e = .returned (.bool true) ∧ Ext w w'
set_option maxRecDepth 100000 in
set_option maxHeartbeats 4000000 in
theorem eqPatterns_yes {n : Nat} (hc : EqPTo n) (xs : List Pt) (A B : Option Addr) (c d : Nat) (w : World) (hn : SizeOf.sizeOf xs ≤ n) (hl : xs.length ≤ 1000000) (ha : PtsAt w xs A) (hb : PtsAt w xs B) :
    Calls Tryz.prog 92 #[.slice A xs.length c, .slice B xs.length d] w fun e w' => e = .returned (.bool true) ∧ Ext w w' := by
  go_enter Tryz.func92, Tryz.ntmps92
  go_wp2_with fail
  go_loopw [5] (fun i wr => ∃ k : Nat, k ≤ xs.length ∧ i = .int .i64 k ∧ Ext w wr) (fun i _ => xs.length - (intOf i).toNat)
  case atStart => exact ⟨0, Nat.zero_le _, rfl, Ext.refl _⟩
  case round =>
    obtain ⟨k, hk, rfl, hx⟩ := hrel
    by_cases hlt : k < xs.length
    · obtain ⟨b, o, a, F, rfl, c0, c1, c2, c3, c4, c5, c6, c7, c8, hT⟩ := (ha.ext hx) k hlt
      obtain ⟨b2, o2, zz, F2, rfl, d0, d1, d2, d3, d4, d5, d6, d7, d8, hT2⟩ := (hb.ext hx) k hlt
      have i0 : (0 : Int) ≤ (k : Int) := Int.natCast_nonneg _
      have i1 : (k : Int) < (xs.length : Int) := by omega
      have HK := Lib.hid hlt
      have HX := Lib.hid hx
      have hsz : SizeOf.sizeOf xs[k] < n := Nat.lt_of_lt_of_le (List.sizeOf_lt_of_mem (List.getElem_mem hlt)) hn
      generalize xs[k] = x at *
      have KEY := Lib.hid (fun u (k' : Ext wr u) => hc x a zz F F2 u hsz (hT.ext k') (hT2.ext k'))
      have q0 : ∀ p : ExtOf wr, p.to.cell? _ = _ := ext_cell c0
      have q1 : ∀ p : ExtOf wr, p.to.cell? _ = _ := ext_cell c1
      have q2 : ∀ p : ExtOf wr, p.to.cell? _ = _ := ext_cell c2
      have q3 : ∀ p : ExtOf wr, p.to.cell? _ = _ := ext_cell c3
      have q4 : ∀ p : ExtOf wr, p.to.cell? _ = _ := ext_cell c4
      have q5 : ∀ p : ExtOf wr, p.to.cell? _ = _ := ext_cell c5
      have q6 : ∀ p : ExtOf wr, p.to.cell? _ = _ := ext_cell c6
      have q7 : ∀ p : ExtOf wr, p.to.cell? _ = _ := ext_cell c7
      have q8 : ∀ p : ExtOf wr, p.to.cell? _ = _ := ext_cell c8
      have p0 : ∀ p : ExtOf wr, p.to.cell? _ = _ := ext_cell d0
      have p1 : ∀ p : ExtOf wr, p.to.cell? _ = _ := ext_cell d1
      have p2 : ∀ p : ExtOf wr, p.to.cell? _ = _ := ext_cell d2
      have p3 : ∀ p : ExtOf wr, p.to.cell? _ = _ := ext_cell d3
      have p4 : ∀ p : ExtOf wr, p.to.cell? _ = _ := ext_cell d4
      have p5 : ∀ p : ExtOf wr, p.to.cell? _ = _ := ext_cell d5
      have p6 : ∀ p : ExtOf wr, p.to.cell? _ = _ := ext_cell d6
      have p7 : ∀ p : ExtOf wr, p.to.cell? _ = _ := ext_cell d7
      have p8 : ∀ p : ExtOf wr, p.to.cell? _ = _ := ext_cell d8
      clear hT hT2 hx hsz c0 d0 c1 d1 c2 d2 c3 d3 c4 d4 c5 d5 c6 d6 c7 d7 c8 d8
      go_wp2_with fail
      refine wp_region_ext (by kernel_rfl) (by kernel_rfl) ?_
      repeat (go_big_quiet_step ((go_at_call 70; with_reducible exact of_ext (KEY.out _ (ExtOf.is _)))))
      refine wpQuiet_nil ?_
      refine ext_all ?_
      intro w2 hx2
      have HX2 := Lib.hid (HX.out.trans hx2)
      clear hx2 KEY q0 p0 q1 p1 q2 p2 q3 p3 q4 p4 q5 p5 q6 p6 q7 p7 q8 p8
      go_wp2_with fail
      go_roundw
      case rel => exact ⟨k + 1, HK.out, by have := HK.out; go_num, HX2.out⟩
      case measure => have := HK.out; simp [intOf]; omega
    · have i1 : ¬ (k : Int) < (xs.length : Int) := by omega
      have HX := Lib.hid hx
      clear hx
      go_wp2_with fail
      go_ret
      exact ⟨rfl, HX.out⟩
theorem PtIn.parts {w : World} {F : Nat → Prop} {p : Pt} {a : PtPl} (h : PtIn w F p a) : PtFits p ∧ TmAt w p.tm a.A a.ac ∧ PtsAt w p.l a.L ∧ PtsAt w p.r a.R ∧ PtsAt w p.c a.C := by
  cases h with
  | mk _ _ gl gr gc fits cap tm l r c sl sr sc => exact ⟨fits, tm.at_, pts_of l sl, pts_of r sr, pts_of c sc⟩
theorem size_parts (x : Pt) : SizeOf.sizeOf x.l < SizeOf.sizeOf x ∧ SizeOf.sizeOf x.r < SizeOf.sizeOf x ∧ SizeOf.sizeOf x.c < SizeOf.sizeOf x := by
  obtain ⟨k, t, r, l, r2, c⟩ := x
  simp only [Pt.mk.sizeOf_spec]
  omega
set_option maxRecDepth 100000 in
set_option maxHeartbeats 4000000 in
theorem eqPattern_all (n : Nat) : EqPTo n := by
  induction n with
  | zero => intro x a zz F F2 w h0; omega
  | succ n ih =>
    intro x a zz F F2 w h0 hp hq
    obtain ⟨fits, hpt, hpl, hpr, hpc⟩ := hp.parts
    obtain ⟨_, hqt, hql, hqr, hqc⟩ := hq.parts
    obtain ⟨z1, z2, z3⟩ := size_parts x
    have l1 := fits.l
    have l2 := fits.r
    have l3 := fits.c
    obtain ⟨W, hW⟩ : ∃ W, W = (w.alloc (.cells #[.int .i64 x.kind, .int .i64 x.tm.kind, .string x.tm.name, .int .i64 x.tm.n, .slice a.A x.tm.args.length a.ac, .int .i64 x.rel, .slice a.L x.l.length a.lc, .slice a.R x.r.length a.rc, .slice a.C x.c.length a.cc] 63)).alloc (.cells #[.int .i64 x.kind, .int .i64 x.tm.kind, .string x.tm.name, .int .i64 x.tm.n, .slice zz.A x.tm.args.length zz.ac, .int .i64 x.rel, .slice zz.L x.l.length zz.lc, .slice zz.R x.r.length zz.rc, .slice zz.C x.c.length zz.cc] 63) := ⟨_, rfl⟩
    have hx0 : Ext w W := by rw [hW]; exact ((Ext.refl w).alloc _).alloc _
    have a0 : W.cell? ⟨w.heap.size, 0, none⟩ = some (.int .i64 x.kind) := by rw [hW]; go_simp
    have a1 : W.cell? ⟨w.heap.size, 1, none⟩ = some (.int .i64 x.tm.kind) := by rw [hW]; go_simp
    have a2 : W.cell? ⟨w.heap.size, 2, none⟩ = some (.string x.tm.name) := by rw [hW]; go_simp
    have a3 : W.cell? ⟨w.heap.size, 3, none⟩ = some (.int .i64 x.tm.n) := by rw [hW]; go_simp
    have a4 : W.cell? ⟨w.heap.size, 4, none⟩ = some (.slice a.A x.tm.args.length a.ac) := by rw [hW]; go_simp
    have a5 : W.cell? ⟨w.heap.size, 5, none⟩ = some (.int .i64 x.rel) := by rw [hW]; go_simp
    have a6 : W.cell? ⟨w.heap.size, 6, none⟩ = some (.slice a.L x.l.length a.lc) := by rw [hW]; go_simp
    have a7 : W.cell? ⟨w.heap.size, 7, none⟩ = some (.slice a.R x.r.length a.rc) := by rw [hW]; go_simp
    have a8 : W.cell? ⟨w.heap.size, 8, none⟩ = some (.slice a.C x.c.length a.cc) := by rw [hW]; go_simp
    have b0 : W.cell? ⟨w.heap.size + 1, 0, none⟩ = some (.int .i64 x.kind) := by rw [hW]; go_simp
    have b1 : W.cell? ⟨w.heap.size + 1, 1, none⟩ = some (.int .i64 x.tm.kind) := by rw [hW]; go_simp
    have b2 : W.cell? ⟨w.heap.size + 1, 2, none⟩ = some (.string x.tm.name) := by rw [hW]; go_simp
    have b3 : W.cell? ⟨w.heap.size + 1, 3, none⟩ = some (.int .i64 x.tm.n) := by rw [hW]; go_simp
    have b4 : W.cell? ⟨w.heap.size + 1, 4, none⟩ = some (.slice zz.A x.tm.args.length zz.ac) := by rw [hW]; go_simp
    have b5 : W.cell? ⟨w.heap.size + 1, 5, none⟩ = some (.int .i64 x.rel) := by rw [hW]; go_simp
    have b6 : W.cell? ⟨w.heap.size + 1, 6, none⟩ = some (.slice zz.L x.l.length zz.lc) := by rw [hW]; go_simp
    have b7 : W.cell? ⟨w.heap.size + 1, 7, none⟩ = some (.slice zz.R x.r.length zz.rc) := by rw [hW]; go_simp
    have b8 : W.cell? ⟨w.heap.size + 1, 8, none⟩ = some (.slice zz.C x.c.length zz.cc) := by rw [hW]; go_simp
    have K1 := Lib.hid (eqTerm_yes x.tm a.A zz.A a.ac zz.ac W (hpt.ext hx0) (hqt.ext hx0))
    have K2 := Lib.hid (fun u (k : Ext W u) => eqPatterns_yes ih x.l a.L zz.L a.lc zz.lc u (by omega) (by omega) (hpl.ext (hx0.trans k)) (hql.ext (hx0.trans k)))
    have K3 := Lib.hid (fun u (k : Ext W u) => eqPatterns_yes ih x.r a.R zz.R a.rc zz.rc u (by omega) (by omega) (hpr.ext (hx0.trans k)) (hqr.ext (hx0.trans k)))
    have K4 := Lib.hid (fun u (k : Ext W u) => eqPatterns_yes ih x.c a.C zz.C a.cc zz.cc u (by omega) (by omega) (hpc.ext (hx0.trans k)) (hqc.ext (hx0.trans k)))
    have HW := Lib.hid hW
    clear hW hp hq hpt hqt hpl hql hpr hqr hpc hqc fits l1 l2 l3 z1 z2 z3 ih h0
    go_enter Tryz.func70, Tryz.ntmps70
    go_upto_region 1 with (fail)
    rw [← HW.out]
    clear HW
    go_wp2_with fail
    refine K1.out.mono ?_
    rintro e w2 ⟨rfl, hx2⟩
    replace a0 := hx2.cell a0
    replace b0 := hx2.cell b0
    replace a1 := hx2.cell a1
    replace b1 := hx2.cell b1
    replace a2 := hx2.cell a2
    replace b2 := hx2.cell b2
    replace a3 := hx2.cell a3
    replace b3 := hx2.cell b3
    replace a4 := hx2.cell a4
    replace b4 := hx2.cell b4
    replace a5 := hx2.cell a5
    replace b5 := hx2.cell b5
    replace a6 := hx2.cell a6
    replace b6 := hx2.cell b6
    replace a7 := hx2.cell a7
    replace b7 := hx2.cell b7
    replace a8 := hx2.cell a8
    replace b8 := hx2.cell b8
    have K5 := Lib.hid (K2.out w2 hx2)
    have HX2 := Lib.hid hx2
    clear K1 K2 hx2
    go_wp2_with fail
    refine K5.out.mono ?_
    rintro e w3 ⟨rfl, hx3⟩
    replace a0 := hx3.cell a0
    replace b0 := hx3.cell b0
    replace a1 := hx3.cell a1
    replace b1 := hx3.cell b1
    replace a2 := hx3.cell a2
    replace b2 := hx3.cell b2
    replace a3 := hx3.cell a3
    replace b3 := hx3.cell b3
    replace a4 := hx3.cell a4
    replace b4 := hx3.cell b4
    replace a5 := hx3.cell a5
    replace b5 := hx3.cell b5
    replace a6 := hx3.cell a6
    replace b6 := hx3.cell b6
    replace a7 := hx3.cell a7
    replace b7 := hx3.cell b7
    replace a8 := hx3.cell a8
    replace b8 := hx3.cell b8
    have HX3 := Lib.hid (HX2.out.trans hx3)
    have K6 := Lib.hid (K3.out w3 HX3.out)
    clear hx3 K5 K3
    go_wp2_with fail
    refine K6.out.mono ?_
    rintro e w4 ⟨rfl, hx4⟩
    replace a0 := hx4.cell a0
    replace b0 := hx4.cell b0
    replace a1 := hx4.cell a1
    replace b1 := hx4.cell b1
    replace a2 := hx4.cell a2
    replace b2 := hx4.cell b2
    replace a3 := hx4.cell a3
    replace b3 := hx4.cell b3
    replace a4 := hx4.cell a4
    replace b4 := hx4.cell b4
    replace a5 := hx4.cell a5
    replace b5 := hx4.cell b5
    replace a6 := hx4.cell a6
    replace b6 := hx4.cell b6
    replace a7 := hx4.cell a7
    replace b7 := hx4.cell b7
    replace a8 := hx4.cell a8
    replace b8 := hx4.cell b8
    have HX4 := Lib.hid (HX3.out.trans hx4)
    have K7 := Lib.hid (K4.out w4 HX4.out)
    clear hx4 K6 K4
    go_wp2_with fail
    refine K7.out.mono ?_
    rintro e w5 ⟨rfl, hx5⟩
    have HX := Lib.hid (hx0.trans (HX4.out.trans hx5))
    clear hx5 K7 hx0 a0 b0 a1 b1 a2 b2 a3 b3 a4 b4 a5 b5 a6 b6 a7 b7 a8 b8
    go_wp2_with fail
    go_ret
    exact ⟨rfl, HX.out⟩
end Go.Proofs.YtbjghkmjnhmlfaaGreatDoor

/- almagestref0.EqClause, EqClauses, EqRule, EqRules, EqProgram: the same ones are alike. -/
namespace Go.Proofs.YtbjghkmjnhmlfaaGreatDoor
open Go.RowKit

theorem eqTerms_yes (xs : List Tm) (A B : Option Addr) (c d : Nat) (w : World) (hl : xs.length ≤ 1000000) (ha : TmsAt w xs A) (hb : TmsAt w xs B) :
    Calls Tryz.prog 68 #[.slice A xs.length c, .slice B xs.length d] w fun e w' => e = .returned (.bool true) ∧ Ext w w' :=
  (eqTerms_any (highs xs) (eqTerm_all _) xs xs A B c d w (Nat.le_refl _) (by omega) ha hb).mono fun _ _ ⟨he, hx⟩ => ⟨by rw [he, eqL_self], hx⟩
/-- where a clause's parts lie -/
structure ClPl where
  A : Option Addr
  ac : Nat
  bA : Option Addr
  bc : Nat
  gA : Option Addr
  gc : Nat
structure RlPl where
  A : Option Addr
  ac : Nat
  pl : PtPl
  gA : Option Addr
  gc : Nat
structure ClAt (w : World) (x : Cl) (p : ClPl) : Prop where
  head : TmAt w x.head p.A p.ac
  body : TmsAt w x.body p.bA
  guards : GdsAt w x.guards p.gA
  lb : x.body.length ≤ 1000000
  lg : x.guards.length ≤ 1000000
structure RlAt (w : World) (x : Rl) (p : RlPl) : Prop where
  head : TmAt w x.head p.A p.ac
  body : ∃ F, PtIn w F x.body p.pl
  guards : GdsAt w x.guards p.gA
  lg : x.guards.length ≤ 1000000
theorem ClAt.ext {w w' : World} {x : Cl} {p : ClPl} (h : ClAt w x p) (k : Ext w w') : ClAt w' x p := ⟨h.head.ext k, h.body.ext k, h.guards.ext k, h.lb, h.lg⟩
theorem RlAt.ext {w w' : World} {x : Rl} {p : RlPl} (h : RlAt w x p) (k : Ext w w') : RlAt w' x p := ⟨h.head.ext k, h.body.elim fun F h => ⟨F, h.ext k⟩, h.guards.ext k, h.lg⟩
theorem eqPattern_yes (x : Pt) (a b : PtPl) (w : World) (ha : ∃ F, PtIn w F x a) (hb : ∃ F, PtIn w F x b) :
    Calls Tryz.prog 70 #[x.val a, x.val b] w fun e w' => e = .returned (.bool true) ∧ Ext w w' := by
  obtain ⟨F, ha⟩ := ha
  obtain ⟨F2, hb⟩ := hb
  exact eqPattern_all _ x a b F F2 w (Nat.lt_succ_self _) ha hb
set_option maxRecDepth 100000 in
set_option maxHeartbeats 8000000 in
theorem eqClause_yes (x : Cl) (p q : ClPl) (w : World) (hp : ClAt w x p) (hq : ClAt w x q) :
    Calls Tryz.prog 44 #[.agg #[.int .i64 x.head.kind, .string x.head.name, .int .i64 x.head.n, .slice p.A x.head.args.length p.ac, .slice p.bA x.body.length p.bc, .slice p.gA x.guards.length p.gc], .agg #[.int .i64 x.head.kind, .string x.head.name, .int .i64 x.head.n, .slice q.A x.head.args.length q.ac, .slice q.bA x.body.length q.bc, .slice q.gA x.guards.length q.gc]] w fun e w' => e = .returned (.bool true) ∧ Ext w w' := by
  obtain ⟨W, hW⟩ : ∃ W, W = (w.alloc (.cells #[.int .i64 x.head.kind, .string x.head.name, .int .i64 x.head.n, .slice p.A x.head.args.length p.ac, .slice p.bA x.body.length p.bc, .slice p.gA x.guards.length p.gc] 73)).alloc (.cells #[.int .i64 x.head.kind, .string x.head.name, .int .i64 x.head.n, .slice q.A x.head.args.length q.ac, .slice q.bA x.body.length q.bc, .slice q.gA x.guards.length q.gc] 73) := ⟨_, rfl⟩
  have hx0 : Ext w W := by rw [hW]; exact ((Ext.refl w).alloc _).alloc _
  have a0 : W.cell? ⟨w.heap.size, 0, none⟩ = some (.int .i64 x.head.kind) := by rw [hW]; go_simp
  have a1 : W.cell? ⟨w.heap.size, 1, none⟩ = some (.string x.head.name) := by rw [hW]; go_simp
  have a2 : W.cell? ⟨w.heap.size, 2, none⟩ = some (.int .i64 x.head.n) := by rw [hW]; go_simp
  have a3 : W.cell? ⟨w.heap.size, 3, none⟩ = some (.slice p.A x.head.args.length p.ac) := by rw [hW]; go_simp
  have a4 : W.cell? ⟨w.heap.size, 4, none⟩ = some (.slice p.bA x.body.length p.bc) := by rw [hW]; go_simp
  have a5 : W.cell? ⟨w.heap.size, 5, none⟩ = some (.slice p.gA x.guards.length p.gc) := by rw [hW]; go_simp
  have b0 : W.cell? ⟨w.heap.size + 1, 0, none⟩ = some (.int .i64 x.head.kind) := by rw [hW]; go_simp
  have b1 : W.cell? ⟨w.heap.size + 1, 1, none⟩ = some (.string x.head.name) := by rw [hW]; go_simp
  have b2 : W.cell? ⟨w.heap.size + 1, 2, none⟩ = some (.int .i64 x.head.n) := by rw [hW]; go_simp
  have b3 : W.cell? ⟨w.heap.size + 1, 3, none⟩ = some (.slice q.A x.head.args.length q.ac) := by rw [hW]; go_simp
  have b4 : W.cell? ⟨w.heap.size + 1, 4, none⟩ = some (.slice q.bA x.body.length q.bc) := by rw [hW]; go_simp
  have b5 : W.cell? ⟨w.heap.size + 1, 5, none⟩ = some (.slice q.gA x.guards.length q.gc) := by rw [hW]; go_simp
  have hP := hp.ext hx0
  have hQ := hq.ext hx0
  have K0 := Lib.hid (fun u (k : Ext W u) => eqTerm_yes x.head p.A q.A p.ac q.ac u (hP.head.ext k) (hQ.head.ext k))
  have K1 := Lib.hid (fun u (k : Ext W u) => eqTerms_yes x.body p.bA q.bA p.bc q.bc u hP.lb (hP.body.ext k) (hQ.body.ext k))
  have K2 := Lib.hid (fun u (k : Ext W u) => eqGuards_yes x.guards p.gA q.gA p.gc q.gc u hP.lg (hP.guards.ext k) (hQ.guards.ext k))
  have HW := Lib.hid hW
  clear hW hp hq hP hQ
  have HX0 := Lib.hid (Ext.refl W)
  go_enter Tryz.func44, Tryz.ntmps44
  go_upto_region 1 with (fail)
  rw [← HW.out]
  clear HW
  have L0 := Lib.hid (K0.out _ HX0.out)
  clear K0
  go_wp2_with fail
  refine L0.out.mono ?_
  rintro e u0' ⟨rfl, hu0⟩
  have HX1 := Lib.hid (HX0.out.trans hu0)
  replace a0 := hu0.cell a0
  replace b0 := hu0.cell b0
  replace a1 := hu0.cell a1
  replace b1 := hu0.cell b1
  replace a2 := hu0.cell a2
  replace b2 := hu0.cell b2
  replace a3 := hu0.cell a3
  replace b3 := hu0.cell b3
  replace a4 := hu0.cell a4
  replace b4 := hu0.cell b4
  replace a5 := hu0.cell a5
  replace b5 := hu0.cell b5
  clear hu0 L0 HX0
  have L1 := Lib.hid (K1.out _ HX1.out)
  clear K1
  go_wp2_with fail
  refine L1.out.mono ?_
  rintro e u1' ⟨rfl, hu1⟩
  have HX2 := Lib.hid (HX1.out.trans hu1)
  replace a0 := hu1.cell a0
  replace b0 := hu1.cell b0
  replace a1 := hu1.cell a1
  replace b1 := hu1.cell b1
  replace a2 := hu1.cell a2
  replace b2 := hu1.cell b2
  replace a3 := hu1.cell a3
  replace b3 := hu1.cell b3
  replace a4 := hu1.cell a4
  replace b4 := hu1.cell b4
  replace a5 := hu1.cell a5
  replace b5 := hu1.cell b5
  clear hu1 L1 HX1
  have L2 := Lib.hid (K2.out _ HX2.out)
  clear K2
  go_wp2_with fail
  refine L2.out.mono ?_
  rintro e u2' ⟨rfl, hu2⟩
  have HX3 := Lib.hid (HX2.out.trans hu2)
  clear hu2 L2 HX2
  clear a0 b0 a1 b1 a2 b2 a3 b3 a4 b4 a5 b5
  go_wp2_with fail
  go_ret
  exact ⟨rfl, hx0.trans HX3.out⟩
/-- from A on lie these -/
def ClausesAt (w : World) (xs : List Cl) (A : Option Addr) : Prop := ∀ i (h : i < xs.length), ∃ b o p, A = some ⟨b, o, none⟩ ∧ w.cell? ⟨b, o + i * 6, none⟩ = some (.int .i64 xs[i].head.kind) ∧ w.cell? ⟨b, o + i * 6 + 1, none⟩ = some (.string xs[i].head.name) ∧ w.cell? ⟨b, o + i * 6 + 2, none⟩ = some (.int .i64 xs[i].head.n) ∧ w.cell? ⟨b, o + i * 6 + 3, none⟩ = some (.slice p.A xs[i].head.args.length p.ac) ∧ w.cell? ⟨b, o + i * 6 + 4, none⟩ = some (.slice p.bA xs[i].body.length p.bc) ∧ w.cell? ⟨b, o + i * 6 + 5, none⟩ = some (.slice p.gA xs[i].guards.length p.gc) ∧ ClAt w xs[i] p
theorem ClausesAt.ext {w w' : World} {xs : List Cl} {A : Option Addr} (h : ClausesAt w xs A) (k : Ext w w') : ClausesAt w' xs A := by
  intro i hi
  obtain ⟨b, o, p, e, c0, c1, c2, c3, c4, c5, t⟩ := h i hi
  exact ⟨b, o, p, e, k.cell c0, k.cell c1, k.cell c2, k.cell c3, k.cell c4, k.cell c5, t.ext k⟩
set_option maxRecDepth 100000 in
set_option maxHeartbeats 8000000 in
theorem eqClauses_yes (xs : List Cl) (A B : Option Addr) (c d : Nat) (w : World) (hl : xs.length ≤ 1000000) (ha : ClausesAt w xs A) (hb : ClausesAt w xs B) :
    Calls Tryz.prog 26 #[.slice A xs.length c, .slice B xs.length d] w fun e w' => e = .returned (.bool true) ∧ Ext w w' := by
  go_enter Tryz.func26, Tryz.ntmps26
  go_wp2_with fail
  go_loopw [5] (fun i wr => ∃ k : Nat, k ≤ xs.length ∧ i = .int .i64 k ∧ Ext w wr) (fun i _ => xs.length - (intOf i).toNat)
  case atStart => exact ⟨0, Nat.zero_le _, rfl, Ext.refl _⟩
  case round =>
    obtain ⟨k, hk, rfl, hx⟩ := hrel
    by_cases hlt : k < xs.length
    · obtain ⟨b, o, p, rfl, c0, c1, c2, c3, c4, c5, hT⟩ := (ha.ext hx) k hlt
      obtain ⟨b2, o2, q, rfl, d0, d1, d2, d3, d4, d5, hT2⟩ := (hb.ext hx) k hlt
      have i0 : (0 : Int) ≤ (k : Int) := Int.natCast_nonneg _
      have i1 : (k : Int) < (xs.length : Int) := by omega
      have HK := Lib.hid hlt
      have HX := Lib.hid hx
      generalize xs[k] = x at *
      have KEY := Lib.hid (fun u (k' : Ext wr u) => eqClause_yes x p q u (hT.ext k') (hT2.ext k'))
      have q0 : ∀ p : ExtOf wr, p.to.cell? _ = _ := ext_cell c0
      have q1 : ∀ p : ExtOf wr, p.to.cell? _ = _ := ext_cell c1
      have q2 : ∀ p : ExtOf wr, p.to.cell? _ = _ := ext_cell c2
      have q3 : ∀ p : ExtOf wr, p.to.cell? _ = _ := ext_cell c3
      have q4 : ∀ p : ExtOf wr, p.to.cell? _ = _ := ext_cell c4
      have q5 : ∀ p : ExtOf wr, p.to.cell? _ = _ := ext_cell c5
      have p0 : ∀ p : ExtOf wr, p.to.cell? _ = _ := ext_cell d0
      have p1 : ∀ p : ExtOf wr, p.to.cell? _ = _ := ext_cell d1
      have p2 : ∀ p : ExtOf wr, p.to.cell? _ = _ := ext_cell d2
      have p3 : ∀ p : ExtOf wr, p.to.cell? _ = _ := ext_cell d3
      have p4 : ∀ p : ExtOf wr, p.to.cell? _ = _ := ext_cell d4
      have p5 : ∀ p : ExtOf wr, p.to.cell? _ = _ := ext_cell d5
      clear hT hT2 hx c0 d0 c1 d1 c2 d2 c3 d3 c4 d4 c5 d5
      go_wp2_with fail
      refine wp_region_ext (by kernel_rfl) (by kernel_rfl) ?_
      repeat (go_big_quiet_step ((go_at_call 44; with_reducible exact of_ext (KEY.out _ (ExtOf.is _)))))
      refine wpQuiet_nil ?_
      refine ext_all ?_
      intro w2 hx2
      have HX2 := Lib.hid (HX.out.trans hx2)
      clear hx2 KEY q0 p0 q1 p1 q2 p2 q3 p3 q4 p4 q5 p5
      go_wp2_with fail
      go_roundw
      case rel => exact ⟨k + 1, HK.out, by have := HK.out; go_num, HX2.out⟩
      case measure => have := HK.out; simp [intOf]; omega
    · have i1 : ¬ (k : Int) < (xs.length : Int) := by omega
      have HX := Lib.hid hx
      clear hx
      go_wp2_with fail
      go_ret
      exact ⟨rfl, HX.out⟩
set_option maxRecDepth 100000 in
set_option maxHeartbeats 8000000 in
theorem eqRule_yes (x : Rl) (p q : RlPl) (w : World) (hp : RlAt w x p) (hq : RlAt w x q) :
    Calls Tryz.prog 45 #[.agg #[.int .i64 x.head.kind, .string x.head.name, .int .i64 x.head.n, .slice p.A x.head.args.length p.ac, .int .i64 x.body.kind, .int .i64 x.body.tm.kind, .string x.body.tm.name, .int .i64 x.body.tm.n, .slice p.pl.A x.body.tm.args.length p.pl.ac, .int .i64 x.body.rel, .slice p.pl.L x.body.l.length p.pl.lc, .slice p.pl.R x.body.r.length p.pl.rc, .slice p.pl.C x.body.c.length p.pl.cc, .slice p.gA x.guards.length p.gc, .int .i64 x.within, .int .i64 x.policy], .agg #[.int .i64 x.head.kind, .string x.head.name, .int .i64 x.head.n, .slice q.A x.head.args.length q.ac, .int .i64 x.body.kind, .int .i64 x.body.tm.kind, .string x.body.tm.name, .int .i64 x.body.tm.n, .slice q.pl.A x.body.tm.args.length q.pl.ac, .int .i64 x.body.rel, .slice q.pl.L x.body.l.length q.pl.lc, .slice q.pl.R x.body.r.length q.pl.rc, .slice q.pl.C x.body.c.length q.pl.cc, .slice q.gA x.guards.length q.gc, .int .i64 x.within, .int .i64 x.policy]] w fun e w' => e = .returned (.bool true) ∧ Ext w w' := by
  obtain ⟨W, hW⟩ : ∃ W, W = (w.alloc (.cells #[.int .i64 x.head.kind, .string x.head.name, .int .i64 x.head.n, .slice p.A x.head.args.length p.ac, .int .i64 x.body.kind, .int .i64 x.body.tm.kind, .string x.body.tm.name, .int .i64 x.body.tm.n, .slice p.pl.A x.body.tm.args.length p.pl.ac, .int .i64 x.body.rel, .slice p.pl.L x.body.l.length p.pl.lc, .slice p.pl.R x.body.r.length p.pl.rc, .slice p.pl.C x.body.c.length p.pl.cc, .slice p.gA x.guards.length p.gc, .int .i64 x.within, .int .i64 x.policy] 66)).alloc (.cells #[.int .i64 x.head.kind, .string x.head.name, .int .i64 x.head.n, .slice q.A x.head.args.length q.ac, .int .i64 x.body.kind, .int .i64 x.body.tm.kind, .string x.body.tm.name, .int .i64 x.body.tm.n, .slice q.pl.A x.body.tm.args.length q.pl.ac, .int .i64 x.body.rel, .slice q.pl.L x.body.l.length q.pl.lc, .slice q.pl.R x.body.r.length q.pl.rc, .slice q.pl.C x.body.c.length q.pl.cc, .slice q.gA x.guards.length q.gc, .int .i64 x.within, .int .i64 x.policy] 66) := ⟨_, rfl⟩
  have hx0 : Ext w W := by rw [hW]; exact ((Ext.refl w).alloc _).alloc _
  have a0 : W.cell? ⟨w.heap.size, 0, none⟩ = some (.int .i64 x.head.kind) := by rw [hW]; go_simp
  have a1 : W.cell? ⟨w.heap.size, 1, none⟩ = some (.string x.head.name) := by rw [hW]; go_simp
  have a2 : W.cell? ⟨w.heap.size, 2, none⟩ = some (.int .i64 x.head.n) := by rw [hW]; go_simp
  have a3 : W.cell? ⟨w.heap.size, 3, none⟩ = some (.slice p.A x.head.args.length p.ac) := by rw [hW]; go_simp
  have a4 : W.cell? ⟨w.heap.size, 4, none⟩ = some (.int .i64 x.body.kind) := by rw [hW]; go_simp
  have a5 : W.cell? ⟨w.heap.size, 5, none⟩ = some (.int .i64 x.body.tm.kind) := by rw [hW]; go_simp
  have a6 : W.cell? ⟨w.heap.size, 6, none⟩ = some (.string x.body.tm.name) := by rw [hW]; go_simp
  have a7 : W.cell? ⟨w.heap.size, 7, none⟩ = some (.int .i64 x.body.tm.n) := by rw [hW]; go_simp
  have a8 : W.cell? ⟨w.heap.size, 8, none⟩ = some (.slice p.pl.A x.body.tm.args.length p.pl.ac) := by rw [hW]; go_simp
  have a9 : W.cell? ⟨w.heap.size, 9, none⟩ = some (.int .i64 x.body.rel) := by rw [hW]; go_simp
  have a10 : W.cell? ⟨w.heap.size, 10, none⟩ = some (.slice p.pl.L x.body.l.length p.pl.lc) := by rw [hW]; go_simp
  have a11 : W.cell? ⟨w.heap.size, 11, none⟩ = some (.slice p.pl.R x.body.r.length p.pl.rc) := by rw [hW]; go_simp
  have a12 : W.cell? ⟨w.heap.size, 12, none⟩ = some (.slice p.pl.C x.body.c.length p.pl.cc) := by rw [hW]; go_simp
  have a13 : W.cell? ⟨w.heap.size, 13, none⟩ = some (.slice p.gA x.guards.length p.gc) := by rw [hW]; go_simp
  have a14 : W.cell? ⟨w.heap.size, 14, none⟩ = some (.int .i64 x.within) := by rw [hW]; go_simp
  have a15 : W.cell? ⟨w.heap.size, 15, none⟩ = some (.int .i64 x.policy) := by rw [hW]; go_simp
  have b0 : W.cell? ⟨w.heap.size + 1, 0, none⟩ = some (.int .i64 x.head.kind) := by rw [hW]; go_simp
  have b1 : W.cell? ⟨w.heap.size + 1, 1, none⟩ = some (.string x.head.name) := by rw [hW]; go_simp
  have b2 : W.cell? ⟨w.heap.size + 1, 2, none⟩ = some (.int .i64 x.head.n) := by rw [hW]; go_simp
  have b3 : W.cell? ⟨w.heap.size + 1, 3, none⟩ = some (.slice q.A x.head.args.length q.ac) := by rw [hW]; go_simp
  have b4 : W.cell? ⟨w.heap.size + 1, 4, none⟩ = some (.int .i64 x.body.kind) := by rw [hW]; go_simp
  have b5 : W.cell? ⟨w.heap.size + 1, 5, none⟩ = some (.int .i64 x.body.tm.kind) := by rw [hW]; go_simp
  have b6 : W.cell? ⟨w.heap.size + 1, 6, none⟩ = some (.string x.body.tm.name) := by rw [hW]; go_simp
  have b7 : W.cell? ⟨w.heap.size + 1, 7, none⟩ = some (.int .i64 x.body.tm.n) := by rw [hW]; go_simp
  have b8 : W.cell? ⟨w.heap.size + 1, 8, none⟩ = some (.slice q.pl.A x.body.tm.args.length q.pl.ac) := by rw [hW]; go_simp
  have b9 : W.cell? ⟨w.heap.size + 1, 9, none⟩ = some (.int .i64 x.body.rel) := by rw [hW]; go_simp
  have b10 : W.cell? ⟨w.heap.size + 1, 10, none⟩ = some (.slice q.pl.L x.body.l.length q.pl.lc) := by rw [hW]; go_simp
  have b11 : W.cell? ⟨w.heap.size + 1, 11, none⟩ = some (.slice q.pl.R x.body.r.length q.pl.rc) := by rw [hW]; go_simp
  have b12 : W.cell? ⟨w.heap.size + 1, 12, none⟩ = some (.slice q.pl.C x.body.c.length q.pl.cc) := by rw [hW]; go_simp
  have b13 : W.cell? ⟨w.heap.size + 1, 13, none⟩ = some (.slice q.gA x.guards.length q.gc) := by rw [hW]; go_simp
  have b14 : W.cell? ⟨w.heap.size + 1, 14, none⟩ = some (.int .i64 x.within) := by rw [hW]; go_simp
  have b15 : W.cell? ⟨w.heap.size + 1, 15, none⟩ = some (.int .i64 x.policy) := by rw [hW]; go_simp
  have hP := hp.ext hx0
  have hQ := hq.ext hx0
  have K0 := Lib.hid (fun u (k : Ext W u) => eqTerm_yes x.head p.A q.A p.ac q.ac u (hP.head.ext k) (hQ.head.ext k))
  have K1 := Lib.hid (fun u (k : Ext W u) => eqPattern_yes x.body p.pl q.pl u (hP.ext k).body (hQ.ext k).body)
  have K2 := Lib.hid (fun u (k : Ext W u) => eqGuards_yes x.guards p.gA q.gA p.gc q.gc u hP.lg (hP.guards.ext k) (hQ.guards.ext k))
  have HW := Lib.hid hW
  clear hW hp hq hP hQ
  have HX0 := Lib.hid (Ext.refl W)
  go_enter Tryz.func45, Tryz.ntmps45
  go_upto_region 1 with (fail)
  rw [← HW.out]
  clear HW
  have L0 := Lib.hid (K0.out _ HX0.out)
  clear K0
  go_wp2_with fail
  refine L0.out.mono ?_
  rintro e u0' ⟨rfl, hu0⟩
  have HX1 := Lib.hid (HX0.out.trans hu0)
  replace a0 := hu0.cell a0
  replace b0 := hu0.cell b0
  replace a1 := hu0.cell a1
  replace b1 := hu0.cell b1
  replace a2 := hu0.cell a2
  replace b2 := hu0.cell b2
  replace a3 := hu0.cell a3
  replace b3 := hu0.cell b3
  replace a4 := hu0.cell a4
  replace b4 := hu0.cell b4
  replace a5 := hu0.cell a5
  replace b5 := hu0.cell b5
  replace a6 := hu0.cell a6
  replace b6 := hu0.cell b6
  replace a7 := hu0.cell a7
  replace b7 := hu0.cell b7
  replace a8 := hu0.cell a8
  replace b8 := hu0.cell b8
  replace a9 := hu0.cell a9
  replace b9 := hu0.cell b9
  replace a10 := hu0.cell a10
  replace b10 := hu0.cell b10
  replace a11 := hu0.cell a11
  replace b11 := hu0.cell b11
  replace a12 := hu0.cell a12
  replace b12 := hu0.cell b12
  replace a13 := hu0.cell a13
  replace b13 := hu0.cell b13
  replace a14 := hu0.cell a14
  replace b14 := hu0.cell b14
  replace a15 := hu0.cell a15
  replace b15 := hu0.cell b15
  clear hu0 L0 HX0
  have L1 := Lib.hid (K1.out _ HX1.out)
  clear K1
  go_wp2_with fail
  refine L1.out.mono ?_
  rintro e u1' ⟨rfl, hu1⟩
  have HX2 := Lib.hid (HX1.out.trans hu1)
  replace a0 := hu1.cell a0
  replace b0 := hu1.cell b0
  replace a1 := hu1.cell a1
  replace b1 := hu1.cell b1
  replace a2 := hu1.cell a2
  replace b2 := hu1.cell b2
  replace a3 := hu1.cell a3
  replace b3 := hu1.cell b3
  replace a4 := hu1.cell a4
  replace b4 := hu1.cell b4
  replace a5 := hu1.cell a5
  replace b5 := hu1.cell b5
  replace a6 := hu1.cell a6
  replace b6 := hu1.cell b6
  replace a7 := hu1.cell a7
  replace b7 := hu1.cell b7
  replace a8 := hu1.cell a8
  replace b8 := hu1.cell b8
  replace a9 := hu1.cell a9
  replace b9 := hu1.cell b9
  replace a10 := hu1.cell a10
  replace b10 := hu1.cell b10
  replace a11 := hu1.cell a11
  replace b11 := hu1.cell b11
  replace a12 := hu1.cell a12
  replace b12 := hu1.cell b12
  replace a13 := hu1.cell a13
  replace b13 := hu1.cell b13
  replace a14 := hu1.cell a14
  replace b14 := hu1.cell b14
  replace a15 := hu1.cell a15
  replace b15 := hu1.cell b15
  clear hu1 L1 HX1
  have L2 := Lib.hid (K2.out _ HX2.out)
  clear K2
  go_wp2_with fail
  refine L2.out.mono ?_
  rintro e u2' ⟨rfl, hu2⟩
  have HX3 := Lib.hid (HX2.out.trans hu2)
  replace a0 := hu2.cell a0
  replace b0 := hu2.cell b0
  replace a1 := hu2.cell a1
  replace b1 := hu2.cell b1
  replace a2 := hu2.cell a2
  replace b2 := hu2.cell b2
  replace a3 := hu2.cell a3
  replace b3 := hu2.cell b3
  replace a4 := hu2.cell a4
  replace b4 := hu2.cell b4
  replace a5 := hu2.cell a5
  replace b5 := hu2.cell b5
  replace a6 := hu2.cell a6
  replace b6 := hu2.cell b6
  replace a7 := hu2.cell a7
  replace b7 := hu2.cell b7
  replace a8 := hu2.cell a8
  replace b8 := hu2.cell b8
  replace a9 := hu2.cell a9
  replace b9 := hu2.cell b9
  replace a10 := hu2.cell a10
  replace b10 := hu2.cell b10
  replace a11 := hu2.cell a11
  replace b11 := hu2.cell b11
  replace a12 := hu2.cell a12
  replace b12 := hu2.cell b12
  replace a13 := hu2.cell a13
  replace b13 := hu2.cell b13
  replace a14 := hu2.cell a14
  replace b14 := hu2.cell b14
  replace a15 := hu2.cell a15
  replace b15 := hu2.cell b15
  clear hu2 L2 HX2
  go_wp2_with fail
  go_ret
  exact ⟨rfl, hx0.trans HX3.out⟩
end Go.Proofs.YtbjghkmjnhmlfaaGreatDoor

/- almagestref0.EqRules, EqProgram: the same ones are alike. -/
namespace Go.Proofs.YtbjghkmjnhmlfaaGreatDoor
open Go.RowKit

/-- from A on lie these -/
def RulesAt (w : World) (xs : List Rl) (A : Option Addr) : Prop := ∀ i (h : i < xs.length), ∃ b o p, A = some ⟨b, o, none⟩ ∧ w.cell? ⟨b, o + i * 16, none⟩ = some (.int .i64 xs[i].head.kind) ∧ w.cell? ⟨b, o + i * 16 + 1, none⟩ = some (.string xs[i].head.name) ∧ w.cell? ⟨b, o + i * 16 + 2, none⟩ = some (.int .i64 xs[i].head.n) ∧ w.cell? ⟨b, o + i * 16 + 3, none⟩ = some (.slice p.A xs[i].head.args.length p.ac) ∧ w.cell? ⟨b, o + i * 16 + 4, none⟩ = some (.int .i64 xs[i].body.kind) ∧ w.cell? ⟨b, o + i * 16 + 5, none⟩ = some (.int .i64 xs[i].body.tm.kind) ∧ w.cell? ⟨b, o + i * 16 + 6, none⟩ = some (.string xs[i].body.tm.name) ∧ w.cell? ⟨b, o + i * 16 + 7, none⟩ = some (.int .i64 xs[i].body.tm.n) ∧ w.cell? ⟨b, o + i * 16 + 8, none⟩ = some (.slice p.pl.A xs[i].body.tm.args.length p.pl.ac) ∧ w.cell? ⟨b, o + i * 16 + 9, none⟩ = some (.int .i64 xs[i].body.rel) ∧ w.cell? ⟨b, o + i * 16 + 10, none⟩ = some (.slice p.pl.L xs[i].body.l.length p.pl.lc) ∧ w.cell? ⟨b, o + i * 16 + 11, none⟩ = some (.slice p.pl.R xs[i].body.r.length p.pl.rc) ∧ w.cell? ⟨b, o + i * 16 + 12, none⟩ = some (.slice p.pl.C xs[i].body.c.length p.pl.cc) ∧ w.cell? ⟨b, o + i * 16 + 13, none⟩ = some (.slice p.gA xs[i].guards.length p.gc) ∧ w.cell? ⟨b, o + i * 16 + 14, none⟩ = some (.int .i64 xs[i].within) ∧ w.cell? ⟨b, o + i * 16 + 15, none⟩ = some (.int .i64 xs[i].policy) ∧ RlAt w xs[i] p
theorem RulesAt.ext {w w' : World} {xs : List Rl} {A : Option Addr} (h : RulesAt w xs A) (k : Ext w w') : RulesAt w' xs A := by
  intro i hi
  obtain ⟨b, o, p, e, c0, c1, c2, c3, c4, c5, c6, c7, c8, c9, c10, c11, c12, c13, c14, c15, t⟩ := h i hi
  exact ⟨b, o, p, e, k.cell c0, k.cell c1, k.cell c2, k.cell c3, k.cell c4, k.cell c5, k.cell c6, k.cell c7, k.cell c8, k.cell c9, k.cell c10, k.cell c11, k.cell c12, k.cell c13, k.cell c14, k.cell c15, t.ext k⟩
set_option maxRecDepth 100000 in
set_option maxHeartbeats 8000000 in
theorem eqRules_yes (xs : List Rl) (A B : Option Addr) (c d : Nat) (w : World) (hl : xs.length ≤ 1000000) (ha : RulesAt w xs A) (hb : RulesAt w xs B) :
    Calls Tryz.prog 27 #[.slice A xs.length c, .slice B xs.length d] w fun e w' => e = .returned (.bool true) ∧ Ext w w' := by
  go_enter Tryz.func27, Tryz.ntmps27
  go_wp2_with fail
  go_loopw [5] (fun i wr => ∃ k : Nat, k ≤ xs.length ∧ i = .int .i64 k ∧ Ext w wr) (fun i _ => xs.length - (intOf i).toNat)
  case atStart => exact ⟨0, Nat.zero_le _, rfl, Ext.refl _⟩
  case round =>
    obtain ⟨k, hk, rfl, hx⟩ := hrel
    by_cases hlt : k < xs.length
    · obtain ⟨b, o, p, rfl, c0, c1, c2, c3, c4, c5, c6, c7, c8, c9, c10, c11, c12, c13, c14, c15, hT⟩ := (ha.ext hx) k hlt
      obtain ⟨b2, o2, q, rfl, d0, d1, d2, d3, d4, d5, d6, d7, d8, d9, d10, d11, d12, d13, d14, d15, hT2⟩ := (hb.ext hx) k hlt
      have i0 : (0 : Int) ≤ (k : Int) := Int.natCast_nonneg _
      have i1 : (k : Int) < (xs.length : Int) := by omega
      have HK := Lib.hid hlt
      have HX := Lib.hid hx
      generalize xs[k] = x at *
      have KEY := Lib.hid (fun u (k' : Ext wr u) => eqRule_yes x p q u (hT.ext k') (hT2.ext k'))
      have q0 : ∀ p : ExtOf wr, p.to.cell? _ = _ := ext_cell c0
      have q1 : ∀ p : ExtOf wr, p.to.cell? _ = _ := ext_cell c1
      have q2 : ∀ p : ExtOf wr, p.to.cell? _ = _ := ext_cell c2
      have q3 : ∀ p : ExtOf wr, p.to.cell? _ = _ := ext_cell c3
      have q4 : ∀ p : ExtOf wr, p.to.cell? _ = _ := ext_cell c4
      have q5 : ∀ p : ExtOf wr, p.to.cell? _ = _ := ext_cell c5
      have q6 : ∀ p : ExtOf wr, p.to.cell? _ = _ := ext_cell c6
      have q7 : ∀ p : ExtOf wr, p.to.cell? _ = _ := ext_cell c7
      have q8 : ∀ p : ExtOf wr, p.to.cell? _ = _ := ext_cell c8
      have q9 : ∀ p : ExtOf wr, p.to.cell? _ = _ := ext_cell c9
      have q10 : ∀ p : ExtOf wr, p.to.cell? _ = _ := ext_cell c10
      have q11 : ∀ p : ExtOf wr, p.to.cell? _ = _ := ext_cell c11
      have q12 : ∀ p : ExtOf wr, p.to.cell? _ = _ := ext_cell c12
      have q13 : ∀ p : ExtOf wr, p.to.cell? _ = _ := ext_cell c13
      have q14 : ∀ p : ExtOf wr, p.to.cell? _ = _ := ext_cell c14
      have q15 : ∀ p : ExtOf wr, p.to.cell? _ = _ := ext_cell c15
      have p0 : ∀ p : ExtOf wr, p.to.cell? _ = _ := ext_cell d0
      have p1 : ∀ p : ExtOf wr, p.to.cell? _ = _ := ext_cell d1
      have p2 : ∀ p : ExtOf wr, p.to.cell? _ = _ := ext_cell d2
      have p3 : ∀ p : ExtOf wr, p.to.cell? _ = _ := ext_cell d3
      have p4 : ∀ p : ExtOf wr, p.to.cell? _ = _ := ext_cell d4
      have p5 : ∀ p : ExtOf wr, p.to.cell? _ = _ := ext_cell d5
      have p6 : ∀ p : ExtOf wr, p.to.cell? _ = _ := ext_cell d6
      have p7 : ∀ p : ExtOf wr, p.to.cell? _ = _ := ext_cell d7
      have p8 : ∀ p : ExtOf wr, p.to.cell? _ = _ := ext_cell d8
      have p9 : ∀ p : ExtOf wr, p.to.cell? _ = _ := ext_cell d9
      have p10 : ∀ p : ExtOf wr, p.to.cell? _ = _ := ext_cell d10
      have p11 : ∀ p : ExtOf wr, p.to.cell? _ = _ := ext_cell d11
      have p12 : ∀ p : ExtOf wr, p.to.cell? _ = _ := ext_cell d12
      have p13 : ∀ p : ExtOf wr, p.to.cell? _ = _ := ext_cell d13
      have p14 : ∀ p : ExtOf wr, p.to.cell? _ = _ := ext_cell d14
      have p15 : ∀ p : ExtOf wr, p.to.cell? _ = _ := ext_cell d15
      clear hT hT2 hx c0 d0 c1 d1 c2 d2 c3 d3 c4 d4 c5 d5 c6 d6 c7 d7 c8 d8 c9 d9 c10 d10 c11 d11 c12 d12 c13 d13 c14 d14 c15 d15
      go_wp2_with fail
      refine wp_region_ext (by kernel_rfl) (by kernel_rfl) ?_
      repeat (go_big_quiet_step ((go_at_call 45; with_reducible exact of_ext (KEY.out _ (ExtOf.is _)))))
      refine wpQuiet_nil ?_
      refine ext_all ?_
      intro w2 hx2
      have HX2 := Lib.hid (HX.out.trans hx2)
      clear hx2 KEY q0 p0 q1 p1 q2 p2 q3 p3 q4 p4 q5 p5 q6 p6 q7 p7 q8 p8 q9 p9 q10 p10 q11 p11 q12 p12 q13 p13 q14 p14 q15 p15
      go_wp2_with fail
      go_roundw
      case rel => exact ⟨k + 1, HK.out, by have := HK.out; go_num, HX2.out⟩
      case measure => have := HK.out; simp [intOf]; omega
    · have i1 : ¬ (k : Int) < (xs.length : Int) := by omega
      have HX := Lib.hid hx
      clear hx
      go_wp2_with fail
      go_ret
      exact ⟨rfl, HX.out⟩
end Go.Proofs.YtbjghkmjnhmlfaaGreatDoor
