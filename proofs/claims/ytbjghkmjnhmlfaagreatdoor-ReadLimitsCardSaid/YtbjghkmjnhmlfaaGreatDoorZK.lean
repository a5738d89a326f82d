/- Joined: Eqt, Equ, Eqv. -/
import Derived.Test.YtbjghkmjnhmlfaaGreatDoorZJ
import Derived.Test.YtbjghkmjnhmlfaaGreatDoorYR
import Derived.Test.YtbjghkmjnhmlfaaGreatDoorYS

/- almagestref0.EqProgram: the same one is alike. -/
namespace Go.Proofs.YtbjghkmjnhmlfaaGreatDoor
open Go.RowKit

/-- a program, as it lies there -/
structure PrPl where
  A : Option Addr
  ac : Nat
  B : Option Addr
  bc : Nat
structure PrAt (w : World) (x : Pr) (p : PrPl) : Prop where
  cls : ClausesAt w x.clauses p.A
  rls : RulesAt w x.rules p.B
  lc : x.clauses.length ≤ 1000000
  lr : x.rules.length ≤ 1000000
theorem PrAt.ext {w w' : World} {x : Pr} {p : PrPl} (h : PrAt w x p) (k : Ext w w') : PrAt w' x p := ⟨h.cls.ext k, h.rls.ext k, h.lc, h.lr⟩
set_option maxRecDepth 100000 in
set_option maxHeartbeats 4000000 in
theorem eqProgram_yes (x : Pr) (p q : PrPl) (w : World) (hp : PrAt w x p) (hq : PrAt w x q) :
    Calls Tryz.prog 11 #[.agg #[.slice p.A x.clauses.length p.ac, .slice p.B x.rules.length p.bc], .agg #[.slice q.A x.clauses.length q.ac, .slice q.B x.rules.length q.bc]] w fun e w' => e = .returned (.bool true) ∧ Ext w w' := by
  obtain ⟨W, hW⟩ : ∃ W, W = (w.alloc (.cells #[.slice p.A x.clauses.length p.ac, .slice p.B x.rules.length p.bc] 31)).alloc (.cells #[.slice q.A x.clauses.length q.ac, .slice q.B x.rules.length q.bc] 31) := ⟨_, rfl⟩
  have hx0 : Ext w W := by rw [hW]; exact ((Ext.refl w).alloc _).alloc _
  have a0 : W.cell? ⟨w.heap.size, 0, none⟩ = some (.slice p.A x.clauses.length p.ac) := by rw [hW]; go_simp
  have a1 : W.cell? ⟨w.heap.size, 1, none⟩ = some (.slice p.B x.rules.length p.bc) := by rw [hW]; go_simp
  have b0 : W.cell? ⟨w.heap.size + 1, 0, none⟩ = some (.slice q.A x.clauses.length q.ac) := by rw [hW]; go_simp
  have b1 : W.cell? ⟨w.heap.size + 1, 1, none⟩ = some (.slice q.B x.rules.length q.bc) := by rw [hW]; go_simp
  have hP := hp.ext hx0
  have hQ := hq.ext hx0
  have K1 := Lib.hid (eqClauses_yes x.clauses p.A q.A p.ac q.ac W hP.lc hP.cls hQ.cls)
  have K2 := Lib.hid (fun u (k : Ext W u) => eqRules_yes x.rules p.B q.B p.bc q.bc u hP.lr (hP.ext k).rls (hQ.ext k).rls)
  have HW := Lib.hid hW
  clear hW hp hq hP hQ
  go_enter Tryz.func11, Tryz.ntmps11
  go_upto_region 1 with (fail)
  rw [← HW.out]
  clear HW
  go_wp2_with fail
  refine K1.out.mono ?_
  rintro e w2 ⟨rfl, hx2⟩
  replace a1 := hx2.cell a1
  replace b1 := hx2.cell b1
  have K3 := Lib.hid (K2.out w2 hx2)
  have HX2 := Lib.hid (hx0.trans hx2)
  clear K1 K2 hx2 hx0 a0 b0
  go_wp2_with fail
  refine K3.out.mono ?_
  rintro e w3 ⟨rfl, hx3⟩
  have HX := Lib.hid (HX2.out.trans hx3)
  clear hx3 K3 a1 b1
  go_wp2_with fail
  go_ret
  exact ⟨rfl, HX.out⟩
end Go.Proofs.YtbjghkmjnhmlfaaGreatDoor

/- Programs that are read: their lists are short; as they lie in memory they are what EqProgram asks. -/
namespace Go.Proofs.YtbjghkmjnhmlfaaGreatDoor
open Go.RowKit

section
variable {T : List Tok}
theorem guardP_len {gs : List Gd} {i : Nat} {x : List Gd} {j : Nat} (hl : gs.length ≤ 4) (h : guardP T gs i = .ok (x, j)) : x.length ≤ 4 := by
  have h1 := guardP_four h
  have h2 : x.length = gs.length + 1 := by
    unfold guardP opP at h
    split at h
    · split at h
      · cases h
      · injection h with h; injection h with h _; rw [← h]; simp
    · split at h
      · cases h
      · split at h
        · split at h
          · cases h
          · injection h with h; injection h with h _; rw [← h]; simp
        · cases h
  omega
theorem whereP_len : ∀ n {gs : List Gd} {i : Nat} {x : List Gd × Int} {j : Nat}, gs.length ≤ 4 → whereP T n gs i = .ok (x, j) → x.1.length ≤ 4
  | 0, _, _, _, _, _, h => by cases h
  | n + 1, gs, i, x, j, hl, h => by
    unfold whereP at h
    split at h
    · injection h with h; injection h with h _; rw [← h]; exact hl
    · split at h
      · cases h
      · rename_i hs k hg
        have h4 := guardP_len hl hg
        split at h
        · exact whereP_len n h4 h
        · injection h with h; injection h with h _; rw [← h]; exact h4
theorem condP_len {i : Nat} {x : List Gd × Int} {j : Nat} (h : condP T i = .ok (x, j)) : x.1.length ≤ 4 := by
  unfold condP at h
  split at h
  · split at h
    · exact whereP_len _ (by simp) h
    · split at h
      · injection h with h; injection h with h _; rw [← h]; simp
      · cases h
  · injection h with h; injection h with h _; rw [← h]; simp
theorem ruleP_len {t : Tm} {i : Nat} {x : Rl} {j : Nat} (h : ruleP T t i = .ok (x, j)) : x.guards.length ≤ 4 := by
  unfold ruleP at h
  split at h
  · cases h
  · split at h
    · split at h
      · split at h
        · split at h
          · cases h
          · rename_i gs pol m hc
            have h4 := condP_len hc
            split at h
            · split at h
              · cases h
              · injection h with h; injection h with h _; rw [← h]; exact h4
            · cases h
        · cases h
      · cases h
    · cases h
def ClShort (c : Cl) : Prop := c.body.length ≤ 3 ∧ c.guards.length ≤ 4
theorem partP_len {c : Cl} {i : Nat} {x : Cl} {j : Nat} (hl : ClShort c) (h : partP T c i = .ok (x, j)) : ClShort x := by
  unfold partP opP at h
  split at h
  · cases h
  · split at h
    · split at h
      · cases h
      · rename_i gs m hg
        injection h with h; injection h with h _
        rw [← h]
        refine ⟨hl.1, ?_⟩
        split at hg
        · cases hg
        · split at hg
          · cases hg
          · injection hg with hg; injection hg with hg _; rw [← hg]; have := hl.2; simp; omega
    · split at h
      · cases h
      · injection h with h; injection h with h _
        rw [← h]
        exact ⟨by have := hl.1; simp; omega, hl.2⟩
theorem partsP_len : ∀ n {c : Cl} {i : Nat} {x : Cl} {j : Nat}, ClShort c → partsP T n c i = .ok (x, j) → ClShort x
  | 0, _, _, _, _, _, h => by cases h
  | n + 1, c, i, x, j, hl, h => by
    unfold partsP at h
    split at h
    · cases h
    · rename_i d k hd
      have h4 := partP_len hl hd
      split at h
      · exact partsP_len n h4 h
      · split at h
        · injection h with h; injection h with h _; rw [← h]; exact h4
        · cases h
theorem clauseP_len {t : Tm} {i : Nat} {x : Cl} {j : Nat} (h : clauseP T t i = .ok (x, j)) : ClShort x := by
  unfold clauseP at h
  split at h
  · exact partsP_len _ ⟨by simp, by simp⟩ h
  · split at h
    · injection h with h; injection h with h _; rw [← h]; exact ⟨by simp, by simp⟩
    · cases h
structure PrShort (p : Pr) : Prop where
  lc : p.clauses.length ≤ 30
  lr : p.rules.length ≤ 20
  cl : ∀ c ∈ p.clauses, ClShort c
  rl : ∀ r ∈ p.rules, r.guards.length ≤ 4
theorem itemP_len {p : Pr} {i : Nat} {x : Pr} {j : Nat} (hl : PrShort p) (h : itemP T p i = .ok (x, j)) : PrShort x := by
  unfold itemP at h
  split at h
  · cases h
  · split at h
    · split at h
      · cases h
      · rename_i y m hr
        have h4 := ruleP_len hr
        split at h
        · cases h
        · injection h with h; injection h with h _
          rw [← h]
          refine ⟨hl.lc, by have := hl.lr; simp; omega, hl.cl, fun r hr => ?_⟩
          rcases List.mem_append.1 hr with hr | hr
          · exact hl.rl r hr
          · obtain rfl := List.mem_singleton.1 hr; exact h4
    · split at h
      · cases h
      · rename_i y m hr
        have h4 := clauseP_len hr
        split at h
        · cases h
        · injection h with h; injection h with h _
          rw [← h]
          refine ⟨by have := hl.lc; simp; omega, hl.lr, fun r hr => ?_, hl.rl⟩
          rcases List.mem_append.1 hr with hr | hr
          · exact hl.cl r hr
          · obtain rfl := List.mem_singleton.1 hr; exact h4
theorem itemsP_len : ∀ n {p : Pr} {i : Nat} {x : Pr} {j : Nat}, PrShort p → itemsP T n p i = .ok (x, j) → PrShort x
  | 0, _, _, _, _, _, h => by cases h
  | n + 1, p, i, x, j, hl, h => by
    unfold itemsP at h
    split at h
    · injection h with h; injection h with h _; rw [← h]; exact hl
    · split at h
      · cases h
      · rename_i q k hq
        exact itemsP_len n (itemP_len hl hq) h
theorem wholeG_short {p : Pr} (h : wholeG T = .ok p) : PrShort p := by
  unfold wholeG at h
  split at h
  · cases h
  · rename_i q k hq
    injection h with h
    subst h
    exact itemsP_len _ ⟨by simp, by simp, (fun c hc => by cases hc), (fun r hr => by cases hr)⟩ hq
end
end Go.Proofs.YtbjghkmjnhmlfaaGreatDoor

/- Programs that are read: as they lie in memory they are what EqProgram asks. -/
namespace Go.Proofs.YtbjghkmjnhmlfaaGreatDoor
open Go.RowKit

theorem RowIn.cell {X : Type} {S : Srt X} {w : World} {F : Nat → Prop} {A : Option Addr} {c : Nat} {xs : List X} (h : RowIn S w F (.slice A xs.length c) xs) {i : Nat} (hi : i < xs.length) :
    ∃ q, A = some ⟨q, 0, none⟩ ∧ (∀ j, j < S.sz → w.cell? ⟨q, i * S.sz + j, none⟩ = (S.cells xs[i])[j]?) ∧ S.In w F xs[i] := by
  rcases h.1 with ⟨rfl, _⟩ | ⟨_, q, cap, e, _, _, hc⟩
  · exact absurd hi (by simp)
  · injection e with e
    refine ⟨q, e, fun j hj => ?_, h.2 _ (List.getElem_mem hi)⟩
    have h9 := srow_at (S := S) xs i j hi hj
    have hl : j < (S.cells xs[i]).length := by rw [S.len]; exact hj
    rw [List.getElem?_eq_getElem hl] at h9 ⊢
    exact hc _ _ h9
theorem RowIn.tms {w : World} {F : Nat → Prop} {A : Option Addr} {c : Nat} {xs : List Lain} (h : RowIn ST w F (.slice A xs.length c) xs) : TmsAt w (xs.map (·.1)) A := by
  refine ⟨fun i => (xs[i]?.map (·.2.1)).getD none, fun i => (xs[i]?.map (·.2.2)).getD 0, fun i hi => ?_, fun i hi => ?_⟩
  · have hi' : i < xs.length := by simpa using hi
    obtain ⟨q, rfl, cell, _⟩ := h.cell hi'
    refine ⟨q, 0, rfl, ?_, ?_, ?_, ?_⟩
    · have := cell 0 (by decide); simpa [ST, Lain.cells, hi'] using this
    · have := cell 1 (by decide); simpa [ST, Lain.cells, hi'] using this
    · have := cell 2 (by decide); simpa [ST, Lain.cells, hi'] using this
    · have := cell 3 (by decide); simpa [ST, Lain.cells, hi'] using this
  · have hi' : i < xs.length := by simpa using hi
    obtain ⟨q, _, _, hm⟩ := h.cell hi'
    have := TmIn.at_ hm
    simpa [hi'] using this
theorem RowIn.cls {w : World} {F : Nat → Prop} {A : Option Addr} {c : Nat} {xs : List ClL} (h : RowIn SC w F (.slice A xs.length c) xs) (hs : ∀ x ∈ xs, ClShort x.cl) : ClausesAt w (xs.map ClL.cl) A := by
  intro i hi
  have hi' : i < xs.length := by simpa using hi
  obtain ⟨q, rfl, cell, hm⟩ := h.cell hi'
  have hsh := hs _ (List.getElem_mem hi')
  have hm : ClIn w F xs[i] := hm
  have hat : ClAt w xs[i].cl ⟨xs[i].A, xs[i].ac, xs[i].bA, xs[i].bc, xs[i].gA, xs[i].gc⟩ := ⟨hm.1.at_, hm.2.1.tms, hm.2.2.gds, Nat.le_trans hsh.1 (by decide), Nat.le_trans hsh.2 (by decide)⟩
  refine ⟨q, 0, ⟨xs[i].A, xs[i].ac, xs[i].bA, xs[i].bc, xs[i].gA, xs[i].gc⟩, rfl, ?_, ?_, ?_, ?_, ?_, ?_, by simpa using hat⟩
  · have := cell 0 (by decide); simpa [SC, clCells, ClL.cl] using this
  · have := cell 1 (by decide); simpa [SC, clCells, ClL.cl] using this
  · have := cell 2 (by decide); simpa [SC, clCells, ClL.cl] using this
  · have := cell 3 (by decide); simpa [SC, clCells, ClL.cl] using this
  · have := cell 4 (by decide); simpa [SC, clCells, ClL.cl] using this
  · have := cell 5 (by decide); simpa [SC, clCells, ClL.cl] using this
theorem RowIn.rls {w : World} {F : Nat → Prop} {A : Option Addr} {c : Nat} {xs : List RlL} (h : RowIn SR w F (.slice A xs.length c) xs) (hs : ∀ x ∈ xs, x.rl.guards.length ≤ 4) : RulesAt w (xs.map RlL.rl) A := by
  intro i hi
  have hi' : i < xs.length := by simpa using hi
  obtain ⟨q, rfl, cell, hm⟩ := h.cell hi'
  have hsh := hs _ (List.getElem_mem hi')
  have hm : RlIn w F xs[i] := hm
  have hat : RlAt w xs[i].rl ⟨xs[i].A, xs[i].ac, xs[i].pl, xs[i].gA, xs[i].gc⟩ := ⟨hm.1.at_, ⟨F, hm.2.1⟩, hm.2.2.gds, Nat.le_trans hsh (by decide)⟩
  refine ⟨q, 0, ⟨xs[i].A, xs[i].ac, xs[i].pl, xs[i].gA, xs[i].gc⟩, rfl, ?_, ?_, ?_, ?_, ?_, ?_, ?_, ?_, ?_, ?_, ?_, ?_, ?_, ?_, ?_, ?_, by simpa using hat⟩
  · have := cell 0 (by decide); simpa [SR, rlCells, RlL.rl] using this
  · have := cell 1 (by decide); simpa [SR, rlCells, RlL.rl] using this
  · have := cell 2 (by decide); simpa [SR, rlCells, RlL.rl] using this
  · have := cell 3 (by decide); simpa [SR, rlCells, RlL.rl] using this
  · have := cell 4 (by decide); simpa [SR, rlCells, RlL.rl] using this
  · have := cell 5 (by decide); simpa [SR, rlCells, RlL.rl] using this
  · have := cell 6 (by decide); simpa [SR, rlCells, RlL.rl] using this
  · have := cell 7 (by decide); simpa [SR, rlCells, RlL.rl] using this
  · have := cell 8 (by decide); simpa [SR, rlCells, RlL.rl] using this
  · have := cell 9 (by decide); simpa [SR, rlCells, RlL.rl] using this
  · have := cell 10 (by decide); simpa [SR, rlCells, RlL.rl] using this
  · have := cell 11 (by decide); simpa [SR, rlCells, RlL.rl] using this
  · have := cell 12 (by decide); simpa [SR, rlCells, RlL.rl] using this
  · have := cell 13 (by decide); simpa [SR, rlCells, RlL.rl] using this
  · have := cell 14 (by decide); simpa [SR, rlCells, RlL.rl] using this
  · have := cell 15 (by decide); simpa [SR, rlCells, RlL.rl] using this
/-- a program that is read lies there as EqProgram asks -/
theorem prog_at {w w' : World} {P : Pr} {A0 A1 : Option Addr} {c0 c1 : Nat} {cs : List ClL} {rs : List RlL} (hP : PrShort P) (h1 : cs.map ClL.cl = P.clauses) (h2 : rs.map RlL.rl = P.rules)
    (ha : RowIn SC w' (New w w') (.slice A0 cs.length c0) cs) (hb : RowIn SR w' (New w w') (.slice A1 rs.length c1) rs) : PrAt w' P ⟨A0, c0, A1, c1⟩ ∧ cs.length = P.clauses.length ∧ rs.length = P.rules.length := by
  have l1 : cs.length = P.clauses.length := by rw [← h1, List.length_map]
  have l2 : rs.length = P.rules.length := by rw [← h2, List.length_map]
  refine ⟨⟨?_, ?_, Nat.le_trans hP.lc (by decide), Nat.le_trans hP.lr (by decide)⟩, l1, l2⟩
  · rw [← h1]
    exact ha.cls fun x hx => hP.cl _ (by rw [← h1]; exact List.mem_map_of_mem hx)
  · rw [← h2]
    exact hb.rls fun x hx => hP.rl _ (by rw [← h2]; exact List.mem_map_of_mem hx)
end Go.Proofs.YtbjghkmjnhmlfaaGreatDoor
