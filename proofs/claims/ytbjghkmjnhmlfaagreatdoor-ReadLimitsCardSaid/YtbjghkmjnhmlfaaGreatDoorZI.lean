/- Joined: Pif, Pig. -/
import Derived.Test.YtbjghkmjnhmlfaaGreatDoorZG
import Derived.Test.YtbjghkmjnhmlfaaGreatDoorYS
import Derived.Test.YtbjghkmjnhmlfaaGreatDoorPhr
import Derived.Test.YtbjghkmjnhmlfaaGreatDoorZA
import Derived.Test.YtbjghkmjnhmlfaaGreatDoorZH

/- The page's reader: ReadProgram: what an item comes to; a clause, a rule put behind the others. -/
namespace Go.Proofs.YtbjghkmjnhmlfaaGreatDoor
open Go.RowKit

theorem neck_txt : (⟨#[58, 45]⟩ : ByteArray) = txt (roleTexts[9]?.getD []) := by decide
theorem arr_txt : (⟨#[60, 45]⟩ : ByteArray) = txt (roleTexts[10]?.getD []) := by decide
theorem dot_txt' : (⟨#[46]⟩ : ByteArray) = txt (roleTexts[3]?.getD []) := by decide
theorem end_of' {T : List Tok} (hG : ToksG T) {i : Nat} (hi : i < T.length) : rl T i = 0 ↔ (tk T i).kind = 5 := by
 have g := hG.2.1 _ (List.getElem_mem hi)
 rw [show rl T i = roleN (T[i]) by unfold rl; rw [tk_at T hi], tk_at T hi]
 exact (role_kind g).1.symm
/-- what stands behind a head that no <- follows -/
def clQ (T : List Tok) (F1 : Rs Tm) : Rs Cl := match F1 with
 | .error e => .error e
 | .ok (t, m) => if rl T m = 13 then cpartsQ T (T.length - m) ⟨t, [], []⟩ (m + 1) else .ok (⟨t, [], []⟩, m)
theorem clauseP_is (T : List Tok) (t : Tm) (m : Nat) : clauseP T t m = match clQ T (.ok (t, m)) with
  | .error e => .error e
  | .ok (x, k) => if rl T k = 7 then .ok (x, k + 1) else .error (bad T k) := by
 unfold clauseP clQ
 by_cases h : rl T m = 13
 ·
  simp only [if_pos h]
  exact partsP_is T _ _ _
 ·
  simp only [if_neg h]
/-- an item, as the page has it: a clause at j behind so many -/
def itC (T : List Tok) (n j : Nat) (F : Rs Cl) : Rs Cl := match F with
 | .error e => .error e
 | .ok (x, k) => if rl T k = 7 then (if n = 30 then .error (lim T j) else .ok (x, k + 1)) else .error (bad T k)
/-- .. a rule whose pattern begins at i -/
def itR (T : List Tok) (n j i : Nat) (F : Rs Rl) : Rs Rl := match F with
 | .error e => .error e
 | .ok (x, k) => if rl T k = 7 then (if muchB x.body then .error (lim T i) else if n = 20 then .error (lim T j) else .ok (x, k + 1)) else .error (bad T k)
theorem itemP_rule {T : List Tok} {p : Pr} {j : Nat} {t : Tm} {m : Nat} (ht : termP T 100 j = .ok (t, m)) (h : rl T m = 14) : itemP T p j = match itR T p.rules.length j (m + 1) (ruleQ T t (m + 1)) with
  | .error e => .error e
  | .ok (x, k) => .ok (⟨p.clauses, p.rules ++ [x]⟩, k) := by
 unfold itemP itR
 rw [ht]
 simp only [if_pos h, ruleP_is]
 match ruleQ T t (m + 1) with
 | .error e => rfl
 | .ok (x, k) =>
  by_cases h7 : rl T k = 7
  ·
   simp only [if_pos h7]
   cases hm : muchB x.body with
   | true => simp
   | false =>
    simp only [Bool.false_eq_true, if_false]
    by_cases h20 : p.rules.length = 20
    ·
     simp only [if_pos h20]
    ·
     simp only [if_neg h20]
  ·
   simp only [if_neg h7]
theorem itemP_cl {T : List Tok} {p : Pr} {j : Nat} {F1 : Rs Tm} (ht : termP T 100 j = F1) (h : ∀ t m, F1 = .ok (t, m) → rl T m ≠ 14) : itemP T p j = match itC T p.clauses.length j (clQ T F1) with
  | .error e => .error e
  | .ok (x, k) => .ok (⟨p.clauses ++ [x], p.rules⟩, k) := by
 unfold itemP itC
 rw [ht]
 match F1, h with
 | .error e, _ => rfl
 | .ok (t, m), h =>
  simp only [if_neg (h t m rfl), clauseP_is]
  match clQ T (.ok (t, m)) with
  | .error e => rfl
  | .ok (x, k) =>
   by_cases h7 : rl T k = 7
   ·
    simp only [if_pos h7]
    by_cases h30 : p.clauses.length = 30
    ·
     simp only [if_pos h30]
    ·
     simp only [if_neg h30]
   ·
    simp only [if_neg h7]
section
variable {B p m : Nat} {w w5 wf : World} {v0 v1 v' : Value} {cs : List ClL} {rs : List RlL}
theorem TwoP.addC {y : ClL} (h : TwoP B w p v0 cs v1 rs) (hl : cs.length ≠ 30) (h4 : ∀ q, v0.ownBlock = some q → q < m) (h5 : ∀ q, v1.ownBlock = some q → q < m) (hB : B ≤ m) (hy : ClIn w (fun b => m ≤ b ∧ b < w.heap.size) y)
  (c : Chg (fun x => v0.ownBlock = some x) w w5) (ho : w5.ownsRow B SC.ty SC.sz v' (cs.length + 1) (SC.row cs ++ SC.cells y)) (hat : Grown w v0 v') (hwf : wf = w5.setCell ⟨p, 0, none⟩ v') : TwoP B wf p v' (cs ++ [y]) v1 rs := by
 have hy' : SC.In w (fun b => (B ≤ b ∧ b < w.heap.size) ∧ ¬ v1.ownBlock = some b ∧ v0.ownBlock ≠ some b) y := SC.keep (show SC.In w (fun b => m ≤ b ∧ b < w.heap.size) y from hy) fun b hb _ => ⟨rfl, ⟨by have := hb.1; omega, hb.2⟩, fun e => by have := h5 b e; have := hb.1; omega, fun e => by have := h4 b e; have := hb.1; omega⟩
 obtain ⟨k1, k2, k3⟩ := slot_add h.s0 (fun b e => (h.s1.inv.lt b e).2) hy' c ho hat hwf
 refine ⟨k1, slot_beside h.s1 k2 k3 hat (by decide), ?_, by have := h.l0; simp; omega, h.l1⟩
 have := h.box.beside1 k3 k1.cell (by simp)
 simpa using this
theorem TwoP.addR {y : RlL} (h : TwoP B w p v0 cs v1 rs) (hl : rs.length ≠ 20) (h4 : ∀ q, v0.ownBlock = some q → q < m) (h5 : ∀ q, v1.ownBlock = some q → q < m) (hB : B ≤ m) (hy : RlIn w (fun b => m ≤ b ∧ b < w.heap.size) y)
  (c : Chg (fun x => v1.ownBlock = some x) w w5) (ho : w5.ownsRow B SR.ty SR.sz v' (rs.length + 1) (SR.row rs ++ SR.cells y)) (hat : Grown w v1 v') (hwf : wf = w5.setCell ⟨p, 1, none⟩ v') : TwoP B wf p v0 cs v' (rs ++ [y]) := by
 have hy' : SR.In w (fun b => (B ≤ b ∧ b < w.heap.size) ∧ ¬ v0.ownBlock = some b ∧ v1.ownBlock ≠ some b) y := SR.keep (show SR.In w (fun b => m ≤ b ∧ b < w.heap.size) y from hy) fun b hb _ => ⟨rfl, ⟨by have := hb.1; omega, hb.2⟩, fun e => by have := h4 b e; have := hb.1; omega, fun e => by have := h5 b e; have := hb.1; omega⟩
 obtain ⟨k1, k2, k3⟩ := slot_add h.s1 (fun b e => (h.s0.inv.lt b e).2) hy' c ho hat hwf
 refine ⟨slot_beside h.s0 k2 k3 hat (by decide), k1, ?_, h.l0, by have := h.l1; simp; omega⟩
 have := h.box.beside1 k3 k1.cell (by simp)
 simpa using this
/-- whatever was put there: what has turned -/
theorem put_chg {o : Nat} {v : Value} (c : Chg (fun x => v.ownBlock = some x) w w5) (hwf : wf = w5.setCell ⟨p, o, none⟩ v') : Chg (fun x => x = p ∨ v.ownBlock = some x) w wf := by
 subst hwf
 exact (c.weak fun _ e => .inr e).trans (((Chg.refl (fun x => x = p) w5).setg _ _).weak fun _ e => .inl e)
end
theorem PgOut.gs {w w' : World} {g A c : Nat} {T : List Tok} {a : Int} {b : Nat} {F : Rs Tm} {e : Ending} (h : PgOut w g A c T a b F e w') : Gs w' g A c T a b (bareS F) := by
 match F, h with
 | .ok (t, j), ⟨_, A', c', _, _, hP⟩ => exact hP
 | .error (q, x), ⟨_, hx, _, i', d', hP⟩ => exact ⟨hx, i', d', hP⟩
theorem RqTo.gs {w w' : World} {g A c : Nat} {T : List Tok} {a : Int} {i : Nat} {hd : Tm} {B : Option Addr} {bc : Nat} {F : Rs Rl} {e : Ending} (h : RqTo w g A c T a i hd B bc F e w') : Gs w' g A c T a 0 (bareS F) := by
 match F, h with
 | .ok (x, m), ⟨_, pl, ys, A5, c5, _, _, _, _, _, hP⟩ => exact hP
 | .error (q, y), ⟨_, hy, _, i', d', hP⟩ => exact ⟨hy, i', d', hP⟩
theorem RqTo.val {w w' : World} {g A c : Nat} {T : List Tok} {a : Int} {i : Nat} {hd : Tm} {B : Option Addr} {bc : Nat} {F : Rs Rl} {e : Ending} (h : RqTo w g A c T a i hd B bc F e w') :
  ∃ cs9, Sh9 cs9 ∧ ∃ (A5 : Option Addr) (l5 c5 : Nat) (n14 n15 : Int), e = .returned (.tuple #[.agg (rx (hdL hd B bc) cs9 (.slice A5 l5 c5) n14 n15).toArray, .int .i64 (tk T i).at_]) := by
 match F, h with
 | .ok (x, m), ⟨_, pl, ys, A5, c5, _, _, he, _⟩ => exact ⟨x.body.cells pl, ⟨_, _, _, _, _, _, _, _, _, _, _, _, _, _, _, _, _, rfl⟩, A5, ys.length, c5, x.within, x.policy, he⟩
 | .error (q, y), ⟨_, _, ⟨cs9, hs, A5, l5, c5, n, p, he⟩, _⟩ => exact ⟨cs9, hs, A5, l5, c5, n, p, he⟩
theorem CqTo.val {w w' : World} {g A c : Nat} {T : List Tok} {a : Int} {hd : Tm} {B : Option Addr} {bc : Nat} {F : Rs Cl} {e : Ending} (h : CqTo w g A c T a hd B bc F e w') : ∃ cs, ClSh cs ∧ e = .returned (.agg cs.toArray) := by
 match F, h with
 | .ok (x, m), ⟨_, xs, A4, c4, ys, A5, c5, _, he, _⟩ => exact ⟨_, ⟨_, _, _, _, _, _, _, _, _, _, _, _, rfl⟩, he⟩
 | .error (q, y), ⟨_, _, he, _⟩ => exact he
theorem CqTo.gs {w w' : World} {g A c : Nat} {T : List Tok} {a : Int} {hd : Tm} {B : Option Addr} {bc : Nat} {F : Rs Cl} {e : Ending} (h : CqTo w g A c T a hd B bc F e w') : Gs w' g A c T a 0 (bareS F) := by
 match F, h with
 | .ok (x, m), ⟨_, xs, A4, c4, ys, A5, c5, _, _, _, _, hP⟩ => exact hP
 | .error (q, y), ⟨_, hy, _, i', d', hP⟩ => exact ⟨hy, i', d', hP⟩
theorem take_gs_no {T : List Tok} (hG : ToksG T) {w : World} {g A c b : Nat} {a : Int} {S : Rs Unit} (m : Nat) (hm : m < 15) (s : ByteArray) (hs : s = txt (roleTexts[m]?.getD [])) (h : Gs w g A c T a b S) (hr : ∀ j, S = .ok ((), j) → rl T j ≠ 4 + m) :
  Calls Tryz.prog 20 #[.pointer (some ⟨g, 0, none⟩), .string s] w fun e w' => e = .returned (.bool false) ∧ Ext w w' := by
 match S, h with
 | .ok ((), j), h => exact take_pno hG m hm s hs h (hr j rfl)
 | .error (q, x), ⟨hx, i', d', hE⟩ => exact take_per s hE hx
theorem Gs.chgF {w w' : World} {g A c : Nat} {T : List Tok} {a : Int} {b : Nat} {S : Rs Unit} {F : Nat → Prop} (h : Gs w g A c T a b S) (k : Chg F w w') (hq : ∀ x, x < w.heap.size → F x → x ≠ g ∧ x ≠ A) : Gs w' g A c T a b S := by
 match S, h with
 | .ok (_, j), h => exact PgAt.chg h k hq
 | .error (q', x), ⟨hx, i', d', hE⟩ => exact ⟨hx, i', d', hE.chg k hq⟩
/-- where the reader stands -/
theorem Gs.c2 {w : World} {g A c : Nat} {T : List Tok} {a : Int} {b : Nat} {S : Rs Unit} (h : Gs w g A c T a b S) : ∃ x : Int, w.cell? ⟨g, 2, none⟩ = some (.int .i64 x) ∧ g < w.heap.size := by
 match S, h with
 | .ok (_, j), h => exact ⟨_, PgAt.c2 h, PgAt.lt h⟩
 | .error (q', x), ⟨hx, i', d', hE⟩ => exact ⟨_, hE.c2, hE.lt⟩
def tkB (T : List Tok) (r : Nat) (S : Rs Unit) : Bool := match S with
 | .error _ => false
 | .ok (_, j) => decide (rl T j = r)
def tkS (T : List Tok) (r : Nat) (S : Rs Unit) : Rs Unit := match S with
 | .error e => .error e
 | .ok (_, j) => if rl T j = r then .ok ((), j + 1) else .ok ((), j)
theorem take_gs_b {T : List Tok} (hG : ToksG T) {w : World} {g A c b : Nat} {a : Int} {S : Rs Unit} (m : Nat) (hm : m < 15) (s : ByteArray) (hs : s = txt (roleTexts[m]?.getD [])) (h : Gs w g A c T a b S) :
  Calls Tryz.prog 20 #[.pointer (some ⟨g, 0, none⟩), .string s] w fun e w' => e = .returned (.bool (tkB T (4 + m) S)) ∧ Gs w' g A c T a b (tkS T (4 + m) S) ∧ Chg (· = g) w w' := by
 match S, h with
 | .ok ((), j), h =>
  by_cases h4 : rl T j = 4 + m
  ·
   refine (take_pyes hG m hm s hs h h4).mono fun e w' ⟨he, h', hC⟩ => ⟨?_, ?_, hC⟩
   ·
    rw [he]; simp only [tkB]; rw [decide_eq_true h4]
   ·
    rw [show tkS T (4 + m) (.ok ((), j)) = .ok ((), j + 1) by simp only [tkS]; rw [if_pos h4]]
    exact h'
  ·
   refine (take_pno hG m hm s hs h h4).mono fun e w' ⟨he, hx⟩ => ⟨?_, ?_, Chg.of_ext hx⟩
   ·
    rw [he]; simp only [tkB]; rw [decide_eq_false h4]
   ·
    rw [show tkS T (4 + m) (.ok ((), j)) = .ok ((), j) by simp only [tkS]; rw [if_neg h4]]
    exact PgAt.ext h hx
 | .error (q, x), ⟨hx, i', d', hE⟩ => exact (take_per s hE hx).mono fun e w' ⟨he, hx'⟩ => ⟨he, ⟨hx, _, _, hE.ext hx'⟩, Chg.of_ext hx'⟩
section
variable {T : List Tok} {n j i : Nat}
theorem itR_err {F : Rs Rl} {e : Int × Int} (h : thenS (bareS F) (mkF T (4 + 3)) = .error e) : itR T n j i F = .error e := by
 match F, h with
 | .error e', h => simpa [thenS, bareS, itR] using h
 | .ok (x, k), h =>
  simp only [thenS, bareS, mkF] at h
  by_cases h7 : rl T k = 4 + 3
  ·
   rw [if_pos h7] at h; cases h
  ·
   rw [if_neg h7] at h
   simp only [itR]
   rw [if_neg (show ¬ rl T k = 7 from h7)]
   injection h with h
   rw [h]
theorem itR_ok {F : Rs Rl} {k' : Nat} (h : thenS (bareS F) (mkF T (4 + 3)) = .ok ((), k')) : ∃ x k, F = .ok (x, k) ∧ rl T k = 7 ∧ k' = k + 1 := by
 match F, h with
 | .error e', h => cases h
 | .ok (x, k), h =>
  simp only [thenS, bareS, mkF] at h
  by_cases h7 : rl T k = 4 + 3
  ·
   rw [if_pos h7] at h
   injection h with h
   injection h with _ h
   exact ⟨x, k, rfl, h7, h.symm⟩
  ·
   rw [if_neg h7] at h; cases h
theorem itC_err {F : Rs Cl} {e : Int × Int} (h : thenS (bareS F) (mkF T (4 + 3)) = .error e) : itC T n j F = .error e := by
 match F, h with
 | .error e', h => simpa [thenS, bareS, itC] using h
 | .ok (x, k), h =>
  simp only [thenS, bareS, mkF] at h
  by_cases h7 : rl T k = 4 + 3
  ·
   rw [if_pos h7] at h; cases h
  ·
   rw [if_neg h7] at h
   simp only [itC]
   rw [if_neg (show ¬ rl T k = 7 from h7)]
   injection h with h
   rw [h]
theorem itC_ok {F : Rs Cl} {k' : Nat} (h : thenS (bareS F) (mkF T (4 + 3)) = .ok ((), k')) : ∃ x k, F = .ok (x, k) ∧ rl T k = 7 ∧ k' = k + 1 := by
 match F, h with
 | .error e', h => cases h
 | .ok (x, k), h =>
  simp only [thenS, bareS, mkF] at h
  by_cases h7 : rl T k = 4 + 3
  ·
   rw [if_pos h7] at h
   injection h with h
   injection h with _ h
   exact ⟨x, k, rfl, h7, h.symm⟩
  ·
   rw [if_neg h7] at h; cases h
end
/-- is the rule told, and its pattern too much? -/
def muB (T : List Tok) (F : Rs Rl) : Bool := match F with
 | .error _ => false
 | .ok (x, k) => decide (rl T k = 7) && muchB x.body
def okB (S : Rs Unit) (b : Bool) : Bool := match S with
 | .error _ => false
 | .ok _ => b
/-- the place as it is -/
def nextS (S : Rs Unit) : Rs Unit := S
section
variable {T : List Tok} {n j i : Nat} {F : Rs Rl}
theorem muB_err {e : Int × Int} (h : thenS (bareS F) (mkF T (4 + 3)) = .error e) : muB T F = false := by
 match F, h with
 | .error _, _ => rfl
 | .ok (x, k), h =>
  simp only [thenS, bareS, mkF] at h
  by_cases h7 : rl T k = 4 + 3
  ·
   rw [if_pos h7] at h; cases h
  ·
   simp only [muB]
   rw [decide_eq_false (show ¬ rl T k = 7 from h7)]
   rfl
theorem muB_yes (h : muB T F = true) : ∃ k', thenS (bareS F) (mkF T (4 + 3)) = .ok ((), k') := by
 match F, h with
 | .ok (x, k), h =>
  simp only [muB, Bool.and_eq_true, decide_eq_true_eq] at h
  exact ⟨k + 1, by simp only [thenS, bareS, mkF]; rw [if_pos (show rl T k = 4 + 3 from h.1)]⟩
theorem okB_yes {S : Rs Unit} {b : Bool} (h : okB S b = true) : ∃ k', S = .ok ((), k') ∧ b = true := by
 match S, h with
 | .ok ((), k'), h => exact ⟨k', rfl, h⟩
/-- an item's end, over all -/
theorem itR_parts {S2 : Rs Unit} (h2 : S2 = thenS (bareS F) (mkF T (4 + 3))) : bareS (itR T n j i F) = match (if muB T F then .error (lim T i) else S2 : Rs Unit) with
  | .error e => .error e
  | .ok ((), k') => if n = 20 then .error (lim T j) else .ok ((), k') := by
 subst h2
 match F with
 | .error e => rfl
 | .ok (x, k) =>
  by_cases h7 : rl T k = 7
  ·
   cases hm : muchB x.body with
   | true => simp [itR, bareS, muB, h7, hm]
   | false =>
    simp only [itR, bareS, muB, thenS, mkF, hm, if_pos h7, Bool.and_false, Bool.false_eq_true, if_false]
    by_cases h20 : n = 20
    ·
     simp only [if_pos h20]
    ·
     simp only [if_neg h20]
  ·
   simp only [itR, bareS, muB, thenS, mkF, if_neg h7, decide_eq_false h7, Bool.false_and, Bool.false_eq_true, if_false]
theorem itR_20 {S2 : Rs Unit} {k' : Nat} (h3 : (if muB T F then .error (lim T i) else S2 : Rs Unit) = .ok ((), k')) (h2 : S2 = thenS (bareS F) (mkF T (4 + 3))) (hn : n = 20) : bareS (itR T n j i F) = .error (lim T j) := by
 rw [itR_parts h2, h3]
 simp only [if_pos hn]
theorem itR_n20 {S2 S3 : Rs Unit} (h3 : S3 = if muB T F then .error (lim T i) else S2) (h2 : S2 = thenS (bareS F) (mkF T (4 + 3))) (hn : ∀ k', S3 = .ok ((), k') → n ≠ 20) : bareS (itR T n j i F) = nextS S3 := by
 rw [itR_parts h2, ← h3]
 match S3, hn with
 | .error e, _ => rfl
 | .ok ((), k'), hn => simp only [if_neg (hn k' rfl)]; rfl
theorem itR_got {x : Rl} {k' : Nat} (h : itR T n j i F = .ok (x, k')) : (∃ k, F = .ok (x, k)) ∧ n ≠ 20 := by
 unfold itR at h
 match F, h with
 | .ok (x', k), h =>
  simp only at h
  split at h
  ·
   split at h
   ·
    cases h
   ·
    split at h
    ·
     cases h
    ·
     rename_i h20
     injection h with h
     injection h with h _
     exact ⟨⟨k, by rw [h]⟩, h20⟩
  ·
   cases h
theorem rx_same {h4 cs9 h4' cs9' : List Value} {v v' : Value} {n p n' p' a a' : Int} (h : (Ending.returned (.tuple #[.agg (rx h4 cs9 v n p).toArray, .int .i64 a])) = Ending.returned (.tuple #[.agg (rx h4' cs9' v' n' p').toArray, .int .i64 a'])) : rx h4 cs9 v n p = rx h4' cs9' v' n' p' := by
 simp only [Ending.returned.injEq, Value.tuple.injEq] at h
 have e5 := congrArg (fun a : Array Value => a.toList[0]?) h
 simp only [List.getElem?_cons_zero, Option.some.injEq, Value.agg.injEq] at e5
 have := congrArg Array.toList e5
 simpa using this
end
end Go.Proofs.YtbjghkmjnhmlfaaGreatDoor

/- The page's reader: ReadProgram tells what read.Program tells. -/
namespace Go.Proofs.YtbjghkmjnhmlfaaGreatDoor
open Go.RowKit

theorem infoC' : (Tryz.prog.info? 73).map (fun i => (i.zero, i.size, i.bytes)) = some (some (.agg #[.int .i64 0, .string ⟨#[]⟩, .int .i64 0, .slice none 0 0, .slice none 0 0, .slice none 0 0]), 6, 104) := by kernel_rfl
theorem infoR' : (Tryz.prog.info? 66).map (fun i => (i.zero, i.size, i.bytes)) = some (some (.agg #[.int .i64 0, .string ⟨#[]⟩, .int .i64 0, .slice none 0 0, .int .i64 0, .int .i64 0, .string ⟨#[]⟩, .int .i64 0, .slice none 0 0, .int .i64 0, .slice none 0 0, .slice none 0 0, .slice none 0 0, .slice none 0 0, .int .i64 0, .int .i64 0]), 16, 240) := by kernel_rfl
set_option maxRecDepth 100000 in
set_option maxHeartbeats 4000000 in
theorem readProgram_no (s : ByteArray) (w : World) (hS : s.size ≤ 140737488351232) (hE : lexE s ≠ 0) : Calls Tryz.prog 9 #[.string s] w (ProgRet w (readG s)) := by
 obtain ⟨w0, hw0⟩ : ∃ w0, w0 = w.alloc (.cells #[.slice none 0 0, .slice none 0 0] 31) := ⟨_, rfl⟩
 have hr0 : BoxN w0 w.heap.size z2 := by rw [hw0]; exact BoxN.new w _ _ (by simp)
 have hx0 : Ext w w0 := by rw [hw0]; exact (Ext.refl _).alloc _
 have HW0 := Lib.hid hw0
 have KT := Lib.hid (reading_no s w0 hS hE)
 have qE : (lexE s != 0) = true := by simp [hE]
 have HFF : Hid (readG s = .error (lexA s, lexE s)) := Lib.hid (by unfold readG; rw [if_neg hE])
 clear hw0 hE
 go_enter Tryz.func9, Tryz.ntmps9
 go_upto_region 1 with (fail)
 rw [← HW0.out]
 go_wp2_with fail
 refine KT.out.mono ?_
 rintro e w1 ⟨rfl, hx1⟩
 have hq := hr0.ext hx1
 have y0 := hq.cell 0 rfl
 have y1 := hq.cell 1 rfl
 have f0 := hq.fz 0 (by decide)
 have f1 := hq.fz 1 (by decide)
 have hxw := hx0.trans hx1
 clear KT hr0 hx0 hx1 hq
 go_wp2_with fail
 refine bodyPost_ret (v := .tuple #[.agg #[.slice none 0 0, .slice none 0 0], .int .i64 (lexA s), .int .i64 (lexE s)]) (by simp [results, Tryz.results9, go_sem, *]) rfl ?_
 rw [HFF.out]
 exact prog_err hxw (vs := [.slice none 0 0, .slice none 0 0]) rfl rfl
def prR (F : Rs Pr) : Except (Int × Int) Pr := match F with
 | .error e => .error e
 | .ok (p, _) => .ok p
theorem wholeG_is (T : List Tok) : wholeG T = prR (itemsP T T.length ⟨[], []⟩ 0) := rfl
theorem ruleQ_pat {T : List Tok} {hd : Tm} {i : Nat} {x : Rl} {k : Nat} (h : ruleQ T hd i = .ok (x, k)) : ∃ j0, patP T 100 i = .ok (x.body, j0) := by
 unfold ruleQ at h
 match hp : patP T 100 i with
 | .error e => rw [hp] at h; cases h
 | .ok (p, j0) =>
  rw [hp] at h
  simp only at h
  split at h
  ·
   cases h
  ·
   split at h
   ·
    unfold ruleR at h
    split at h
    ·
     cases h
    ·
     injection h with h
     injection h with h _
     exact ⟨j0, by rw [← h]⟩
   ·
    cases h
/-- the loop's state -/
def LpIn (g A c : Nat) (T : List Tok) (B p r0 : Nat) (F : Rs Pr) (w3 wr : World) : Prop := BoxN wr r0 z2 ∧ Chg (fun x => x = g ∨ x = p) w3 wr ∧
 ((∃ (n j : Nat) (v0 v1 : Value) (cs : List ClL) (rs : List RlL), T.length ≤ n + j ∧ PgAt wr g A c T j 0 0 ((0 : Nat) : Int) ∧ TwoP B wr p v0 cs v1 rs ∧ itemsP T n ⟨cs.map ClL.cl, rs.map RlL.rl⟩ j = F) ∨
  ∃ (i' : Nat) (x q d' : Int), x ≠ 0 ∧ PgAt wr g A c T i' x q d' ∧ F = .error (q, x))
set_option maxRecDepth 100000 in
set_option maxHeartbeats 32000000 in
theorem readProgram_yes (s : ByteArray) (w : World) (hS : s.size ≤ 140737488351232) (hE : lexE s = 0) : Calls Tryz.prog 9 #[.string s] w (ProgRet w (readG s)) := by
 obtain ⟨w0, hw0⟩ : ∃ w0, w0 = w.alloc (.cells #[.slice none 0 0, .slice none 0 0] 31) := ⟨_, rfl⟩
 obtain ⟨r0, hr0'⟩ : ∃ r0, r0 = w.heap.size := ⟨_, rfl⟩
 have hr0 : BoxN w0 r0 z2 := by rw [hw0, hr0']; exact BoxN.new w _ _ (by simp)
 have hx0 : Ext w w0 := by rw [hw0]; exact (Ext.refl _).alloc _
 have HW0 := Lib.hid hw0
 have KT := Lib.hid (reading_yes s w0 hS hE)
 have qE : (lexE s != 0) = false := by simp [hE]
 obtain ⟨F, hF⟩ : ∃ F, F = itemsP (lexT s) (lexT s).length ⟨[], []⟩ 0 := ⟨_, rfl⟩
 have HFF : Hid (readG s = prR F) := Lib.hid (by unfold readG; rw [if_pos hE, hF, wholeG_is])
 obtain ⟨hG, hL⟩ := lexT_good hE
 clear hw0 hE
 go_enter Tryz.func9, Tryz.ntmps9
 go_upto_region 1 with (fail)
 rw [← HW0.out]
 go_wp2_with fail
 refine KT.out.mono ?_
 rintro e w1 ⟨g, A, c, rfl, hP1, hgw, hx1⟩
 generalize lexT s = T at *
 have hr1 := hr0.ext hx1
 have hxw := hx0.trans hx1
 have hgl1 := hP1.lt
 have hAl1 := hP1.low
 have hr0l := hr0.lt
 have HP1 := Lib.hid hP1
 have HG := Lib.hid hG
 have hT := hG.ends
 have HT := Lib.hid hT
 have HR1 := Lib.hid hr1
 have hs0 := hx0.size
 clear KT hr0 hx0 hx1 hP1 hr1 hG hT
 go_upto_region 5 with (fail)
 obtain ⟨w3, hw3⟩ : ∃ w3, w3 = w1.alloc (.cells #[.slice none 0 0, .slice none 0 0] 31) := ⟨_, rfl⟩
 obtain ⟨p, hp⟩ : ∃ p, p = w1.heap.size := ⟨_, rfl⟩
 have hbp : BoxN w3 p z2 := by rw [hw3, hp]; exact BoxN.new w1 _ _ (by simp)
 have hx3 : Ext w1 w3 := by rw [hw3]; exact (Ext.refl _).alloc _
 obtain ⟨B, hB⟩ : ∃ B, w3.heap.size = B := ⟨_, rfl⟩
 have hpB : p < B := by rw [← hB]; exact hbp.lt
 have hT3 : TwoP B w3 p (.slice none 0 0) [] (.slice none 0 0) [] :=
  ⟨⟨GInv.start SC _ (by omega), hbp.cell 0 rfl, hbp.fz 0 (by decide), hpB⟩, ⟨GInv.start SR _ (by omega), hbp.cell 1 rfl, hbp.fz 1 (by decide), hpB⟩, hbp, by simp, by simp⟩
 rw [← hw3, ← hp, ← hr0']
 have hpg : p ≠ g := by omega
 have hpA : p ≠ A := by omega
 have hrg : r0 ≠ g := by omega
 have hrp : r0 ≠ p := by omega
 have hgB : g < B := by omega
 have hAB : A < B := by omega
 have hrB : r0 < B := by omega
 have hwr : w.heap.size ≤ r0 := by omega
 have HX3 := Lib.hid (hxw.trans hx3)
 have HR0 := Lib.hid hr0'
 have HI : Hid (LpIn g A c T B p r0 F w3 w3) := Lib.hid ⟨HR1.out.ext hx3, Chg.refl _ _, .inl ⟨T.length, 0, _, _, [], [], by omega, HP1.out.ext hx3, hT3, hF.symm⟩⟩
 obtain ⟨i0, hi0, hz0, hz1, hz2⟩ := info_parts infoC'
 obtain ⟨j0, hj0, hy0, hy1, hy2⟩ := info_parts infoR'
 have q3 := fld3
 have q0 := fld0
 clear hw3 hbp hx3 hT3 HP1 HR1 hF hxw
 have hgw' : w.heap.size ≤ g := by omega
 have hpw' : w.heap.size ≤ p := by omega
 clear hp hr0'
 go_loopw [] (fun wr => LpIn g A c T B p r0 F w3 wr) (fun wr => pgM T.length wr g)
 case atStart => exact HI.out
 case round =>
  clear HI
  obtain ⟨hbr, hCr, hst⟩ := hrel
  have HBR := Lib.hid hbr
  have HCR := Lib.hid hCr
  clear hbr hCr
  rcases hst with ⟨n, j, v0, v1, cs, rs, hn, hP, hTw, hFj⟩ | ⟨i', x, q, d', hx, hP, hFe⟩
  case inr =>
   have hxe0 : (x == 0) = false := by simpa using hx
   have hxne : (x != 0) = true := by simpa using hx
   have c2' := hP.c2
   have c3' := hP.c3
   have hgr := hP.lt
   have HFE : Hid (readG s = .error (q, x)) := Lib.hid (by rw [HFF.out, hFe]; rfl)
   have hext : Ext w wr := Chg.ext_of HX3.out HCR.out (fun b hb => by rcases hb with rfl | rfl <;> omega)
   have y0 := HBR.out.cell 0 rfl
   have y1 := HBR.out.cell 1 rfl
   have f0 := HBR.out.fz 0 (by decide)
   have f1 := HBR.out.fz 1 (by decide)
   have HXT := Lib.hid hext
   clear hx hP hFe hext
   go_upto_region 24 with (fail)
   first | go_region_with (fail) | fail
   all_goals
    go_wp2_with fail
    try go_simp
    refine bodyPost_ret (v := .tuple #[.agg #[.slice none 0 0, .slice none 0 0], .int .i64 q, .int .i64 x]) (by simp [results, Tryz.results9, go_sem, *]) rfl ?_
    rw [HFE.out, HR0.out]
    exact ProgRet.ext (prog_err HXT.out (vs := [.slice none 0 0, .slice none 0 0]) rfl rfl) (Ext.refl _).drew
  case inl =>
   have hjl := hP.il
   have hjn := hP.len
   obtain ⟨n, rfl⟩ : ∃ m, n = m + 1 := ⟨n - 1, by omega⟩
   rw [itemsP] at hFj
   have hend := end_of' HG.out hjl
   have c2' := hP.c2
   have hgr := hP.lt
   have KN := Lib.hid (now_pg hP)
   have HP := Lib.hid hP
   have HTw := Lib.hid hTw
   by_cases h0 : rl T j = 0
   ·
    have hk5 : ((tk T j).kind != 5) = false := by rw [hend.1 h0]; rfl
    rw [if_pos h0] at hFj
    obtain ⟨A0, c0, e0, _⟩ := src_own hTw.s0.inv.own
    obtain ⟨A1, c1, e1, _⟩ := src_own hTw.s1.inv.own
    subst e0 e1
    have HFE : Hid (readG s = .ok ⟨cs.map ClL.cl, rs.map RlL.rl⟩) := Lib.hid (by rw [HFF.out, ← hFj]; rfl)
    clear hP hTw hFj hend h0
    go_wp2_with fail
    refine KN.out.mono ?_
    rintro e w4 ⟨rfl, hx4⟩
    have c2' := (HP.out.ext hx4).c2
    have hgr := (HP.out.ext hx4).lt
    have hT4 := HTw.out.ext hx4
    have x0 := hT4.box.cell 0 rfl
    have x1 := hT4.box.cell 1 rfl
    have hb4 := HBR.out.ext hx4
    have y0 := hb4.cell 0 rfl
    have y1 := hb4.cell 1 rfl
    have f0 := hb4.fz 0 (by decide)
    have f1 := hb4.fz 1 (by decide)
    have hext : Ext w w4 := (Chg.ext_of HX3.out HCR.out (fun b hb => by rcases hb with rfl | rfl <;> omega)).trans hx4
    have hr0 := hT4.s0.inv.row
    have hr1 := hT4.s1.inv.row
    have H4 := Lib.hid (And.intro hext (And.intro hr0 hr1))
    clear KN hx4 hT4 hb4 hext hr0 hr1
    go_wp2_with fail
    refine bodyPost_ret (v := .tuple #[.agg #[.slice A0 cs.length c0, .slice A1 rs.length c1], .int .i64 0, .int .i64 0]) (by simp [results, Tryz.results9, go_sem, *]) rfl ?_
    rw [HFE.out, HR0.out]
    refine prog_ok (w3 := w3) H4.out.1 (by omega) rfl rfl (H4.out.2.1.keep fun b hb _ => ⟨rfl, by have := hb.1.1; omega, hb.1.2⟩) (H4.out.2.2.keep fun b hb _ => ⟨rfl, by have := hb.1.1; omega, hb.1.2⟩) (vs := [.slice A0 cs.length c0, .slice A1 rs.length c1]) rfl rfl
   ·
    have hk5 : ((tk T j).kind != 5) = true := by have := mt hend.2 h0; simp [this]
    rw [if_neg h0] at hFj
    have HM := Lib.hid (hP.m0 T.length)
    have hBr : B ≤ wr.heap.size := hTw.s0.inv.size
    have L4 := Lib.hid hTw.s0.inv.lt
    have L5 := Lib.hid hTw.s1.inv.lt
    obtain ⟨A0, c0, e0, _⟩ := src_own hTw.s0.inv.own
    obtain ⟨A1, c1, e1, _⟩ := src_own hTw.s1.inv.own
    subst e0 e1
    have HFJ := Lib.hid hFj
    clear hP hTw hFj hend h0
    go_wp2_with fail
    refine KN.out.mono ?_
    rintro e w4 ⟨rfl, hx4⟩
    have KN2 := Lib.hid (now_pg (HP.out.ext hx4))
    have HX4 := Lib.hid hx4
    clear KN hx4 c2'
    go_wp2_with fail
    refine KN2.out.mono ?_
    rintro e w5 ⟨rfl, hx5⟩
    have hx45 := HX4.out.trans hx5
    have KP := Lib.hid (pterm_any HG.out (k := 100) (by omega) (b := 0) (by omega) (HP.out.ext hx45))
    have HX5 := Lib.hid hx45
    have hs5 := hx45.size
    clear KN2 hx5 HX4 hx45
    go_wp2_with fail
    refine KP.out.mono ?_
    intro e w6 hout
    have HO := Lib.hid hout
    obtain ⟨k', s', n', A', l', c', rfl⟩ := hout.val
    have hs6 := hout.1.size
    have HC6 := Lib.hid hout.1
    have HGS6 := Lib.hid hout.gs
    clear KP hout
    go_upto_region 8 with (fail)
    obtain ⟨w7, hw7⟩ : ∃ w7, w7 = w6.alloc (.cells #[.int .i64 k', .string s', .int .i64 n', .slice A' l' c'] 58) := ⟨_, rfl⟩
    obtain ⟨tb, htb⟩ : ∃ tb, tb = w6.heap.size := ⟨_, rfl⟩
    have hb7 : Box4 w7 tb (.int .i64 k') (.string s') (.int .i64 n') (.slice A' l' c') := by rw [hw7, htb]; exact Box4.new w6 _ _ _ _ _
    have hx7 : Ext w6 w7 := by rw [hw7]; exact (Ext.refl _).alloc _
    have hs7 := hx7.size
    rw [← hw7, ← htb]
    have HX7 := Lib.hid hx7
    have htg : tb ≠ g := by omega
    have HGS7 := Lib.hid (HGS6.out.chgF (Chg.of_ext (F := fun _ => False) hx7) (fun _ _ f => f.elim))
    obtain ⟨n0, n1, n2, n3, _, _, _, _⟩ := hb7
    -- what has turned since the round began
    have HC7 : Hid (Chg (· = g) wr w7) := Lib.hid (((Chg.of_ext HX5.out).trans HC6.out).trans (Chg.of_ext hx7))
    have HTB : Hid (w6.heap.size ≤ tb) := Lib.hid (by omega)
    clear hw7 htb hx7 HGS6
    obtain ⟨F1, hF1⟩ : ∃ F1, F1 = termP T 100 j := ⟨_, rfl⟩
    have hO := HO.out
    rw [← hF1] at hO HGS7
    clear HO
    by_cases hR : ∃ t m, F1 = .ok (t, m) ∧ rl T m = 14
    case pos =>
     obtain ⟨t, m, hF1m, h14⟩ := hR
     subst hF1m
     obtain ⟨_, Ax, cx, he, hTm, _⟩ := hO
     obtain ⟨f1, f2, f3, f4⟩ : k' = t.kind ∧ s' = t.name ∧ n' = t.n ∧ (A' = Ax ∧ l' = t.args.length ∧ c' = cx) := by
      have he' := he
      simp only [Ending.returned.injEq, Tm.val, Value.agg.injEq, Array.mk.injEq, List.cons.injEq, Value.int.injEq, Value.string.injEq, Value.slice.injEq, true_and, and_true] at he'
      exact he'
     obtain ⟨f4, f5, f6⟩ := f4
     subst f1 f2 f3 f4 f5 f6
     have HTM := Lib.hid hTm
     have hP7 : PgAt w7 g A c T m 0 0 ((0 : Nat) : Int) := HGS7.out
     have hjm : j < m ∧ m < T.length := termP_takes HT.out 100 j t m hF1.symm
     have KT := Lib.hid (take_pyes HG.out 10 (by omega) _ arr_txt hP7 h14)
     have HIT := Lib.hid (itemP_rule (p := ⟨cs.map ClL.cl, rs.map RlL.rl⟩) hF1.symm h14)
     clear he hTm hP7 h14 hF1 HGS7
     go_wp2_with fail
     refine KT.out.mono ?_
     rintro e w8 ⟨rfl, hP8, hC8⟩
     replace n0 := hC8.cell n0 htg
     replace n1 := hC8.cell n1 htg
     replace n2 := hC8.cell n2 htg
     replace n3 := hC8.cell n3 htg
     have hs8 := hC8.size
     have KRL := Lib.hid (rule_pg HG.out hP8 t A' c')
     have HC8 := Lib.hid (HC7.out.trans hC8)
     obtain ⟨FR, hFR⟩ : ∃ FR, FR = ruleQ T t (m + 1) := ⟨_, rfl⟩
     have hpatQ : ∀ x k, FR = .ok (x, k) → ∃ j0, patP T 100 (m + 1) = .ok (x.body, j0) := fun x k e => by
      rw [hFR] at e
      exact ruleQ_pat e
     rw [← hFR] at KRL HIT
     have HC78 := Lib.hid hC8
     clear KT hP8 hC8 hFR
     go_wp2_with fail
     refine KRL.out.mono ?_
     intro e w9 hout
     have HO9 := Lib.hid hout
     obtain ⟨cs9, ⟨k0, k1, s2, k3, A4, l4, d4, k5, A6, l6, d6, A7, l7, d7, A8, l8, d8, hcs9⟩, A5, l5, c5, n14, n15, rfl⟩ := hout.val
     have hC9 := hout.1
     have hs9 := hC9.size
     have HGS9 := Lib.hid hout.gs
     have HC9 := Lib.hid (HC8.out.trans hC9)
     have HC89 := Lib.hid hC9
     have HCS9 := Lib.hid hcs9
     rw [hcs9, show (rx (hdL t A' c') [.int .i64 k0, .int .i64 k1, .string s2, .int .i64 k3, .slice A4 l4 d4, .int .i64 k5, .slice A6 l6 d6, .slice A7 l7 d7, .slice A8 l8 d8] (.slice A5 l5 c5) n14 n15).toArray = #[.int .i64 t.kind, .string t.name, .int .i64 t.n, .slice A' t.args.length c', .int .i64 k0, .int .i64 k1, .string s2, .int .i64 k3, .slice A4 l4 d4, .int .i64 k5, .slice A6 l6 d6, .slice A7 l7 d7, .slice A8 l8 d8, .slice A5 l5 c5, .int .i64 n14, .int .i64 n15] from rfl]
     clear KRL hout hC9 hcs9 n0 n1 n2 n3
     go_upto_region 10 with (fail)
     obtain ⟨w10, hw10⟩ : ∃ w10, w10 = w9.alloc (.cells #[.int .i64 t.kind, .string t.name, .int .i64 t.n, .slice A' t.args.length c', .int .i64 k0, .int .i64 k1, .string s2, .int .i64 k3, .slice A4 l4 d4, .int .i64 k5, .slice A6 l6 d6, .slice A7 l7 d7, .slice A8 l8 d8, .slice A5 l5 c5, .int .i64 n14, .int .i64 n15] 66) := ⟨_, rfl⟩
     obtain ⟨xb, hxb⟩ : ∃ xb, xb = w9.heap.size := ⟨_, rfl⟩
     have hb10 : BoxN w10 xb [.int .i64 t.kind, .string t.name, .int .i64 t.n, .slice A' t.args.length c', .int .i64 k0, .int .i64 k1, .string s2, .int .i64 k3, .slice A4 l4 d4, .int .i64 k5, .slice A6 l6 d6, .slice A7 l7 d7, .slice A8 l8 d8, .slice A5 l5 c5, .int .i64 n14, .int .i64 n15] := by rw [hw10, hxb]; exact BoxN.new w9 _ _ (by simp)
     have hx10 : Ext w9 w10 := by rw [hw10]; exact (Ext.refl _).alloc _
     have hs10 := hx10.size
     rw [← hw10, ← hxb]
     have KM := Lib.hid (mustm_gs HG.out 3 (by omega) _ dot_txt' (HGS9.out.chgF (Chg.of_ext (F := fun _ => False) hx10) (fun _ _ f => f.elim)))
     have hxg : xb ≠ g := by omega
     have HB10 := Lib.hid hb10
     have HX10 := Lib.hid hx10
     have HXB : Hid (w9.heap.size ≤ xb) := Lib.hid (by omega)
     clear hw10 hxb hb10 hx10 HGS9
     go_wp2_with fail
     refine KM.out.mono ?_
     rintro e w11 ⟨rfl, hgs11, hC11⟩
     have hb11 := HB10.out.chg hC11 hxg
     have hs11 := hC11.size
     have HC11 := Lib.hid ((HC9.out.trans (Chg.of_ext HX10.out)).trans hC11)
     have HC1011 := Lib.hid hC11
     have HB11 := Lib.hid hb11
     have HGS11 := Lib.hid hgs11
     clear KM hC11 hb11 hgs11 HB10
     go_upto_region 11 with (fail)
     have HC9W : Hid (Chg (· = g) w9 w11) := Lib.hid ((Chg.of_ext HX10.out).trans HC1011.out)
     obtain ⟨S2, hS2⟩ : ∃ S2, S2 = thenS (bareS FR) (mkF T (4 + 3)) := ⟨_, rfl⟩
     rw [← hS2] at HGS11
     have HS2 := Lib.hid hS2
     clear hS2
     go_cut [60] from 51 to 60 (fun x wx => ∃ mb : Bool, x = .bool mb ∧ Ext w11 wx ∧ Hid (mb = muB T FR))
     case first =>
      have hgsx := HGS11.out
      have hS2 := HS2.out
      match S2, hS2, hgsx with
      | .error (qe, xe), hS2, ⟨hxe, i', d', hPe⟩ =>
       have HMB : Hid (false = muB T FR) := Lib.hid (muB_err hS2.symm).symm
       have hxe0 : (xe == 0) = false := by simpa using hxe
       have c2' := hPe.c2
       have hgr := hPe.lt
       clear hS2 hPe hxe hpatQ HGS11 HS2
       go_wp2_with fail
       go_meet
       exact ⟨false, rfl, Ext.refl _, HMB⟩
      | .ok ((), k'), hS2, hP11' =>
       obtain ⟨x, k, hFRx, h7, hk⟩ := itR_ok hS2.symm
       subst hFRx
       subst hk
       have hP11 : PgAt w11 g A c T (k + 1) 0 0 ((0 : Nat) : Int) := hP11'
       obtain ⟨_, plx, ys, A5', c5', hxh, hxg', hev, hpt, hrow, _⟩ := HO9.out
       have hval : x.body.val plx = .agg #[.int .i64 k0, .int .i64 k1, .string s2, .int .i64 k3, .slice A4 l4 d4, .int .i64 k5, .slice A6 l6 d6, .slice A7 l7 d7, .slice A8 l8 d8] := by
        have e4 := rx_same hev
        have e1 : cs9 = x.body.cells plx := by
         simp only [rx] at e4
         exact (List.append_inj (List.append_inj e4 (by simp [HCS9.out, hdL, Pt.cells])).1 rfl).2
        show Value.agg (x.body.cells plx).toArray = _
        rw [← e1, HCS9.out]
       have hpt11 : PtIn w11 (fun b => w8.heap.size ≤ b ∧ b < w9.heap.size) x.body plx := hpt.keep fun b hb _ => ⟨HC9W.out.block b hb.2 (by have := hb.1; omega), hb.1, hb.2⟩
       obtain ⟨jp, hjp⟩ := hpatQ x k rfl
       have hplim := patP_fits HT.out hjn hjp
       have KMU := Lib.hid (much_pg hpt11 hplim.1 hplim.2)
       rw [hval] at KMU
       have HMB : Hid (muchB x.body = muB T (.ok (x, k))) := Lib.hid (by simp [muB, h7])
       have c2' := hP11.c2
       have hgr := hP11.lt
       have x4 := HB11.out.cell 4 rfl
       have x5 := HB11.out.cell 5 rfl
       have x6 := HB11.out.cell 6 rfl
       have x7 := HB11.out.cell 7 rfl
       have x8 := HB11.out.cell 8 rfl
       have x9 := HB11.out.cell 9 rfl
       have x10 := HB11.out.cell 10 rfl
       have x11 := HB11.out.cell 11 rfl
       have x12 := HB11.out.cell 12 rfl
       clear hS2 hP11 hP11' hxh hxg' hev hpt hrow hval hpt11 hplim hjp hpatQ h7 HGS11 HS2
       go_wp2_with fail
       refine KMU.out.mono ?_
       rintro e w12 ⟨rfl, hx12⟩
       have HX12 := Lib.hid hx12
       clear KMU hx12 x4 x5 x6 x7 x8 x9 x10 x11 x12 c2'
       go_wp2_with fail
       go_meet
       exact ⟨_, rfl, HX12.out, HMB⟩
     case rest =>
      obtain ⟨mb, rfl, hx12, HMB⟩ := hcut
      have HX12 := Lib.hid hx12
      have hgs12 := HGS11.out.chgF (Chg.of_ext (F := fun _ => False) hx12) (fun _ _ f => f.elim)
      have HGS12 := Lib.hid hgs12
      clear hx12 hgs12 HGS11
      go_upto_if 60 with (fail)
      go_cut [] from 61 to 63 (fun wy => Gs wy g A c T 0 0 (if muB T FR then .error (lim T (m + 1)) else S2) ∧ Chg (· = g) w11 wy)
      case first =>
       cases mb with
       | true =>
        have hmb : muB T FR = true := HMB.out.symm
        obtain ⟨k', hk'⟩ := muB_yes hmb
        have hg := HGS12.out
        rw [HS2.out, hk'] at hg
        have hP12 : PgAt wc g A c T k' 0 0 ((0 : Nat) : Int) := hg
        have KF := Lib.hid (fails_yes 2 (tk T (m + 1)).at_ hP12)
        have HM1 := Lib.hid hmb
        clear hg hP12 hmb hk' HGS12 HMB
        go_wp2_with fail
        refine KF.out.mono ?_
        rintro e w13 ⟨rfl, hP13, hC13⟩
        have HP13 := Lib.hid (And.intro hP13 ((Chg.of_ext HX12.out).trans hC13))
        clear KF hP13 hC13
        go_wp2_with fail
        go_meet
        rw [if_pos HM1.out]
        exact ⟨⟨by decide, _, _, HP13.out.1⟩, HP13.out.2⟩
       | false =>
        have HM1 : Hid (¬ muB T FR = true) := Lib.hid (by rw [← HMB.out]; simp)
        clear HMB
        go_wp2_with fail
        go_meet
        rw [if_neg HM1.out]
        exact ⟨HGS12.out, Chg.of_ext HX12.out⟩
      case rest =>
       obtain ⟨wd, rfl⟩ : ∃ u : World, u = wc := ⟨_, rfl⟩
       obtain ⟨hgs13, hC13⟩ := hcut
       obtain ⟨S3, hS3⟩ : ∃ S3 : Rs Unit, S3 = if muB T FR then .error (lim T (m + 1)) else S2 := ⟨_, rfl⟩
       rw [← hS3] at hgs13
       have HS3 := Lib.hid hS3
       have HGS13 := Lib.hid hgs13
       have HC13 := Lib.hid hC13
       have HV1 := Lib.hid ((HTw.out.keep (HC11.out.trans hC13) (fun b hb => ⟨by omega, by omega⟩)).s1.cell)
       clear hS3 hgs13 hC13 HGS12 HX12 HMB
       go_upto_region 13 with (fail)
       go_cut [74] from 64 to 74 (fun x wy => ∃ lb : Bool, x = .bool lb ∧ Ext wd wy ∧ Hid (lb = okB S3 (rs.length == 20)))
       case first =>
        have hg := HGS13.out
        match S3, hg with
        | .error (qe, xe), ⟨hxe, i', d', hPe⟩ =>
         have hxe0 : (xe == 0) = false := by simpa using hxe
         have c2' := hPe.c2
         have hgr := hPe.lt
         clear hPe hxe HGS13 HS3
         go_wp2_with fail
         go_meet
         exact ⟨false, rfl, Ext.refl _, Lib.hid rfl⟩
        | .ok ((), k'), hPk =>
         have hPk : PgAt wd g A c T k' 0 0 ((0 : Nat) : Int) := hPk
         have c2' := hPk.c2
         have hgr := hPk.lt
         have d1 := HV1.out
         have hcst : ((rs.length : Int) == 20) = (rs.length == 20) := by
          by_cases h : rs.length = 20
          ·
           rw [h]; rfl
          ·
           have h1 : (rs.length == 20) = false := by simpa using h
           rw [h1]; simp; omega
         clear hPk HGS13 HS3
         go_wp2_with fail
         go_meet
         exact ⟨_, rfl, Ext.refl _, Lib.hid (by first | rfl | (simp only [okB]; rw [hcst]) | (simp only [okB]; exact hcst))⟩
       case rest =>
        obtain ⟨we, rfl⟩ : ∃ u : World, u = wc := ⟨_, rfl⟩
        obtain ⟨lb, rfl, hx14, HLB⟩ := hcut
        have HX14 := Lib.hid hx14
        have HGS14 := Lib.hid (HGS13.out.chgF (Chg.of_ext (F := fun _ => False) hx14) (fun _ _ f => f.elim))
        clear hx14 HGS13
        go_upto_if 74 with (fail)
        go_cut [] from 75 to 77 (fun wy => Gs wy g A c T 0 0 (bareS (itR T (rs.map RlL.rl).length j (m + 1) FR)) ∧ Chg (· = g) w11 wy)
        case first =>
         cases lb with
         | true =>
          obtain ⟨k', hk', h20⟩ := okB_yes HLB.out.symm
          have hg := HGS14.out
          rw [hk'] at hg
          have hP14 : PgAt we g A c T k' 0 0 ((0 : Nat) : Int) := hg
          have KF := Lib.hid (fails_yes 2 (tk T j).at_ hP14)
          have HIE : Hid (bareS (itR T (rs.map RlL.rl).length j (m + 1) FR) = .error (lim T j)) := Lib.hid (itR_20 (HS3.out.symm.trans hk') HS2.out (by simpa using h20))
          clear hg hP14 hk' h20 HGS14 HLB
          go_wp2_with fail
          refine KF.out.mono ?_
          rintro e w15 ⟨rfl, hP15, hC15⟩
          have HP15 := Lib.hid (And.intro hP15 ((HC13.out.trans (Chg.of_ext HX14.out)).trans hC15))
          clear KF hP15 hC15
          go_wp2_with fail
          go_meet
          rw [HIE.out]
          exact ⟨⟨by decide, _, _, HP15.out.1⟩, HP15.out.2⟩
         | false =>
          have HIE : Hid (bareS (itR T (rs.map RlL.rl).length j (m + 1) FR) = nextS S3) := Lib.hid (itR_n20 HS3.out HS2.out (fun k' e => by
           have := HLB.out
           rw [e] at this
           simp only [okB] at this
           intro h
           rw [List.length_map] at h
           rw [h] at this
           cases this))
          have HG15 := Lib.hid (And.intro HGS14.out (HC13.out.trans (Chg.of_ext HX14.out)))
          clear HGS14 HLB
          go_wp2_with fail
          go_meet
          rw [HIE.out]
          exact ⟨HG15.out.1, HG15.out.2⟩
        case rest =>
         obtain ⟨wf, rfl⟩ : ∃ u : World, u = wc := ⟨_, rfl⟩
         obtain ⟨hgs16, hC16⟩ := hcut
         have HCW := Lib.hid (HC11.out.trans hC16)
         have HBX := Lib.hid (HB11.out.chg hC16 hxg)
         have HC9W := Lib.hid (HC9W.out.trans hC16)
         have HGS16 := Lib.hid hgs16
         clear hgs16 hC16 HGS14 HX14 HLB HC13 HV1 HS3 HS2
         go_upto_region 15 with (fail)
         have hT12 := HTw.out.keep HCW.out (fun b hb => ⟨by omega, by omega⟩)
         have dd := hT12.s1.cell
         have hown := hT12.s1.inv.own
         have hfz := hT12.s1.fz
         have hpl := World.block_lt_of_cell? _ _ dd
         have x0 := HBX.out.cell 0 rfl
         have x1 := HBX.out.cell 1 rfl
         have x2 := HBX.out.cell 2 rfl
         have x3 := HBX.out.cell 3 rfl
         have x4 := HBX.out.cell 4 rfl
         have x5 := HBX.out.cell 5 rfl
         have x6 := HBX.out.cell 6 rfl
         have x7 := HBX.out.cell 7 rfl
         have x8 := HBX.out.cell 8 rfl
         have x9 := HBX.out.cell 9 rfl
         have x10 := HBX.out.cell 10 rfl
         have x11 := HBX.out.cell 11 rfl
         have x12 := HBX.out.cell 12 rfl
         have x13 := HBX.out.cell 13 rfl
         have x14 := HBX.out.cell 14 rfl
         have x15 := HBX.out.cell 15 rfl
         have HT12 := Lib.hid hT12
         have hsW := HCW.out.size
         have H1 : Hid (∀ u ∈ ([.int .i64 t.kind, .string t.name, .int .i64 t.n, .slice A' t.args.length c', .int .i64 k0, .int .i64 k1, .string s2, .int .i64 k3, .slice A4 l4 d4, .int .i64 k5, .slice A6 l6 d6, .slice A7 l7 d7, .slice A8 l8 d8, .slice A5 l5 c5, .int .i64 n14, .int .i64 n15] : List Value), u.oneCell' = true) := Lib.hid (by
          intro u hu
          simp only [List.mem_cons, List.not_mem_nil, or_false] at hu
          rcases hu with h | h | h | h | h | h | h | h | h | h | h | h | h | h | h | h <;> subst h <;> rfl)
         have hlim : rs.length ≤ 20 := HTw.out.l1
         clear hT12
         go_wp2_with (at_builtin; refine wpList_app _ rfl _ _ 29 rfl B 66 j0 _ 16 240 Tryz.underlying29 hj0 hy0 hy1 hy2 rfl (by decide) (.slice A1 rs.length c1) rs.length (SR.row rs) rfl (hown.alloc _) (some ⟨wf.heap.size, 0, none⟩) 1 1 [.int .i64 t.kind, .string t.name, .int .i64 t.n, .slice A' t.args.length c', .int .i64 k0, .int .i64 k1, .string s2, .int .i64 k3, .slice A4 l4 d4, .int .i64 k5, .slice A6 l6 d6, .slice A7 l7 d7, .slice A8 l8 d8, .slice A5 l5 c5, .int .i64 n14, .int .i64 n15] rfl (Src.box wf #[.int .i64 t.kind, .string t.name, .int .i64 t.n, .slice A' t.args.length c', .int .i64 k0, .int .i64 k1, .string s2, .int .i64 k3, .slice A4 l4 d4, .int .i64 k5, .slice A6 l6 d6, .slice A7 l7 d7, .slice A8 l8 d8, .slice A5 l5 c5, .int .i64 n14, .int .i64 n15] 66 16 rfl) H1.out ?qc3 ?qc4 ?qc5 ?_)
         case qc3 => unfold maxLen; omega
         case qc4 => omega
         case qc5 => first | omega | (simp; omega)
         intro v' w13 ho7 hg7 hat7
         obtain ⟨q7, cap7, rfl, hcap7⟩ := own_form ho7 (Nat.succ_pos _)
         have k7 := (Chg.of_ext (F := fun x => (Value.slice A1 rs.length c1).ownBlock = some x) ((Ext.refl wf).alloc (.cells #[.int .i64 t.kind, .string t.name, .int .i64 t.n, .slice A' t.args.length c', .int .i64 k0, .int .i64 k1, .string s2, .int .i64 k3, .slice A4 l4 d4, .int .i64 k5, .slice A6 l6 d6, .slice A7 l7 d7, .slice A8 l8 d8, .slice A5 l5 c5, .int .i64 n14, .int .i64 n15] 66))).trans (own_chg hg7)
         have hnp : (Value.slice A1 rs.length c1).ownBlock ≠ some p := fun e => by have := (L5.out p e).1; omega
         have dn7 := k7.cell dd hnp
         have fn7 : w13.frozen? ⟨p, 1, none⟩ = false := (World.frozen?_of_block (w := wf) (k7.block p hpl hnp)).trans hfz
         have hat7' : Grown wf (.slice A1 rs.length c1) (.slice (some ⟨q7, 0, none⟩) (rs.length + 1) cap7) := by
          rcases hat7 with e | e
          ·
           exact .inl e
          ·
           refine .inr ⟨q7, rfl, ?_⟩
           have : q7 = wf.heap.size + 1 := by simpa [Value.ownBlock] using e
           omega
         obtain ⟨w14, hw14⟩ : ∃ w14, w14 = w13.setCell ⟨p, 1, none⟩ (.slice (some ⟨q7, 0, none⟩) (rs.length + 1) cap7) := ⟨_, rfl⟩
         have kk : Chg (fun x => x = p ∨ (Value.slice A1 rs.length c1).ownBlock = some x) wf w14 := put_chg k7 hw14
         have hC14 : Chg (fun x => x = g ∨ x = p) w3 w14 := chg_own2 (HCR.out.trans (HCW.out.weak fun _ e => .inl e)) kk (fun b e => (L5.out b e).1) hB
         have hbr14 : BoxN w14 r0 z2 := (HBR.out.chg HCW.out hrg).chg kk (fun e => by rcases e with e | e; exact hrp e; have := (L5.out _ e).1; omega)
         have hPk : ∀ {i' : Nat} {e a d : Int}, PgAt wf g A c T i' e a d → PgAt w14 g A c T i' e a d := fun hp => hp.own kk (fun b e => (L5.out b e).1) ⟨hgB, hpg⟩ ⟨hAB, hpA⟩

         have hnew : LpIn g A c T B p r0 F w3 w14 ∧ pgM T.length w14 g ≤ T.length - j := by
          match hI : itR T (rs.map RlL.rl).length j (m + 1) FR, HGS16.out with
          | .error (qe, xe), ⟨hxe, i', d', hPe⟩ =>
           refine ⟨⟨hbr14, hC14, .inr ⟨i', xe, qe, d', hxe, hPk hPe, ?_⟩⟩, by rw [(hPk hPe).m1 _ hxe]; omega⟩
           rw [← HFJ.out, HIT.out]
           simp only [hI]
          | .ok (x, k'), hPx =>
           have hPx : PgAt wf g A c T k' 0 0 ((0 : Nat) : Int) := hPx
           have hip : itemP T ⟨cs.map ClL.cl, rs.map RlL.rl⟩ j = .ok (⟨cs.map ClL.cl, rs.map RlL.rl ++ [x]⟩, k') := by
            rw [HIT.out]
            simp only [hI]
           have htk := itemP_takes HT.out hip
           obtain ⟨⟨k, hFRx⟩, h20⟩ := itR_got hI
           subst hFRx
           obtain ⟨_, plx, ys, A5', c5', hxh, hxg', hev, hpt, hrow, _⟩ := HO9.out
           obtain ⟨yy, hyy⟩ : ∃ yy : RlL, yy = ⟨t, A', c', x.body, plx, ys, A5', c5', x.within, x.policy⟩ := ⟨_, rfl⟩
           have hyx : yy.rl = x := by rw [hyy]; unfold RlL.rl; simp only; rw [← hxh, ← hxg']
           have hyc : SR.cells yy = [.int .i64 t.kind, .string t.name, .int .i64 t.n, .slice A' t.args.length c', .int .i64 k0, .int .i64 k1, .string s2, .int .i64 k3, .slice A4 l4 d4, .int .i64 k5, .slice A6 l6 d6, .slice A7 l7 d7, .slice A8 l8 d8, .slice A5 l5 c5, .int .i64 n14, .int .i64 n15] := by
            have e4 := rx_same hev
            rw [HCS9.out] at e4
            rw [hyy]
            exact e4.symm
           have hs9W := HC9W.out.size
           have hin : RlIn wf (fun b => wr.heap.size ≤ b ∧ b < wf.heap.size) yy := by
            rw [hyy]
            refine ⟨HTM.out.keep fun b hb _ => ?_, hpt.keep fun b hb _ => ?_, hrow.keep fun b hb _ => ?_⟩
            ·
             have hb1 := hb.1
             have hb2 := hb.2
             exact ⟨by rw [HC9W.out.block b (by omega) (by omega), HC89.out.block b (by omega) (by omega), HC78.out.block b (by omega) (by omega), HX7.out.block b hb2], by omega, by omega⟩
            ·
             have hb1 := hb.1
             have hb2 := hb.2
             exact ⟨HC9W.out.block b (by omega) (by omega), by omega, by omega⟩
            ·
             have hb1 := hb.1
             have hb2 := hb.2
             exact ⟨HC9W.out.block b (by omega) (by omega), by omega, by omega⟩
           rw [← hyc] at ho7
           have hT14 := HT12.out.addR (y := yy) (by simpa using h20) (fun q e => (L4.out q e).2) (fun q e => (L5.out q e).2) hBr hin k7 ho7 hat7' hw14
           refine ⟨⟨hbr14, hC14, .inl ⟨n, k', _, _, cs, rs ++ [yy], by omega, hPk hPx, hT14, ?_⟩⟩, by rw [(hPk hPx).m0]; omega⟩
           rw [← HFJ.out, hip]
           simp only [List.map_append, List.map_cons, List.map_nil, hyx]

         have HNEW := Lib.hid hnew
         have HW14 := Lib.hid hw14
         clear hnew hw14 k7 ho7 hg7 hat7 hat7' hown hfz hpl hnp dd kk hC14 hbr14 hPk x0 x1 x2 x3 x4 x5 x6 x7 x8 x9 x10 x11 x12 x13 x14 x15
         go_wp2_with fail
         rw [← HW14.out]
         clear HW14 dn7 fn7
         go_roundw
         case rel => exact HNEW.out.1
         case measure => rw [HM.out]; have := HNEW.out.2; omega
    case neg =>
     have hN : ∀ t m, F1 = .ok (t, m) → rl T m ≠ 14 := fun t m e h => hR ⟨t, m, e, h⟩
     have HIT := Lib.hid (itemP_cl (p := ⟨cs.map ClL.cl, rs.map RlL.rl⟩) hF1.symm hN)
     have KT := Lib.hid (take_gs_no HG.out 10 (by omega) _ arr_txt HGS7.out (fun m e => by
      match F1, e with
      | .ok (t, m'), e =>
       simp only [bareS, Except.ok.injEq, Prod.mk.injEq, true_and] at e
       subst e
       exact hN t m' rfl))
     have HF1 := Lib.hid hF1
     have HO1 := Lib.hid hO
     clear hR hN hF1 hO
     go_wp2_with fail
     refine KT.out.mono ?_
     rintro e w8 ⟨rfl, hx8⟩
     replace n0 := hx8.cell n0
     replace n1 := hx8.cell n1
     replace n2 := hx8.cell n2
     replace n3 := hx8.cell n3
     have hs8 := hx8.size
     have HX8 := Lib.hid hx8
     clear KT hx8
     go_upto_region 17 with (fail)
     obtain ⟨w9, hw9⟩ : ∃ w9, w9 = w8.alloc (.cells #[.int .i64 k', .string s', .int .i64 n', .slice A' l' c', .slice none 0 0, .slice none 0 0] 73) := ⟨_, rfl⟩
     obtain ⟨cb, hcb⟩ : ∃ cb, cb = w8.heap.size := ⟨_, rfl⟩
     have hb9 : BoxN w9 cb [.int .i64 k', .string s', .int .i64 n', .slice A' l' c', .slice none 0 0, .slice none 0 0] := by rw [hw9, hcb]; exact BoxN.new w8 _ _ (by simp)
     have hx9 : Ext w8 w9 := by rw [hw9]; exact (Ext.refl _).alloc _
     have hs9 := hx9.size
     rw [← hw9, ← hcb]
     replace n0 := hx9.cell n0
     replace n1 := hx9.cell n1
     replace n2 := hx9.cell n2
     replace n3 := hx9.cell n3
     have hcg : cb ≠ g := by omega
     have hcA : cb ≠ A := by omega
     have HX79 := Lib.hid (HX8.out.trans hx9)
     have HCB : Hid (w7.heap.size ≤ cb) := Lib.hid (by omega)
     have HB9 := Lib.hid hb9
     have hgs9 := HGS7.out.chgF (Chg.of_ext (F := fun _ => False) HX79.out) (fun _ _ f => f.elim)
     have KB := Lib.hid (take_gs_b HG.out 9 (by omega) _ neck_txt hgs9)
     clear hw9 hcb hb9 hx9 hgs9 HX8 HGS7
     obtain ⟨kb, hkb⟩ : ∃ kb, kb = tkB T (4 + 9) (bareS F1) := ⟨_, rfl⟩
     rw [← hkb] at KB
     go_wp2_with (fail)
     refine KB.out.mono ?_
     rintro e w10 ⟨rfl, hgs10, hC10⟩
     have HB10 := Lib.hid (HB9.out.chg hC10 hcg)
     replace n0 := hC10.cell n0 htg
     replace n1 := hC10.cell n1 htg
     replace n2 := hC10.cell n2 htg
     replace n3 := hC10.cell n3 htg
     have hs10 := hC10.size
     have HC710 : Hid (Chg (· = g) w7 w10) := Lib.hid ((Chg.of_ext HX79.out).trans hC10)
     have HGS10 := Lib.hid hgs10
     have HKB := Lib.hid hkb
     clear KB hgs10 hC10 HB9 HX79 hkb
     go_upto_if 87 with (fail)
     go_cut [] from 88 to 90 (fun wx => ∃ (ck : Int) (cs' : ByteArray) (cn : Int) (cA : Option Addr) (cl cc : Nat) (cA4 : Option Addr) (cl4 cc4 : Nat) (cA5 : Option Addr) (cl5 cc5 : Nat), BoxN wx cb [.int .i64 ck, .string cs', .int .i64 cn, .slice cA cl cc, .slice cA4 cl4 cc4, .slice cA5 cl5 cc5] ∧ Gs wx g A c T 0 0 (bareS (clQ T F1)) ∧ Chg (fun x => x = g ∨ x = cb) w7 wx ∧
      Hid (∀ x k, clQ T F1 = .ok (x, k) → ∃ yy : ClL, yy.cl = x ∧ clCells yy = [.int .i64 ck, .string cs', .int .i64 cn, .slice cA cl cc, .slice cA4 cl4 cc4, .slice cA5 cl5 cc5] ∧ ClIn wx (fun b => (wr.heap.size ≤ b ∧ b < wx.heap.size) ∧ b ≠ cb) yy))
     case first =>
      have hO1 := HO1.out
      match F1, hO1, HGS10, HKB with
      | .error (q, x), hO1, HGS10, HKB =>
       have hkb : kb = false := HKB.out
       subst hkb
       have HG1 := Lib.hid (And.intro HGS10.out (And.intro HB10.out HC710.out))
       clear hO1 HGS10 HKB
       go_wp2_with fail
       go_meet
       exact ⟨_, _, _, _, _, _, _, _, _, _, _, _, HG1.out.2.1, HG1.out.1, HG1.out.2.2.weak fun _ e => .inl e, Lib.hid (fun x k e => by cases e)⟩
      | .ok (t, m), hO1, HGS10, HKB =>
       obtain ⟨_, Ax, cx, he, hTm, _⟩ := hO1
       obtain ⟨f1, f2, f3, f4⟩ : k' = t.kind ∧ s' = t.name ∧ n' = t.n ∧ (A' = Ax ∧ l' = t.args.length ∧ c' = cx) := by
        have he' := he
        simp only [Ending.returned.injEq, Tm.val, Value.agg.injEq, Array.mk.injEq, List.cons.injEq, Value.int.injEq, Value.string.injEq, Value.slice.injEq, true_and, and_true] at he'
        exact he'
       obtain ⟨f4, f5, f6⟩ := f4
       subst f1 f2 f3 f4 f5 f6
       have HTM := Lib.hid hTm
       have hs710 := HC710.out.size
       have hcbl := HB10.out.lt
       have hs7r := HC7.out.size
       clear he hTm
       by_cases h13 : rl T m = 13
       ·
        have hkb : kb = true := by rw [HKB.out]; simp only [tkB, bareS]; exact decide_eq_true h13
        subst hkb
        have hgs := HGS10.out
        rw [show tkS T (4 + 9) (bareS (Except.ok (t, m))) = .ok ((), m + 1) by simp only [tkS, bareS]; rw [if_pos h13]] at hgs
        have hP10 : PgAt w10 g A c T (m + 1) 0 0 ((0 : Nat) : Int) := hgs
        have hml : m + 1 < T.length := hP10.il
        have KC := Lib.hid (clause_pg HG.out hP10 t A' c' (n := T.length - m) (by omega))
        have HCL : Hid (clQ T (.ok (t, m)) = cpartsQ T (T.length - m) ⟨t, [], []⟩ (m + 1)) := Lib.hid (by simp only [clQ]; rw [if_pos h13])
        clear hgs hP10 HGS10 HKB h13
        go_wp2_with fail
        refine KC.out.mono ?_
        intro e w11 hout
        have HO11 := Lib.hid hout
        obtain ⟨ws, ⟨ck, cs', cn, cA, cl, cc, cA4, cl4, cc4, cA5, cl5, cc5, hws⟩, rfl⟩ := hout.val
        have hb11 := HB10.out.chg hout.1 hcg
        have hs11 := hout.1.size
        have hgs11 := hout.gs
        rw [hws]
        have y0 := hb11.cell 0 rfl
        have y1 := hb11.cell 1 rfl
        have y2 := hb11.cell 2 rfl
        have y3 := hb11.cell 3 rfl
        have y4 := hb11.cell 4 rfl
        have y5 := hb11.cell 5 rfl
        have z0 := hb11.fz 0 (by simp)
        have z1 := hb11.fz 1 (by simp)
        have z2 := hb11.fz 2 (by simp)
        have z3 := hb11.fz 3 (by simp)
        have z4 := hb11.fz 4 (by simp)
        have z5 := hb11.fz 5 (by simp)
        have HB11 := Lib.hid (And.intro hb11 hgs11)
        have HWS := Lib.hid hws
        clear KC hout hb11 hgs11 hws n0 n1 n2 n3
        go_wp2_with fail
        obtain ⟨w12, hw12⟩ : ∃ w12, w12 = w11.setCells cb 0 [.int .i64 ck, .string cs', .int .i64 cn, .slice cA cl cc, .slice cA4 cl4 cc4, .slice cA5 cl5 cc5] := ⟨_, rfl⟩
        have hw12' := hw12
        simp only [World.setCells] at hw12'
        rw [← hw12']
        have hk12 : Chg (fun x => x = cb) w11 w12 := by rw [hw12]; exact setCells_chg _ _ _ 0 _ (Chg.refl _ _)
        have hb12 : BoxN w12 cb [.int .i64 ck, .string cs', .int .i64 cn, .slice cA cl cc, .slice cA4 cl4 cc4, .slice cA5 cl5 cc5] := by rw [hw12]; exact HB11.out.1.set _ rfl
        have hs12 := hk12.size
        have hsz12 : w12.heap.size = w11.heap.size := by rw [hw12']; simp
        have hfin : Hid (∀ x k, clQ T (.ok (t, m)) = .ok (x, k) → ∃ yy : ClL, yy.cl = x ∧ clCells yy = [.int .i64 ck, .string cs', .int .i64 cn, .slice cA cl cc, .slice cA4 cl4 cc4, .slice cA5 cl5 cc5] ∧ ClIn w12 (fun b => (wr.heap.size ≤ b ∧ b < w12.heap.size) ∧ b ≠ cb) yy) := Lib.hid (fun x k e => by
         rw [HCL.out] at e
         have ho := HO11.out
         rw [e] at ho
         obtain ⟨hC11, xs, A4', c4', ys, A5', c5', hx, hev, hr4, hr5, _⟩ := ho
         refine ⟨⟨t, A', c', xs, A4', c4', ys, A5', c5'⟩, hx.symm, ?_, ?_, ?_, ?_⟩
         ·
          simp only [Ending.returned.injEq, Value.agg.injEq] at hev
          have := congrArg Array.toList hev
          rw [HWS.out] at this
          exact this.symm
         ·
          exact HTM.out.keep fun b hb _ => by
           have hb1 := hb.1
           have hb2 := hb.2
           have hcb := HCB.out
           exact ⟨by rw [hk12.block b (by omega) (by omega), hC11.block b (by omega) (by omega), HC710.out.block b (by omega) (by omega), HX7.out.block b hb2], ⟨by omega, by omega⟩, by omega⟩
         ·
          exact hr4.keep fun b hb _ => by
           have hb1 := hb.1
           have hb2 := hb.2
           exact ⟨hk12.block b (by omega) (by omega), ⟨by omega, by omega⟩, by omega⟩
         ·
          exact hr5.keep fun b hb _ => by
           have hb1 := hb.1
           have hb2 := hb.2
           exact ⟨hk12.block b (by omega) (by omega), ⟨by omega, by omega⟩, by omega⟩)
        have HFIN := Lib.hid (And.intro hb12 (And.intro (HB11.out.2.chgq hk12 ⟨hcg, hcA⟩) (((HC710.out.trans HO11.out.1).weak fun _ e => .inl e).trans (hk12.weak fun _ e => Or.inr e))))
        clear hw12 hw12' hk12 hb12
        go_meet
        refine ⟨_, _, _, _, _, _, _, _, _, _, _, _, HFIN.out.1, ?_, HFIN.out.2.2, hfin⟩
        rw [HCL.out]
        exact HFIN.out.2.1
       ·
        have hkb : kb = false := by rw [HKB.out]; simp only [tkB, bareS]; exact decide_eq_false h13
        subst hkb
        have hgs := HGS10.out
        rw [show tkS T (4 + 9) (bareS (Except.ok (t, m))) = .ok ((), m) by simp only [tkS, bareS]; rw [if_neg h13]] at hgs
        have HCL : Hid (clQ T (.ok (t, m)) = .ok (⟨t, [], []⟩, m)) := Lib.hid (by simp only [clQ]; rw [if_neg h13])
        have hfin : Hid (∀ x k, clQ T (.ok (t, m)) = .ok (x, k) → ∃ yy : ClL, yy.cl = x ∧ clCells yy = [.int .i64 t.kind, .string t.name, .int .i64 t.n, .slice A' t.args.length c', .slice none 0 0, .slice none 0 0] ∧ ClIn w10 (fun b => (wr.heap.size ≤ b ∧ b < w10.heap.size) ∧ b ≠ cb) yy) := Lib.hid (fun x k e => by
         rw [HCL.out] at e
         injection e with e
         injection e with e _
         refine ⟨⟨t, A', c', [], none, 0, [], none, 0⟩, e, rfl, HTM.out.keep fun b hb _ => ?_, ⟨.inl ⟨rfl, _, _, rfl⟩, fun x hx => by cases hx⟩, ⟨.inl ⟨rfl, _, _, rfl⟩, fun x hx => by cases hx⟩⟩
         have hb1 := hb.1
         have hb2 := hb.2
         have hcb := HCB.out
         exact ⟨by rw [HC710.out.block b (by omega) (by omega), HX7.out.block b hb2], ⟨by omega, by omega⟩, by omega⟩)
        have HG1 := Lib.hid (And.intro hgs (And.intro HB10.out HC710.out))
        clear HGS10 HKB hgs h13
        go_wp2_with fail
        go_meet
        refine ⟨_, _, _, _, _, _, _, _, _, _, _, _, HG1.out.2.1, ?_, HG1.out.2.2.weak fun _ e => .inl e, hfin⟩
        rw [HCL.out]
        exact HG1.out.1
     case rest =>
      obtain ⟨ck, cs', cn, cA, cl, cc, cA4, cl4, cc4, cA5, cl5, cc5, hbc, hgsc, hCc, HFINc⟩ := hcut
      have hCcw : Chg (· = g) wr wc := chg_new HC7.out hCc (by have := HCB.out; omega)
      have KM := Lib.hid (mustm_gs HG.out 3 (by omega) _ dot_txt' hgsc)
      have HBc := Lib.hid hbc
      have HCc := Lib.hid hCcw
      have hsc := hCcw.size
      obtain ⟨FC, hFC⟩ : ∃ FC, FC = clQ T F1 := ⟨_, rfl⟩
      rw [← hFC] at KM HFINc HIT
      clear hbc hgsc hCc hCcw HB10 HC710 HGS10 HKB n0 n1 n2 n3 hFC HO1
      go_wp2_with fail
      refine KM.out.mono ?_
      rintro e w11 ⟨rfl, hgs11, hC11⟩
      have HB11 := Lib.hid (HBc.out.chg hC11 hcg)
      have HC11 := Lib.hid (HCc.out.trans hC11)
      have HCcW := Lib.hid hC11
      have hs11 := hC11.size
      obtain ⟨S2, hS2⟩ : ∃ S2, S2 = thenS (bareS FC) (mkF T (4 + 3)) := ⟨_, rfl⟩
      rw [← hS2] at hgs11
      have HV0 := Lib.hid ((HTw.out.keep HC11.out (fun b hb => ⟨by omega, by omega⟩)).s0.cell)
      clear KM hC11 HBc
      match S2, hS2, hgs11 with
      | .error (qe, xe), hS2, ⟨hxe, i', d', hPe⟩ =>
       have HIE : Hid (itC T (cs.map ClL.cl).length j FC = .error (qe, xe)) := Lib.hid (itC_err hS2.symm)
       have HCW := HC11
       have HBX := HB11
       have hxe0 : (xe == 0) = false := by simpa using hxe
       have c2' := hPe.c2
       have hgr := hPe.lt
       have HPE := Lib.hid hPe
       have HXE := Lib.hid hxe
       clear hS2 hPe hxe
       go_upto_region 22 with (fail)
       have hT12 := HTw.out.keep HCW.out (fun b hb => ⟨by omega, by omega⟩)
       have dd := hT12.s0.cell
       have hown := hT12.s0.inv.own
       have hfz := hT12.s0.fz
       have hpl := World.block_lt_of_cell? _ _ dd
       have x0 := HBX.out.cell 0 rfl
       have x1 := HBX.out.cell 1 rfl
       have x2 := HBX.out.cell 2 rfl
       have x3 := HBX.out.cell 3 rfl
       have x4 := HBX.out.cell 4 rfl
       have x5 := HBX.out.cell 5 rfl
       have HT12 := Lib.hid hT12
       have hsW := HCW.out.size
       have H1 : Hid (∀ u ∈ ([.int .i64 ck, .string cs', .int .i64 cn, .slice cA cl cc, .slice cA4 cl4 cc4, .slice cA5 cl5 cc5] : List Value), u.oneCell' = true) := Lib.hid (by
        intro u hu
        simp only [List.mem_cons, List.not_mem_nil, or_false] at hu
        rcases hu with h | h | h | h | h | h <;> subst h <;> rfl)
       have hlim : cs.length ≤ 30 := HTw.out.l0
       clear hT12
       go_wp2_with (at_builtin; refine wpList_app _ rfl _ _ 28 rfl B 73 i0 _ 6 104 Tryz.underlying28 hi0 hz0 hz1 hz2 rfl (by decide) (.slice A0 cs.length c0) cs.length (SC.row cs) rfl (hown.alloc _) (some ⟨w11.heap.size, 0, none⟩) 1 1 [.int .i64 ck, .string cs', .int .i64 cn, .slice cA cl cc, .slice cA4 cl4 cc4, .slice cA5 cl5 cc5] rfl (Src.box w11 #[.int .i64 ck, .string cs', .int .i64 cn, .slice cA cl cc, .slice cA4 cl4 cc4, .slice cA5 cl5 cc5] 73 6 rfl) H1.out ?qc3 ?qc4 ?qc5 ?_)
       case qc3 => unfold maxLen; omega
       case qc4 => omega
       case qc5 => first | omega | (simp; omega)
       intro v' w13 ho7 hg7 hat7
       obtain ⟨q7, cap7, rfl, hcap7⟩ := own_form ho7 (Nat.succ_pos _)
       have k7 := (Chg.of_ext (F := fun x => (Value.slice A0 cs.length c0).ownBlock = some x) ((Ext.refl w11).alloc (.cells #[.int .i64 ck, .string cs', .int .i64 cn, .slice cA cl cc, .slice cA4 cl4 cc4, .slice cA5 cl5 cc5] 73))).trans (own_chg hg7)
       have hnp : (Value.slice A0 cs.length c0).ownBlock ≠ some p := fun e => by have := (L4.out p e).1; omega
       have dn7 := k7.cell dd hnp
       have fn7 : w13.frozen? ⟨p, 0, none⟩ = false := (World.frozen?_of_block (w := w11) (k7.block p hpl hnp)).trans hfz
       have hat7' : Grown w11 (.slice A0 cs.length c0) (.slice (some ⟨q7, 0, none⟩) (cs.length + 1) cap7) := by
        rcases hat7 with e | e
        ·
         exact .inl e
        ·
         refine .inr ⟨q7, rfl, ?_⟩
         have : q7 = w11.heap.size + 1 := by simpa [Value.ownBlock] using e
         omega
       obtain ⟨w14, hw14⟩ : ∃ w14, w14 = w13.setCell ⟨p, 0, none⟩ (.slice (some ⟨q7, 0, none⟩) (cs.length + 1) cap7) := ⟨_, rfl⟩
       have kk : Chg (fun x => x = p ∨ (Value.slice A0 cs.length c0).ownBlock = some x) w11 w14 := put_chg k7 hw14
       have hC14 : Chg (fun x => x = g ∨ x = p) w3 w14 := chg_own2 (HCR.out.trans (HCW.out.weak fun _ e => .inl e)) kk (fun b e => (L4.out b e).1) hB
       have hbr14 : BoxN w14 r0 z2 := (HBR.out.chg HCW.out hrg).chg kk (fun e => by rcases e with e | e; exact hrp e; have := (L4.out _ e).1; omega)
       have hPk : ∀ {i' : Nat} {e a d : Int}, PgAt w11 g A c T i' e a d → PgAt w14 g A c T i' e a d := fun hp => hp.own kk (fun b e => (L4.out b e).1) ⟨hgB, hpg⟩ ⟨hAB, hpA⟩

       have hnew : LpIn g A c T B p r0 F w3 w14 ∧ pgM T.length w14 g ≤ T.length - j := by
        refine ⟨⟨hbr14, hC14, .inr ⟨_, xe, qe, _, HXE.out, hPk HPE.out, ?_⟩⟩, by rw [(hPk HPE.out).m1 _ HXE.out]; omega⟩
        rw [← HFJ.out, HIT.out]
        simp only [HIE.out]

       have HNEW := Lib.hid hnew
       have HW14 := Lib.hid hw14
       clear hnew hw14 k7 ho7 hg7 hat7 hat7' hown hfz hpl hnp dd kk hC14 hbr14 hPk x0 x1 x2 x3 x4 x5
       go_wp2_with fail
       rw [← HW14.out]
       clear HW14 dn7 fn7
       go_roundw
       case rel => exact HNEW.out.1
       case measure => rw [HM.out]; have := HNEW.out.2; omega
      | .ok ((), k'), hS2, hP11' =>
       obtain ⟨x, k, hFCx, h7, hk⟩ := itC_ok hS2.symm
       subst hFCx
       subst hk
       have hP11 : PgAt w11 g A c T (k + 1) 0 0 ((0 : Nat) : Int) := hP11'
       have HIR : Hid (itC T (cs.map ClL.cl).length j (.ok (x, k)) = if (cs.map ClL.cl).length = 30 then .error (lim T j) else .ok (x, k + 1)) := Lib.hid (by simp only [itC]; rw [if_pos h7])
       have HRES := Lib.hid (HFINc.out x k rfl)
       have c2' := hP11.c2
       have hgr := hP11.lt
       have d0 := HV0.out
       have HP11 := Lib.hid hP11
       clear hS2 hP11 hP11' h7
       by_cases h30 : cs.length = 30
       ·
        have hl30 : ((cs.length : Int) == 30) = true := by rw [h30]; rfl
        have HIE : Hid (itC T (cs.map ClL.cl).length j (.ok (x, k)) = .error ((tk T j).at_, 2)) := Lib.hid (by rw [HIR.out, if_pos (by simpa using h30)]; rfl)
        have KF := Lib.hid (fails_yes 2 (tk T j).at_ HP11.out)
        clear h30 HIR
        go_wp2_with fail
        refine KF.out.mono ?_
        rintro e w12 ⟨rfl, hP13, hC13⟩
        have HCW := Lib.hid (HC11.out.trans hC13)
        have HBX := Lib.hid (HB11.out.chg hC13 hcg)
        have HPE := Lib.hid hP13
        have HXE : Hid ((2 : Int) ≠ 0) := Lib.hid (by decide)
        clear KF hP13 hC13 HRES d0 c2' hl30
        go_upto_region 22 with (fail)
        have hT12 := HTw.out.keep HCW.out (fun b hb => ⟨by omega, by omega⟩)
        have dd := hT12.s0.cell
        have hown := hT12.s0.inv.own
        have hfz := hT12.s0.fz
        have hpl := World.block_lt_of_cell? _ _ dd
        have x0 := HBX.out.cell 0 rfl
        have x1 := HBX.out.cell 1 rfl
        have x2 := HBX.out.cell 2 rfl
        have x3 := HBX.out.cell 3 rfl
        have x4 := HBX.out.cell 4 rfl
        have x5 := HBX.out.cell 5 rfl
        have HT12 := Lib.hid hT12
        have hsW := HCW.out.size
        have H1 : Hid (∀ u ∈ ([.int .i64 ck, .string cs', .int .i64 cn, .slice cA cl cc, .slice cA4 cl4 cc4, .slice cA5 cl5 cc5] : List Value), u.oneCell' = true) := Lib.hid (by
         intro u hu
         simp only [List.mem_cons, List.not_mem_nil, or_false] at hu
         rcases hu with h | h | h | h | h | h <;> subst h <;> rfl)
        have hlim : cs.length ≤ 30 := HTw.out.l0
        clear hT12
        go_wp2_with (at_builtin; refine wpList_app _ rfl _ _ 28 rfl B 73 i0 _ 6 104 Tryz.underlying28 hi0 hz0 hz1 hz2 rfl (by decide) (.slice A0 cs.length c0) cs.length (SC.row cs) rfl (hown.alloc _) (some ⟨w12.heap.size, 0, none⟩) 1 1 [.int .i64 ck, .string cs', .int .i64 cn, .slice cA cl cc, .slice cA4 cl4 cc4, .slice cA5 cl5 cc5] rfl (Src.box w12 #[.int .i64 ck, .string cs', .int .i64 cn, .slice cA cl cc, .slice cA4 cl4 cc4, .slice cA5 cl5 cc5] 73 6 rfl) H1.out ?qc3 ?qc4 ?qc5 ?_)
        case qc3 => unfold maxLen; omega
        case qc4 => omega
        case qc5 => first | omega | (simp; omega)
        intro v' w13 ho7 hg7 hat7
        obtain ⟨q7, cap7, rfl, hcap7⟩ := own_form ho7 (Nat.succ_pos _)
        have k7 := (Chg.of_ext (F := fun x => (Value.slice A0 cs.length c0).ownBlock = some x) ((Ext.refl w12).alloc (.cells #[.int .i64 ck, .string cs', .int .i64 cn, .slice cA cl cc, .slice cA4 cl4 cc4, .slice cA5 cl5 cc5] 73))).trans (own_chg hg7)
        have hnp : (Value.slice A0 cs.length c0).ownBlock ≠ some p := fun e => by have := (L4.out p e).1; omega
        have dn7 := k7.cell dd hnp
        have fn7 : w13.frozen? ⟨p, 0, none⟩ = false := (World.frozen?_of_block (w := w12) (k7.block p hpl hnp)).trans hfz
        have hat7' : Grown w12 (.slice A0 cs.length c0) (.slice (some ⟨q7, 0, none⟩) (cs.length + 1) cap7) := by
         rcases hat7 with e | e
         ·
          exact .inl e
         ·
          refine .inr ⟨q7, rfl, ?_⟩
          have : q7 = w12.heap.size + 1 := by simpa [Value.ownBlock] using e
          omega
        obtain ⟨w14, hw14⟩ : ∃ w14, w14 = w13.setCell ⟨p, 0, none⟩ (.slice (some ⟨q7, 0, none⟩) (cs.length + 1) cap7) := ⟨_, rfl⟩
        have kk : Chg (fun x => x = p ∨ (Value.slice A0 cs.length c0).ownBlock = some x) w12 w14 := put_chg k7 hw14
        have hC14 : Chg (fun x => x = g ∨ x = p) w3 w14 := chg_own2 (HCR.out.trans (HCW.out.weak fun _ e => .inl e)) kk (fun b e => (L4.out b e).1) hB
        have hbr14 : BoxN w14 r0 z2 := (HBR.out.chg HCW.out hrg).chg kk (fun e => by rcases e with e | e; exact hrp e; have := (L4.out _ e).1; omega)
        have hPk : ∀ {i' : Nat} {e a d : Int}, PgAt w12 g A c T i' e a d → PgAt w14 g A c T i' e a d := fun hp => hp.own kk (fun b e => (L4.out b e).1) ⟨hgB, hpg⟩ ⟨hAB, hpA⟩

        have hnew : LpIn g A c T B p r0 F w3 w14 ∧ pgM T.length w14 g ≤ T.length - j := by
         refine ⟨⟨hbr14, hC14, .inr ⟨_, 2, (tk T j).at_, _, HXE.out, hPk HPE.out, ?_⟩⟩, by rw [(hPk HPE.out).m1 _ HXE.out]; omega⟩
         rw [← HFJ.out, HIT.out]
         simp only [HIE.out]

        have HNEW := Lib.hid hnew
        have HW14 := Lib.hid hw14
        clear hnew hw14 k7 ho7 hg7 hat7 hat7' hown hfz hpl hnp dd kk hC14 hbr14 hPk x0 x1 x2 x3 x4 x5
        go_wp2_with fail
        rw [← HW14.out]
        clear HW14 dn7 fn7
        go_roundw
        case rel => exact HNEW.out.1
        case measure => rw [HM.out]; have := HNEW.out.2; omega
       ·
        have hl30 : ((cs.length : Int) == 30) = false := by simp; omega
        have HIE : Hid (itC T (cs.map ClL.cl).length j (.ok (x, k)) = .ok (x, k + 1)) := Lib.hid (by rw [HIR.out, if_neg (by simpa using h30)])
        have H30 := Lib.hid h30
        have HCW := HC11
        have HBX := HB11
        clear h30 HIR
        go_upto_region 22 with (fail)
        have hT12 := HTw.out.keep HCW.out (fun b hb => ⟨by omega, by omega⟩)
        have dd := hT12.s0.cell
        have hown := hT12.s0.inv.own
        have hfz := hT12.s0.fz
        have hpl := World.block_lt_of_cell? _ _ dd
        have x0 := HBX.out.cell 0 rfl
        have x1 := HBX.out.cell 1 rfl
        have x2 := HBX.out.cell 2 rfl
        have x3 := HBX.out.cell 3 rfl
        have x4 := HBX.out.cell 4 rfl
        have x5 := HBX.out.cell 5 rfl
        have HT12 := Lib.hid hT12
        have hsW := HCW.out.size
        have H1 : Hid (∀ u ∈ ([.int .i64 ck, .string cs', .int .i64 cn, .slice cA cl cc, .slice cA4 cl4 cc4, .slice cA5 cl5 cc5] : List Value), u.oneCell' = true) := Lib.hid (by
         intro u hu
         simp only [List.mem_cons, List.not_mem_nil, or_false] at hu
         rcases hu with h | h | h | h | h | h <;> subst h <;> rfl)
        have hlim : cs.length ≤ 30 := HTw.out.l0
        clear hT12
        go_wp2_with (at_builtin; refine wpList_app _ rfl _ _ 28 rfl B 73 i0 _ 6 104 Tryz.underlying28 hi0 hz0 hz1 hz2 rfl (by decide) (.slice A0 cs.length c0) cs.length (SC.row cs) rfl (hown.alloc _) (some ⟨w11.heap.size, 0, none⟩) 1 1 [.int .i64 ck, .string cs', .int .i64 cn, .slice cA cl cc, .slice cA4 cl4 cc4, .slice cA5 cl5 cc5] rfl (Src.box w11 #[.int .i64 ck, .string cs', .int .i64 cn, .slice cA cl cc, .slice cA4 cl4 cc4, .slice cA5 cl5 cc5] 73 6 rfl) H1.out ?qc3 ?qc4 ?qc5 ?_)
        case qc3 => unfold maxLen; omega
        case qc4 => omega
        case qc5 => first | omega | (simp; omega)
        intro v' w13 ho7 hg7 hat7
        obtain ⟨q7, cap7, rfl, hcap7⟩ := own_form ho7 (Nat.succ_pos _)
        have k7 := (Chg.of_ext (F := fun x => (Value.slice A0 cs.length c0).ownBlock = some x) ((Ext.refl w11).alloc (.cells #[.int .i64 ck, .string cs', .int .i64 cn, .slice cA cl cc, .slice cA4 cl4 cc4, .slice cA5 cl5 cc5] 73))).trans (own_chg hg7)
        have hnp : (Value.slice A0 cs.length c0).ownBlock ≠ some p := fun e => by have := (L4.out p e).1; omega
        have dn7 := k7.cell dd hnp
        have fn7 : w13.frozen? ⟨p, 0, none⟩ = false := (World.frozen?_of_block (w := w11) (k7.block p hpl hnp)).trans hfz
        have hat7' : Grown w11 (.slice A0 cs.length c0) (.slice (some ⟨q7, 0, none⟩) (cs.length + 1) cap7) := by
         rcases hat7 with e | e
         ·
          exact .inl e
         ·
          refine .inr ⟨q7, rfl, ?_⟩
          have : q7 = w11.heap.size + 1 := by simpa [Value.ownBlock] using e
          omega
        obtain ⟨w14, hw14⟩ : ∃ w14, w14 = w13.setCell ⟨p, 0, none⟩ (.slice (some ⟨q7, 0, none⟩) (cs.length + 1) cap7) := ⟨_, rfl⟩
        have kk : Chg (fun x => x = p ∨ (Value.slice A0 cs.length c0).ownBlock = some x) w11 w14 := put_chg k7 hw14
        have hC14 : Chg (fun x => x = g ∨ x = p) w3 w14 := chg_own2 (HCR.out.trans (HCW.out.weak fun _ e => .inl e)) kk (fun b e => (L4.out b e).1) hB
        have hbr14 : BoxN w14 r0 z2 := (HBR.out.chg HCW.out hrg).chg kk (fun e => by rcases e with e | e; exact hrp e; have := (L4.out _ e).1; omega)
        have hPk : ∀ {i' : Nat} {e a d : Int}, PgAt w11 g A c T i' e a d → PgAt w14 g A c T i' e a d := fun hp => hp.own kk (fun b e => (L4.out b e).1) ⟨hgB, hpg⟩ ⟨hAB, hpA⟩

        have hnew : LpIn g A c T B p r0 F w3 w14 ∧ pgM T.length w14 g ≤ T.length - j := by
         have hip : itemP T ⟨cs.map ClL.cl, rs.map RlL.rl⟩ j = .ok (⟨cs.map ClL.cl ++ [x], rs.map RlL.rl⟩, k + 1) := by
          rw [HIT.out]
          simp only [HIE.out]
         have htk := itemP_takes HT.out hip
         obtain ⟨yy, hyx, hyc, hin'⟩ := HRES.out
         have hyc : SC.cells yy = [.int .i64 ck, .string cs', .int .i64 cn, .slice cA cl cc, .slice cA4 cl4 cc4, .slice cA5 cl5 cc5] := hyc
         have hin : ClIn w11 (fun b => wr.heap.size ≤ b ∧ b < w11.heap.size) yy := SC.keep (show SC.In wc (fun b => (wr.heap.size ≤ b ∧ b < wc.heap.size) ∧ b ≠ cb) yy from hin') fun b hb _ => ⟨HCcW.out.block b hb.1.2 (by have := hb.1.1; omega), hb.1.1, by have := hb.1.2; omega⟩
         rw [← hyc] at ho7
         have hT14 := HT12.out.addC (y := yy) H30.out (fun q e => (L4.out q e).2) (fun q e => (L5.out q e).2) hBr hin k7 ho7 hat7' hw14
         refine ⟨⟨hbr14, hC14, .inl ⟨n, k + 1, _, _, cs ++ [yy], rs, by omega, hPk HP11.out, hT14, ?_⟩⟩, by rw [(hPk HP11.out).m0]; omega⟩
         rw [← HFJ.out, hip]
         simp only [List.map_append, List.map_cons, List.map_nil, hyx]

        have HNEW := Lib.hid hnew
        have HW14 := Lib.hid hw14
        clear hnew hw14 k7 ho7 hg7 hat7 hat7' hown hfz hpl hnp dd kk hC14 hbr14 hPk x0 x1 x2 x3 x4 x5
        go_wp2_with fail
        rw [← HW14.out]
        clear HW14 dn7 fn7
        go_roundw
        case rel => exact HNEW.out.1
        case measure => rw [HM.out]; have := HNEW.out.2; omega
end Go.Proofs.YtbjghkmjnhmlfaaGreatDoor
