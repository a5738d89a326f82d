/- Joined: Pqb, Pqc, Pqe. -/
import Derived.Test.YtbjghkmjnhmlfaaGreatDoorYL
import Derived.Test.YtbjghkmjnhmlfaaGreatDoorYI

/- The page's reader: mark, take, must, open, close, by roles. -/
namespace Go.Proofs.YtbjghkmjnhmlfaaGreatDoor
open Go.RowKit

/-- is it this mark? -/
theorem mark_role {T : List Tok} (hG : ToksG T) {i m : Nat} (hi : i < T.length) (hm : m < 15) : ((tk T i).kind == 4 && decide ((tk T i).text.data.toList = (txt (roleTexts[m]?.getD [])).data.toList)) = decide (rl T i = 4 + m) := by
  have g := hG.2.1 _ (List.getElem_mem hi)
  rw [show rl T i = roleN (T[i]) by unfold rl; rw [tk_at T hi], tk_at T hi]
  have hk := (role_kind g).2.2.2.2
  rw [show (txt (roleTexts[m]?.getD [])).data.toList = roleTexts[m]?.getD [] by unfold txt; simp]
  by_cases h4 : T[i].kind = 4
  · have ht := role_text (t := T[i]) (.inl h4) (show m < 34 by omega)
    rw [show (T[i].kind == 4) = true by simp [h4], Bool.true_and]
    exact decide_eq_decide.2 ht
  · rw [show (T[i].kind == 4) = false by simp [h4], Bool.false_and]
    symm
    exact decide_eq_false (fun e => h4 (hk.2 (by omega)))

theorem mark_role' {T : List Tok} (hG : ToksG T) {i m : Nat} (hi : i < T.length) (hm : m < 15) {s : ByteArray} (hs : s = txt (roleTexts[m]?.getD [])) {b : Bool} (hb : decide (rl T i = 4 + m) = b) : (((tk T i).kind == 4) && decide ((tk T i).text.data.toList = s.data.toList)) = b := by
  rw [← hb, ← mark_role hG hi hm, hs]

section
variable {w : World} {g A c : Nat} {T : List Tok} {i : Nat} {a d : Int}
set_option maxRecDepth 100000 in
theorem mark_pg (hG : ToksG T) (m : Nat) (hm : m < 15) (s : ByteArray) (hs : s = txt (roleTexts[m]?.getD [])) (h : PgAt w g A c T i 0 a d) :
    Calls Tryz.prog 36 #[.pointer (some ⟨g, 0, none⟩), .string s] w fun e w' => e = .returned (.bool (decide (rl T i = 4 + m))) ∧ Ext w w' := by
  have hq := mark_role' hG h.il hm hs rfl
  have KI := is_ok 4 s h
  rw [hq] at KI
  have KI := Lib.hid KI
  clear hq
  clear h
  clear hs hm hG
  go_enter Tryz.func36, Tryz.ntmps36
  go_wp2_with fail
  refine KI.out.mono ?_
  rintro e w1 ⟨rfl, hx1⟩
  go_wp2_with fail
  go_ret
  exact ⟨rfl, hx1⟩
set_option maxRecDepth 100000 in
theorem mark_er {e0 : Int} (s : ByteArray) (h : PgAt w g A c T i e0 a d) (he : e0 ≠ 0) :
    Calls Tryz.prog 36 #[.pointer (some ⟨g, 0, none⟩), .string s] w fun e w' => e = .returned (.bool false) ∧ Ext w w' := by
  have KI := Lib.hid (is_err 4 s h he)
  clear h
  go_enter Tryz.func36, Tryz.ntmps36
  go_wp2_with fail
  refine KI.out.mono ?_
  rintro e w1 ⟨rfl, hx1⟩
  go_wp2_with fail
  go_ret
  exact ⟨rfl, hx1⟩
set_option maxRecDepth 100000 in
theorem take_pno (hG : ToksG T) (m : Nat) (hm : m < 15) (s : ByteArray) (hs : s = txt (roleTexts[m]?.getD [])) (h : PgAt w g A c T i 0 a d) (hr : rl T i ≠ 4 + m) :
    Calls Tryz.prog 20 #[.pointer (some ⟨g, 0, none⟩), .string s] w fun e w' => e = .returned (.bool false) ∧ Ext w w' := by
  have KI := mark_pg hG m hm s hs h
  rw [decide_eq_false hr] at KI
  have KI := Lib.hid KI
  clear h
  clear hs hm hG
  go_enter Tryz.func20, Tryz.ntmps20
  go_wp2_with fail
  refine KI.out.mono ?_
  rintro e w1 ⟨rfl, hx1⟩
  go_wp2_with fail
  go_ret
  exact ⟨rfl, hx1⟩
set_option maxRecDepth 100000 in
theorem take_per {e0 : Int} (s : ByteArray) (h : PgAt w g A c T i e0 a d) (he : e0 ≠ 0) :
    Calls Tryz.prog 20 #[.pointer (some ⟨g, 0, none⟩), .string s] w fun e w' => e = .returned (.bool false) ∧ Ext w w' := by
  have KI := Lib.hid (mark_er s h he)
  clear h
  go_enter Tryz.func20, Tryz.ntmps20
  go_wp2_with fail
  refine KI.out.mono ?_
  rintro e w1 ⟨rfl, hx1⟩
  go_wp2_with fail
  go_ret
  exact ⟨rfl, hx1⟩
set_option maxRecDepth 100000 in
set_option maxHeartbeats 1000000 in
theorem take_pyes (hG : ToksG T) (m : Nat) (hm : m < 15) (s : ByteArray) (hs : s = txt (roleTexts[m]?.getD [])) (h : PgAt w g A c T i 0 a d) (hr : rl T i = 4 + m) :
    Calls Tryz.prog 20 #[.pointer (some ⟨g, 0, none⟩), .string s] w fun e w' => e = .returned (.bool true) ∧ PgAt w' g A c T (i + 1) 0 a d ∧ Chg (· = g) w w' := by
  have KI := mark_pg hG m hm s hs h
  rw [decide_eq_true hr] at KI
  have KI := Lib.hid KI
  have hl := h.len
  have il := h.il
  have hi1 := hG.ends.2 i (by rw [hr]; omega)
  have hw1 : IntKind.i64.wrap ((i : Int) + 1) = (i : Int) + 1 := by rw [IntKind.wrap_i64]; omega
  have HH := Lib.hid h
  clear h hl hr
  clear hs hm hG
  go_enter Tryz.func20, Tryz.ntmps20
  go_wp2_with fail
  refine KI.out.mono ?_
  rintro e w1 ⟨rfl, hx1⟩
  have h1 := HH.out.ext hx1
  have c1 := h1.c1
  have f1 := h1.fr 1 (by omega)
  have H1 := Lib.hid (h1.to (i + 1) hi1)
  clear h1
  go_wp2_with fail
  go_ret
  refine ⟨rfl, ?_, (Chg.of_ext hx1).setg _ _⟩
  have := H1.out
  rwa [Int.natCast_add] at this
set_option maxRecDepth 100000 in
set_option maxHeartbeats 1000000 in
theorem must_pyes (hG : ToksG T) (m : Nat) (hm : m < 15) (s : ByteArray) (hs : s = txt (roleTexts[m]?.getD [])) (h : PgAt w g A c T i 0 a d) (hr : rl T i = 4 + m) :
    Calls Tryz.prog 22 #[.pointer (some ⟨g, 0, none⟩), .int .i64 4, .string s] w fun e w' => e = .returned (.tuple #[]) ∧ PgAt w' g A c T (i + 1) 0 a d ∧ Chg (· = g) w w' := by
  have hq := mark_role' hG h.il hm hs (decide_eq_true hr)
  have KI := is_ok 4 s h
  rw [hq] at KI
  have KI := Lib.hid KI
  clear hq
  have hl := h.len
  have il := h.il
  have hi1 := hG.ends.2 i (by rw [hr]; omega)
  have hw1 : IntKind.i64.wrap ((i : Int) + 1) = (i : Int) + 1 := by rw [IntKind.wrap_i64]; omega
  have HH := Lib.hid h
  have c2 := h.c2
  clear h hl hr
  clear hs hm hG
  go_enter Tryz.func22, Tryz.ntmps22
  go_wp2_with fail
  refine KI.out.mono ?_
  rintro e w1 ⟨rfl, hx1⟩
  have h1 := HH.out.ext hx1
  have c1 := h1.c1
  have f1 := h1.fr 1 (by omega)
  have H1 := Lib.hid (h1.to (i + 1) hi1)
  clear h1
  go_wp2_with fail
  go_end0
  refine ⟨rfl, ?_, (Chg.of_ext hx1).setg _ _⟩
  have := H1.out
  rwa [Int.natCast_add] at this
set_option maxRecDepth 100000 in
set_option maxHeartbeats 1000000 in
theorem must_pno (hG : ToksG T) (m : Nat) (hm : m < 15) (s : ByteArray) (hs : s = txt (roleTexts[m]?.getD [])) (h : PgAt w g A c T i 0 a d) (hr : rl T i ≠ 4 + m) :
    Calls Tryz.prog 22 #[.pointer (some ⟨g, 0, none⟩), .int .i64 4, .string s] w fun e w' => e = .returned (.tuple #[]) ∧ PgAt w' g A c T i 4 (tk T i).at_ d ∧ Chg (· = g) w w' := by
  have hq := mark_role' hG h.il hm hs (decide_eq_false hr)
  have KI := is_ok 4 s h
  rw [hq] at KI
  have KI := Lib.hid KI
  clear hq
  have HH := Lib.hid h
  have c2 := h.c2
  have q3 := fld3
  clear h hr
  clear hs hm hG
  go_enter Tryz.func22, Tryz.ntmps22
  go_wp2_with fail
  refine KI.out.mono ?_
  rintro e w1 ⟨rfl, hx1⟩
  have KN := Lib.hid (now_pg (HH.out.ext hx1))
  go_wp2_with fail
  refine KN.out.mono ?_
  rintro e w2 ⟨rfl, hx2⟩
  have KF := Lib.hid (fails_yes 4 (tk T i).at_ (HH.out.ext (hx1.trans hx2)))
  go_wp2_with fail
  refine KF.out.mono ?_
  rintro e w3 ⟨rfl, hE, hC3⟩
  have HE := Lib.hid hE
  clear hE
  go_wp2_with fail
  ((try simp only [Exit.inBlock, Exit.then]); refine bodyPost_ret (results_none rfl _ _ _) rfl ?_)
  exact ⟨rfl, HE.out, (Chg.of_ext (hx1.trans hx2)).trans hC3⟩
set_option maxRecDepth 100000 in
theorem must_per {e0 : Int} (k : Int) (s : ByteArray) (h : PgAt w g A c T i e0 a d) (he : e0 ≠ 0) :
    Calls Tryz.prog 22 #[.pointer (some ⟨g, 0, none⟩), .int .i64 k, .string s] w fun e w' => e = .returned (.tuple #[]) ∧ Ext w w' := by
  have c2 := h.c2
  have q : (e0 != 0) = true := by simp [he]
  clear h he
  go_enter Tryz.func22, Tryz.ntmps22
  go_wp2_with fail
  ((try simp only [Exit.inBlock, Exit.then]); refine bodyPost_ret (results_none rfl _ _ _) rfl ?_)
  exact ⟨rfl, Ext.refl _⟩
end
end Go.Proofs.YtbjghkmjnhmlfaaGreatDoor

/- The page's reader: open, close. -/
namespace Go.Proofs.YtbjghkmjnhmlfaaGreatDoor
open Go.RowKit

section
variable {w : World} {g A c : Nat} {T : List Tok} {i : Nat} {a d : Int}
theorem open_txt : (⟨#[40]⟩ : ByteArray) = txt (roleTexts[0]?.getD []) := by decide
theorem close_txt : (⟨#[41]⟩ : ByteArray) = txt (roleTexts[1]?.getD []) := by decide
theorem comma_txt : (⟨#[44]⟩ : ByteArray) = txt (roleTexts[2]?.getD []) := by decide
set_option maxRecDepth 100000 in
set_option maxHeartbeats 1000000 in
theorem open_yes (hG : ToksG T) {b : Nat} (hb : b < 100) (h : PgAt w g A c T i 0 a b) (hr : rl T i = 4) :
    Calls Tryz.prog 61 #[.pointer (some ⟨g, 0, none⟩)] w fun e w' => e = .returned (.tuple #[]) ∧ PgAt w' g A c T (i + 1) 0 a ((b + 1 : Nat) : Int) ∧ Chg (· = g) w w' := by
  have KN := Lib.hid (now_pg h)
  have HH := Lib.hid h
  have q3 := fld3
  have hw1 : IntKind.i64.wrap ((b : Int) + 1) = ((b + 1 : Nat) : Int) := by rw [IntKind.wrap_i64]; omega
  have hw2 : decide (((b + 1 : Nat) : Int) > 100) = false := decide_eq_false (by omega)
  have KM := Lib.hid (fun (u : World) (hu : PgAt u g A c T i 0 a b) => must_pyes hG 0 (by omega) _ open_txt hu hr)
  clear h hr hG
  go_enter Tryz.func61, Tryz.ntmps61
  go_wp2_with fail
  refine KN.out.mono ?_
  rintro e w1 ⟨rfl, hx1⟩
  have K2 := Lib.hid (KM.out w1 (HH.out.ext hx1))
  go_wp2_with fail
  refine K2.out.mono ?_
  rintro e w2 ⟨rfl, h2, hC2⟩
  have c2 := h2.c2
  have c4 := h2.c4
  have f4 := h2.fr 4 (by omega)
  have H2 := Lib.hid (h2.toD ((b + 1 : Nat) : Int))
  clear h2
  go_wp2_with fail
  go_end0
  exact ⟨rfl, H2.out, ((Chg.of_ext hx1).trans hC2).setg _ _⟩
set_option maxRecDepth 100000 in
set_option maxHeartbeats 1000000 in
theorem open_lim (hG : ToksG T) (h : PgAt w g A c T i 0 a 100) (hr : rl T i = 4) :
    Calls Tryz.prog 61 #[.pointer (some ⟨g, 0, none⟩)] w fun e w' => e = .returned (.tuple #[]) ∧ PgAt w' g A c T (i + 1) 2 (tk T i).at_ 101 ∧ Chg (· = g) w w' := by
  have KN := Lib.hid (now_pg h)
  have HH := Lib.hid h
  have q3 := fld3
  have KM := Lib.hid (fun (u : World) (hu : PgAt u g A c T i 0 a 100) => must_pyes hG 0 (by omega) _ open_txt hu hr)
  clear h hr hG
  go_enter Tryz.func61, Tryz.ntmps61
  go_wp2_with fail
  refine KN.out.mono ?_
  rintro e w1 ⟨rfl, hx1⟩
  have K2 := Lib.hid (KM.out w1 (HH.out.ext hx1))
  go_wp2_with fail
  refine K2.out.mono ?_
  rintro e w2 ⟨rfl, h2, hC2⟩
  have c2 := h2.c2
  have c4 := h2.c4
  have f4 := h2.fr 4 (by omega)
  have KF := Lib.hid (fails_yes 2 (tk T i).at_ (h2.toD 101))
  clear h2
  go_wp2_with fail
  refine KF.out.mono ?_
  rintro e w3 ⟨rfl, hE, hC4⟩
  have HE := Lib.hid hE
  clear hE
  go_wp2_with fail
  go_end0
  exact ⟨rfl, HE.out, (((Chg.of_ext hx1).trans hC2).setg _ _).trans hC4⟩
set_option maxRecDepth 100000 in
set_option maxHeartbeats 1000000 in
theorem close_yes (hG : ToksG T) {b : Nat} (hb : b ≤ 100) (h : PgAt w g A c T i 0 a ((b + 1 : Nat) : Int)) (hr : rl T i = 5) :
    Calls Tryz.prog 62 #[.pointer (some ⟨g, 0, none⟩)] w fun e w' => e = .returned (.tuple #[]) ∧ PgAt w' g A c T (i + 1) 0 a b ∧ Chg (· = g) w w' := by
  have KM := Lib.hid (must_pyes hG 1 (by omega) _ close_txt h hr)
  have hw1 : IntKind.i64.wrap (((b + 1 : Nat) : Int) - 1) = (b : Int) := by rw [IntKind.wrap_i64]; omega
  clear h hr hG
  go_enter Tryz.func62, Tryz.ntmps62
  go_wp2_with fail
  refine KM.out.mono ?_
  rintro e w2 ⟨rfl, h2, hC2⟩
  have c4 := h2.c4
  have f4 := h2.fr 4 (by omega)
  have H2 := Lib.hid (h2.toD (b : Int))
  clear h2
  go_wp2_with fail
  go_end0
  exact ⟨rfl, H2.out, hC2.setg _ _⟩
set_option maxRecDepth 100000 in
set_option maxHeartbeats 1000000 in
theorem close_no (hG : ToksG T) (h : PgAt w g A c T i 0 a d) (hr : rl T i ≠ 5) :
    Calls Tryz.prog 62 #[.pointer (some ⟨g, 0, none⟩)] w fun e w' => e = .returned (.tuple #[]) ∧ (∃ d', PgAt w' g A c T i 4 (tk T i).at_ d') ∧ Chg (· = g) w w' := by
  have KM := Lib.hid (must_pno hG 1 (by omega) _ close_txt h hr)
  clear h hr hG
  go_enter Tryz.func62, Tryz.ntmps62
  go_wp2_with fail
  refine KM.out.mono ?_
  rintro e w2 ⟨rfl, h2, hC2⟩
  have c4 := h2.c4
  have f4 := h2.fr 4 (by omega)
  have H2 := Lib.hid (fun x => h2.toD x)
  clear h2
  go_wp2_with fail
  go_end0
  exact ⟨rfl, ⟨_, H2.out _⟩, hC2.setg _ _⟩
set_option maxRecDepth 100000 in
set_option maxHeartbeats 1000000 in
theorem close_er {e0 : Int} (h : PgAt w g A c T i e0 a d) (he : e0 ≠ 0) :
    Calls Tryz.prog 62 #[.pointer (some ⟨g, 0, none⟩)] w fun e w' => e = .returned (.tuple #[]) ∧ (∃ d', PgAt w' g A c T i e0 a d') ∧ Chg (· = g) w w' := by
  have KM := Lib.hid (must_per 4 ⟨#[41]⟩ h he)
  have HH := Lib.hid h
  clear h he
  go_enter Tryz.func62, Tryz.ntmps62
  go_wp2_with fail
  refine KM.out.mono ?_
  rintro e w2 ⟨rfl, hx2⟩
  have h2 := HH.out.ext hx2
  have c4 := h2.c4
  have f4 := h2.fr 4 (by omega)
  have H2 := Lib.hid (fun x => h2.toD x)
  clear h2
  go_wp2_with fail
  go_end0
  exact ⟨rfl, ⟨_, H2.out _⟩, (Chg.of_ext hx2).setg _ _⟩
end
end Go.Proofs.YtbjghkmjnhmlfaaGreatDoor

/- The page's reader: an argument is put behind the others. -/
namespace Go.Proofs.YtbjghkmjnhmlfaaGreatDoor
open Go.RowKit

/-- what the page's reading of a term comes to -/
def PgOut (w : World) (g A c : Nat) (T : List Tok) (a : Int) (b : Nat) (F : Rs Tm) (e : Ending) (w' : World) : Prop := Chg (· = g) w w' ∧
  match F with
  | .ok (t, j) => ∃ A' c', e = .returned (t.val A' c') ∧ TmIn w' (New w w') t A' c' ∧ PgAt w' g A c T j 0 a b
  | .error (p, x) => x ≠ 0 ∧ (∃ k s n A l c, e = .returned (.agg #[.int .i64 k, .string s, .int .i64 n, .slice A l c])) ∧ ∃ i' d', PgAt w' g A c T i' x p d'
theorem PgOut.val {w : World} {g A c : Nat} {T : List Tok} {a : Int} {b : Nat} {F : Rs Tm} {e : Ending} {w' : World} (h : PgOut w g A c T a b F e w') : ∃ k s n A l c, e = .returned (.agg #[.int .i64 k, .string s, .int .i64 n, .slice A l c]) := by
  match F, h with
  | .ok (t, j), ⟨_, A', c', he, _⟩ => exact ⟨_, _, _, _, _, _, he⟩
  | .error (p, x), ⟨_, _, he, _⟩ => exact he
/-- what is behind an argument -/
def contP (T : List Tok) (f : Nat → Rs Tm) (n : Nat) (acc : List Tm) (j : Nat) : Rs (List Tm) := if rl T j = 6 then argsP T f n acc (j + 1) else if rl T j = 5 then .ok (acc, j + 1) else .error (bad T j)
def nextP (T : List Tok) (f : Nat → Rs Tm) (n : Nat) (acc : List Tm) : Rs Tm → Rs (List Tm)
  | .error e => .error e
  | .ok (t, i) => contP T f n (acc ++ [t]) i
theorem argsP_next (T : List Tok) (f : Nat → Rs Tm) (n : Nat) (acc : List Tm) (i : Nat) : argsP T f (n + 1) acc i = nextP T f n acc (f i) := by
  rw [argsP]
  rcases f i with e | ⟨t, j⟩ <;> rfl
/-- the arguments so far -/
def ArgSt (w3 : World) (g A c : Nat) (T : List Tok) (a : Int) (b : Nat) (f : Nat → Rs Tm) (F : Rs (List Tm)) (wr : World) (v : Value) : Prop :=
  (∃ xs j n, b ≤ 100 ∧ PgAt wr g A c T j 0 a b ∧ AInv w3 wr v xs ∧ xs.length ≤ j ∧ T.length ≤ n + j ∧ contP T f n (xs.map (·.1)) j = F) ∨
  (∃ i' x p' d' SA l sc, x ≠ 0 ∧ PgAt wr g A c T i' x p' d' ∧ v = .slice SA l sc ∧ F = .error (p', x))
/-- how far it is -/
def pgM (n : Nat) (w : World) (g : Nat) : Nat := match w.cell? ⟨g, 2, none⟩, w.cell? ⟨g, 1, none⟩ with
  | some (.int _ e), some (.int _ i) => if e = 0 then n + 1 - i.toNat else 0
  | _, _ => 0
theorem PgAt.m0 {w : World} {g A c : Nat} {T : List Tok} {i : Nat} {a d : Int} (n : Nat) (h : PgAt w g A c T i 0 a d) : pgM n w g = n + 1 - i := by unfold pgM; rw [h.c1, h.c2]; simp
theorem PgAt.m1 {w : World} {g A c : Nat} {T : List Tok} {i : Nat} {e a d : Int} (n : Nat) (h : PgAt w g A c T i e a d) (he : e ≠ 0) : pgM n w g = 0 := by unfold pgM; rw [h.c1, h.c2]; simp [he]
theorem pg_arg {w3 u w4 w5 wf : World} {g p A c : Nat} {T : List Tok} {a : Int} {b j n q cap : Nat} {v : Value} {xs : List Lain} {f : Nat → Rs Tm} {F : Rs (List Tm)} {F1 : Rs Tm} {k' n' : Int} {s' : ByteArray} {A' : Option Addr} {l' c' : Nat}
    (hb1 : ∀ y, F1 = .ok y → b ≤ 100) (hF1 : ∀ t i, F1 = .ok (t, i) → j < i) (hF : nextP T f n (xs.map (·.1)) F1 = F)
    (hA : AInv w3 u v xs) (hxj : xs.length ≤ j) (hn : T.length ≤ n + 1 + j) (hPO : PgOut u g A c T a b F1 (.returned (.agg #[.int .i64 k', .string s', .int .i64 n', .slice A' l' c'])) w4)
    (hC : Chg (fun x => x = g ∨ x = p) w3 u) (hg : g < w3.heap.size) (hlo : A < w3.heap.size) (hp : p < w3.heap.size) (hpg : p ≠ g) (hpA : p ≠ A) (hcs : ∀ j, j < 3 → u.cell? ⟨p, j, none⟩ = w3.cell? ⟨p, j, none⟩) (fc : u.frozen? ⟨p, 3, none⟩ = false) (dc : u.cell? ⟨p, 3, none⟩ = some v)
    (k5 : Chg (fun b => v.ownBlock = some b) w4 w5) (ho : w5.ownsRow w3.heap.size 58 4 (.slice (some ⟨q, 0, none⟩) (xs.length + 1) cap) (xs.length + 1) (rowCells xs ++ [.int .i64 k', .string s', .int .i64 n', .slice A' l' c'])) (hat : v.ownBlock = some q ∨ w4.heap.size ≤ q)
    (hwf : wf = w5.setCell ⟨p, 3, none⟩ (.slice (some ⟨q, 0, none⟩) (xs.length + 1) cap)) :
    wf.cell? ⟨p, 3, none⟩ = some (.slice (some ⟨q, 0, none⟩) (xs.length + 1) cap) ∧ wf.frozen? ⟨p, 3, none⟩ = false ∧ Chg (fun x => x = g ∨ x = p) w3 wf ∧ (∀ j, j < 3 → wf.cell? ⟨p, j, none⟩ = w3.cell? ⟨p, j, none⟩) ∧ ArgSt w3 g A c T a b f F wf (.slice (some ⟨q, 0, none⟩) (xs.length + 1) cap) ∧ pgM T.length wf g ≤ T.length - j := by
  subst hwf
  obtain ⟨hC4, ho4⟩ := hPO
  have hs5 := k5.size
  have hs4 := hC4.size
  have hs3 := hA.size
  have hvn : ∀ x, x < w3.heap.size → v.ownBlock ≠ some x := fun x hx e => by have := (own_lt hA.own x e).1; omega
  have hvu : ∀ q, v.ownBlock = some q → q < u.heap.size := fun q hq => (own_lt hA.own q hq).2
  have k45 : ∀ x, x < w3.heap.size → w5.heap[x]? = w4.heap[x]? := fun x hx => k5.block x (by omega) (hvn x hx)
  have hp4 := hC4.block p (by omega) hpg
  have hp5 : w5.heap[p]? = u.heap[p]? := (k45 p hp).trans hp4
  have dc5 : w5.cell? ⟨p, 3, none⟩ = some v := (World.cell?_of_block (w := u) hp5).trans dc
  have fc5 : w5.frozen? ⟨p, 3, none⟩ = false := (World.frozen?_of_block (w := u) hp5).trans fc
  have kp : Chg (fun x => x = p) w5 (w5.setCell ⟨p, 3, none⟩ (.slice (some ⟨q, 0, none⟩) (xs.length + 1) cap)) := (Chg.refl _ w5).setg _ _
  have hpq : ∀ {i : Nat} {e' a' d' : Int}, PgAt w4 g A c T i e' a' d' → PgAt (w5.setCell ⟨p, 3, none⟩ (.slice (some ⟨q, 0, none⟩) (xs.length + 1) cap)) g A c T i e' a' d' := fun h =>
    (h.keep (w' := w5) (fun x _ e => k45 x (by rcases e with e | e <;> omega))).chg kp (fun x _ e => by subst e; exact ⟨hpg, hpA⟩)
  refine ⟨by go_simp, by simpa using fc5, ?_, fun j hj => ?_, ?_⟩
  · refine ⟨kp.os.trans (k5.os.trans (hC4.os.trans hC.os)), kp.tape.trans (k5.tape.trans (hC4.tape.trans hC.tape)), kp.output.trans (k5.output.trans (hC4.output.trans hC.output)), Nat.le_trans hC.size (Nat.le_trans hs4 (Nat.le_trans hs5 kp.size)), fun x hx hf => ?_⟩
    rw [kp.block x (by omega) (fun e => hf (.inr e)), k45 x hx, hC4.block x (by omega) (fun e => hf (.inl e)), hC.block x hx hf]
  · rw [World.cell?_setCell_other _ _ _ _ (fun e => by injection e with _ e; omega), World.cell?_of_block (w := u) hp5, hcs j hj]
  · rcases F1 with ⟨p', x⟩ | ⟨t, i⟩
    · obtain ⟨hx, _, i', d', hP⟩ := ho4
      exact ⟨.inr ⟨i', x, p', d', _, _, _, hx, hpq hP, rfl, hF.symm⟩, by rw [(hpq hP).m1 _ hx]; omega⟩
    · obtain ⟨A2, c2, he, hIn, hP⟩ := ho4
      have hji := hF1 t i rfl
      injection he with he
      injection he with he
      have e0 := congrArg (fun l : Array Value => l.toList) he
      simp only [List.cons.injEq, and_true] at e0
      obtain ⟨e1, e2, e3, e4⟩ := e0
      rw [e1, e2, e3, e4] at ho
      have hA4 := hA.chg hC4 hg
      have hA5 := hA4.app (y := (t, A2, c2)) hvu hs3 hIn k5 ho (hat.imp (fun e => e.symm) (fun e => ⟨q, rfl, e⟩))
      exact ⟨.inl ⟨xs ++ [(t, A2, c2)], i, n, hb1 _ rfl, hpq hP, hA5.set hp, by simp; omega, by omega, by rw [List.map_append]; exact hF⟩, by rw [(hpq hP).m0]; omega⟩
end Go.Proofs.YtbjghkmjnhmlfaaGreatDoor
