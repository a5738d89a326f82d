/- Joined: Php, Phv. -/
import Derived.Test.YtbjghkmjnhmlfaaGreatDoorPho
import Derived.Test.YtbjghkmjnhmlfaaGreatDoorYA
import Derived.Test.YtbjghkmjnhmlfaaGreatDoorYQ

/- The page's reader: words by their roles; what a comparison comes to, in one. -/
namespace Go.Proofs.YtbjghkmjnhmlfaaGreatDoor
open Go.RowKit

/-- is it this word? -/
theorem name_role {T : List Tok} (hG : ToksG T) {i m : Nat} (hi : i < T.length) (h15 : 15 ≤ m) (hm : m < 34) : ((tk T i).kind == 1 && decide ((tk T i).text.data.toList = (txt (roleTexts[m]?.getD [])).data.toList)) = decide (rl T i = 4 + m) := by
  have g := hG.2.1 _ (List.getElem_mem hi)
  rw [show rl T i = roleN (T[i]) by unfold rl; rw [tk_at T hi], tk_at T hi]
  have hk := role_kind g
  rw [show (txt (roleTexts[m]?.getD [])).data.toList = roleTexts[m]?.getD [] by unfold txt; simp]
  by_cases h4 : T[i].kind = 1
  · have ht := role_text (t := T[i]) (.inr h4) (show m < 34 by omega)
    rw [show (T[i].kind == 1) = true by simp [h4], Bool.true_and]
    exact decide_eq_decide.2 ht
  · rw [show (T[i].kind == 1) = false by simp [h4], Bool.false_and]
    symm
    refine decide_eq_false (fun e => h4 (hk.2.2.2.1.2 ?_))
    rw [e]
    unfold isName
    simp
    omega
theorem name_kind {T : List Tok} (hG : ToksG T) {i : Nat} (hi : i < T.length) : ((tk T i).kind == 1) = isName (rl T i) := by
  have g := hG.2.1 _ (List.getElem_mem hi)
  have hk := (role_kind g).2.2.2.1
  rw [show rl T i = roleN (T[i]) by unfold rl; rw [tk_at T hi], tk_at T hi]
  cases hn : isName (roleN T[i]) with
  | true => simpa using hk.2 hn
  | false =>
    rw [Bool.eq_false_iff]
    intro e
    rw [hk.1 (by simpa using e)] at hn
    cases hn
section
variable {w : World} {g A c : Nat} {T : List Tok} {i : Nat} {a d : Int}
/-- is it this word? -/
theorem name_pg (hG : ToksG T) (m : Nat) (h15 : 15 ≤ m) (hm : m < 34) (s : ByteArray) (hs : s = txt (roleTexts[m]?.getD [])) (h : PgAt w g A c T i 0 a d) :
    Calls Tryz.prog 38 #[.pointer (some ⟨g, 0, none⟩), .int .i64 1, .string s] w fun e w' => e = .returned (.bool (decide (rl T i = 4 + m))) ∧ Ext w w' := by
  have hq := name_role hG h.il h15 hm
  rw [← hs] at hq
  have KI := is_ok 1 s h
  rw [hq] at KI
  exact KI
end
theorem known_txt : (⟨#[107, 110, 111, 119, 110]⟩ : ByteArray) = txt (roleTexts[15]?.getD []) := by decide
theorem unknown_txt : (⟨#[117, 110, 107, 110, 111, 119, 110]⟩ : ByteArray) = txt (roleTexts[16]?.getD []) := by decide
theorem recent_txt : (⟨#[114, 101, 99, 101, 110, 116]⟩ : ByteArray) = txt (roleTexts[17]?.getD []) := by decide
theorem first_txt : (⟨#[102, 105, 114, 115, 116]⟩ : ByteArray) = txt (roleTexts[18]?.getD []) := by decide
theorem within_txt : (⟨#[119, 105, 116, 104, 105, 110]⟩ : ByteArray) = txt (roleTexts[19]?.getD []) := by decide
theorem where_txt : (⟨#[119, 104, 101, 114, 101]⟩ : ByteArray) = txt (roleTexts[20]?.getD []) := by decide

/-- a guard as the page reads it -/
def guardQ (T : List Tok) (i : Nat) : Rs Gd :=
  if (rl T i = 19 ∨ rl T i = 20) ∧ isName (rl T (i + 1)) = true then
    match termP T 100 (i + 1) with
    | .error e => .error e
    | .ok (t, j) => .ok (⟨(rl T i : Nat) - 14, t, noTm⟩, j)
  else match termP T 100 i with
    | .error e => .error e
    | .ok (t, j) => if isOp (rl T j) then
        match termP T 100 (j + 1) with
        | .error e => .error e
        | .ok (u, m) => .ok (⟨(rl T j : Nat) - 14, t, u⟩, m)
      else .error (bad T j)
/-- .. put behind others: what the program's reader asks -/
theorem guardP_is (T : List Tok) (gs : List Gd) (i : Nat) : guardP T gs i = match guardQ T i with
    | .error e => .error e
    | .ok (x, j) => if gs.length = 4 then .error (lim T i) else .ok (gs ++ [x], j) := by
  unfold guardP guardQ opP
  by_cases h : (rl T i = 19 ∨ rl T i = 20) ∧ isName (rl T (i + 1)) = true
  · rw [if_pos h, if_pos h]
    match termP T 100 (i + 1) with
    | .error e => rfl
    | .ok (t, j) => rfl
  · rw [if_neg h, if_neg h]
    match termP T 100 i with
    | .error e => rfl
    | .ok (t, j) =>
      by_cases ho : isOp (rl T j) = true
      · simp only [if_pos ho]
        match termP T 100 (j + 1) with
        | .error e => rfl
        | .ok (u, m) => rfl
      · simp only [if_neg ho]
end Go.Proofs.YtbjghkmjnhmlfaaGreatDoor

/- The page's reader: guard, where a word begins it. -/
namespace Go.Proofs.YtbjghkmjnhmlfaaGreatDoor
open Go.RowKit

/-- nine cells of a guard -/
def GdSh (cs : List Value) : Prop := ∃ k0 k1 s2 k3 A4 l4 d4 k5 s6 k7 A8 l8 d8, cs = [.int .i64 k0, .int .i64 k1, .string s2, .int .i64 k3, .slice A4 l4 d4, .int .i64 k5, .string s6, .int .i64 k7, .slice A8 l8 d8]
theorem GdSh.len {cs : List Value} (h : GdSh cs) : cs.length = 9 := by
  obtain ⟨_, _, _, _, _, _, _, _, _, _, _, _, _, rfl⟩ := h
  rfl
theorem GdSh.one {cs : List Value} (h : GdSh cs) : ∀ v ∈ cs, v.oneCell' = true := by
  obtain ⟨_, _, _, _, _, _, _, _, _, _, _, _, _, rfl⟩ := h
  intro v hv
  simp only [List.mem_cons, List.not_mem_nil, or_false] at hv
  rcases hv with rfl | rfl | rfl | rfl | rfl | rfl | rfl | rfl | rfl <;> rfl
/-- what a guard comes to -/
def GdTo (w : World) (g A c : Nat) (T : List Tok) (a : Int) (F : Rs Gd) (e : Ending) (w' : World) : Prop := Chg (· = g) w w' ∧
  match F with
  | .ok (x, m) => ∃ p : GdPl, e = .returned (.agg (gdCells (x, p)).toArray) ∧ GdIn w' (New w w') (x, p) ∧ PgAt w' g A c T m 0 a ((0 : Nat) : Int)
  | .error (q, y) => y ≠ 0 ∧ (∃ cs, GdSh cs ∧ e = .returned (.agg cs.toArray)) ∧ ∃ i' d', PgAt w' g A c T i' y q d'

set_option maxRecDepth 100000 in
set_option maxHeartbeats 8000000 in
theorem guard_word5 {T : List Tok} (hG : ToksG T) {w : World} {g A c i : Nat} {a : Int} (h : PgAt w g A c T i 0 a ((0 : Nat) : Int)) (hr : rl T i = 19) (hn : isName (rl T (i + 1)) = true) :
    Calls Tryz.prog 39 #[.pointer (some ⟨g, 0, none⟩)] w (GdTo w g A c T a (guardQ T i)) := by
  have hgl := h.lt
  have hlo := h.low
  have hi1 : i + 1 < T.length := hG.ends.2 i (by omega)
  obtain ⟨w0, hw0⟩ : ∃ w0, w0 = w.alloc (.cells #[.int .i64 0, .int .i64 0, .string ⟨#[]⟩, .int .i64 0, .slice none 0 0, .int .i64 0, .string ⟨#[]⟩, .int .i64 0, .slice none 0 0] 95) := ⟨_, rfl⟩
  have hr0 : Box9 w0 w.heap.size zeroG := by rw [hw0]; exact Box9.new w _ _ rfl
  have hx0 : Ext w w0 := by rw [hw0]; exact (Ext.refl _).alloc _
  have h0 := h.ext hx0
  have c2 := h0.c2
  have HW0 := Lib.hid hw0
  have q1 : decide (rl T i = 4 + 15) = true := by rw [hr]; rfl
  have q2 : decide (rl T i = 4 + 16) = false := by rw [hr]; rfl
  have KI := Lib.hid (name_pg hG 15 (by omega) (by omega) _ known_txt h0)
  have KJ := Lib.hid (fun u (k : Ext w0 u) => name_pg hG 16 (by omega) (by omega) _ unknown_txt (h0.ext k))
  rw [q1] at KI
  rw [q2] at KJ
  have hk1 : T[i + 1].kind = 1 := by
    have := name_kind hG hi1
    rw [hn, tk_at T hi1] at this
    simpa using this
  have HG := Lib.hid hG
  have HN := Lib.hid (And.intro hr hn)
  have hw1 : IntKind.i64.wrap ((i : Int) + 1) = (i : Int) + 1 := by have := h.len; rw [IntKind.wrap_i64]; omega
  have hi3 : (0 : Int) ≤ (i : Int) + 1 := by omega
  have hi4 : (i : Int) + 1 < (T.length : Int) := by omega
  have hi5 : ((i : Int) + 1).toNat = i + 1 := by omega
  clear hw0 h q1 q2 hG hr hn
  go_enter Tryz.func39, Tryz.ntmps39
  go_upto_region 1 with (fail)
  rw [← HW0.out]
  go_wp2_with fail
  refine KI.out.mono ?_
  rintro e w1 ⟨rfl, hx1⟩
  have KJ2 := Lib.hid (KJ.out w1 hx1)
  have HX1 := Lib.hid hx1
  clear KI KJ hx1 c2
  go_wp2_with fail
  refine KJ2.out.mono ?_
  rintro e w2 ⟨rfl, hx2⟩
  have hx02 := HX1.out.trans hx2
  have h2 := h0.ext hx02
  have hr2 := hr0.ext hx02
  have d0 : ∀ p : ExtOf w2, p.to.cell? _ = _ := ext_cell h2.c0
  have d1 : ∀ p : ExtOf w2, p.to.cell? _ = _ := ext_cell h2.c1
  have dk : ∀ p : ExtOf w2, p.to.cell? _ = _ := ext_cell (h2.toks (i + 1) hi1).1
  rw [hk1] at dk
  have HX2 := Lib.hid (hx0.trans hx02)
  clear KJ2 hx2 HX1 hx02 h0 hr0 hx0
  go_upto_region 8 with (fail)
  refine wp_region_ext (by kernel_rfl) (by kernel_rfl) ?_
  repeat (go_big_quiet_step (fail))
  refine wpQuiet_nil ?_
  refine ext_all ?_
  intro w3 hx3
  have h3 := h2.ext hx3
  have hr3 := hr2.ext hx3
  have hx03 := HX2.out.trans hx3
  have c1 := h3.c1
  have f1 := h3.fr 1 (by omega)
  obtain ⟨w4, hw4⟩ : ∃ w4, w4 = w3.setCell ⟨g, 1, none⟩ (.int .i64 ((i + 1 : Nat) : Int)) := ⟨_, rfl⟩
  have hP4 : PgAt w4 g A c T (i + 1) 0 a ((0 : Nat) : Int) := by rw [hw4]; exact h3.to (i + 1) hi1
  have hC4 : Chg (· = g) w3 w4 := by rw [hw4]; exact chg_set (Chg.refl _ _)
  have HW4 : Hid (w3.setCell ⟨g, 1, none⟩ (.int .i64 ((i : Int) + 1)) = w4) := Lib.hid (by rw [hw4]; rfl)
  have hr4 := hr3.chg hC4 (by omega)
  have hr4l := hr3.lt
  have KP := Lib.hid (pterm_any HG.out (k := 100) (by omega) (b := 0) (by omega) hP4)
  have hCw4 : Chg (· = g) w w4 := (Chg.of_ext hx03).trans hC4
  clear hw4 h2 h3 hr2 hr3 d0 d1 dk hx3 hx03 HX2
  go_upto_region 10 with (fail)
  rw [HW4.out]
  clear c1 f1
  go_wp2_with fail
  refine KP.out.mono ?_
  intro e w5 hout
  have HO := Lib.hid hout
  obtain ⟨k', s', n', A', l', c', rfl⟩ := hout.val
  have hr5 := hr4.chg hout.1 (by omega)
  clear hr4 KP hout
  have hsh : GdSh [.int .i64 5, .int .i64 k', .string s', .int .i64 n', .slice A' l' c', .int .i64 0, .string ⟨#[]⟩, .int .i64 0, .slice none 0 0] := ⟨_, _, _, _, _, _, _, _, _, _, _, _, _, rfl⟩
  have h1 : (#[.int .i64 5, .int .i64 k', .string s', .int .i64 n', .slice A' l' c', .int .i64 0, .string ⟨#[]⟩, .int .i64 0, .slice none 0 0] : Array Value).all (·.oneCell') = true := by simpa using hsh.one
  have hi' : (Tryz.prog.info? 95).map (·.size) = some (#[.int .i64 5, .int .i64 k', .string s', .int .i64 n', .slice A' l' c', .int .i64 0, .string ⟨#[]⟩, .int .i64 0, .slice none 0 0] : Array Value).size := by show _ = some 9; kernel_rfl
  have hth : w5.there w.heap.size 0 (#[.int .i64 5, .int .i64 k', .string s', .int .i64 n', .slice A' l' c', .int .i64 0, .string ⟨#[]⟩, .int .i64 0, .slice none 0 0] : Array Value).size := hr5.thr
  go_wp2_with (refine wpList_store_mid (op := ⟨none, _, _, _, _, _⟩) rfl 95 (.tmp 2) (.tmp 44) rfl w.heap.size 0 #[.int .i64 5, .int .i64 k', .string s', .int .i64 n', .slice A' l' c', .int .i64 0, .string ⟨#[]⟩, .int .i64 0, .slice none 0 0] rfl rfl hth hi' h1 ?_)
  have hi : (Tryz.prog.info? 95).map (·.size) = some ([.int .i64 5, .int .i64 k', .string s', .int .i64 n', .slice A' l' c', .int .i64 0, .string ⟨#[]⟩, .int .i64 0, .slice none 0 0] : List Value).length := by show _ = some 9; kernel_rfl
  have hrs : (w5.setCells w.heap.size 0 [.int .i64 5, .int .i64 k', .string s', .int .i64 n', .slice A' l' c', .int .i64 0, .string ⟨#[]⟩, .int .i64 0, .slice none 0 0]).rangeAt w.heap.size 0 [.int .i64 5, .int .i64 k', .string s', .int .i64 n', .slice A' l' c', .int .i64 0, .string ⟨#[]⟩, .int .i64 0, .slice none 0 0] := World.rangeAt_setCells_same _ _ _ _ hr5.thr
  have hres := run_loadVar_mid (P := Tryz.prog) _ w.heap.size 0 95 [.int .i64 5, .int .i64 k', .string s', .int .i64 n', .slice A' l' c', .int .i64 0, .string ⟨#[]⟩, .int .i64 0, .slice none 0 0] _ hrs Tryz.underlying95 rfl hi
  refine bodyPost_ret (v := .agg #[.int .i64 5, .int .i64 k', .string s', .int .i64 n', .slice A' l' c', .int .i64 0, .string ⟨#[]⟩, .int .i64 0, .slice none 0 0]) (by simp [results, Tryz.results39, asAddr, Act.put, hres]) rfl ?_
  have hszw : w.heap.size < w4.heap.size := Nat.lt_of_lt_of_le hr4l hC4.size
  have hC5 := HO.out.1
  obtain ⟨wf, hwf⟩ : ∃ wf, wf = w5.setCells w.heap.size 0 [.int .i64 5, .int .i64 k', .string s', .int .i64 n', .slice A' l' c', .int .i64 0, .string ⟨#[]⟩, .int .i64 0, .slice none 0 0] := ⟨_, rfl⟩
  have hCf : Chg (· = w.heap.size) w5 wf := by rw [hwf]; exact setCells_chg w5 _ _ 0 w5 (Chg.refl _ _)
  rw [← hwf]
  clear hwf hrs hres hth
  have hCw5 := hCw4.trans hC5
  have hCwf : Chg (· = g) w wf := chg_new hCw5 (hCf.weak fun x hx => .inr hx) (Nat.le_refl _)
  have hbl : ∀ x, x ≠ w.heap.size → x < w5.heap.size → wf.heap[x]? = w5.heap[x]? := fun x h1 h3 => hCf.block x h3 h1
  have hszf : w5.heap.size ≤ wf.heap.size := hCf.size
  have hPk : ∀ {i' : Nat} {x q d' : Int}, PgAt w5 g A c T i' x q d' → PgAt wf g A c T i' x q d' := fun hp => hp.keep fun x hx hxe => hbl x (by rcases hxe with e | e <;> omega) hx
  have hO := HO.out
  have hGQ : guardQ T i = match termP T 100 (i + 1) with
    | .error e => .error e
    | .ok (t, j) => .ok (⟨5, t, noTm⟩, j) := by
    have e5 : ((rl T i : Nat) : Int) - 14 = 5 := by rw [HN.out.1]; rfl
    unfold guardQ
    rw [if_pos ⟨by rw [HN.out.1]; decide, HN.out.2⟩, e5]
    all_goals (cases termP T 100 (i + 1) <;> rfl)
  rw [hGQ]
  obtain ⟨F, hF⟩ : ∃ F, F = termP T 100 (i + 1) := ⟨_, rfl⟩
  rw [← hF] at hO ⊢
  match F, hO with
  | .ok (u, m), ⟨_, A2, c2, he, hT, hP⟩ =>
    have he' := he
    simp only [Ending.returned.injEq, Tm.val, Value.agg.injEq, Array.mk.injEq, List.cons.injEq, Value.int.injEq, Value.string.injEq, true_and, and_true] at he'
    obtain ⟨e1, e2, e3, e4⟩ := he'
    refine ⟨hCwf, ⟨A2, c2, none, 0⟩, by rw [e1, e2, e3, e4]; rfl, ⟨hT.keep fun b hb _ => ⟨hbl b (by have := hb.1; omega) hb.2, by have := hb.1; omega, by have := hb.2; omega⟩, TmIn.leaf 0 noTm_fits rfl⟩, hPk hP⟩
  | .error (q, x), ⟨_, hx0, _, i', d', hP⟩ =>
    exact ⟨hCwf, hx0, ⟨_, hsh, rfl⟩, i', d', hPk hP⟩
set_option maxRecDepth 100000 in
set_option maxHeartbeats 8000000 in
theorem guard_word6 {T : List Tok} (hG : ToksG T) {w : World} {g A c i : Nat} {a : Int} (h : PgAt w g A c T i 0 a ((0 : Nat) : Int)) (hr : rl T i = 20) (hn : isName (rl T (i + 1)) = true) :
    Calls Tryz.prog 39 #[.pointer (some ⟨g, 0, none⟩)] w (GdTo w g A c T a (guardQ T i)) := by
  have hgl := h.lt
  have hlo := h.low
  have hi1 : i + 1 < T.length := hG.ends.2 i (by omega)
  obtain ⟨w0, hw0⟩ : ∃ w0, w0 = w.alloc (.cells #[.int .i64 0, .int .i64 0, .string ⟨#[]⟩, .int .i64 0, .slice none 0 0, .int .i64 0, .string ⟨#[]⟩, .int .i64 0, .slice none 0 0] 95) := ⟨_, rfl⟩
  have hr0 : Box9 w0 w.heap.size zeroG := by rw [hw0]; exact Box9.new w _ _ rfl
  have hx0 : Ext w w0 := by rw [hw0]; exact (Ext.refl _).alloc _
  have h0 := h.ext hx0
  have c2 := h0.c2
  have HW0 := Lib.hid hw0
  have q1 : decide (rl T i = 4 + 15) = false := by rw [hr]; rfl
  have q2 : decide (rl T i = 4 + 16) = true := by rw [hr]; rfl
  have KI := Lib.hid (name_pg hG 15 (by omega) (by omega) _ known_txt h0)
  have KJ := Lib.hid (fun u (k : Ext w0 u) => name_pg hG 16 (by omega) (by omega) _ unknown_txt (h0.ext k))
  rw [q1] at KI
  rw [q2] at KJ
  have hk1 : T[i + 1].kind = 1 := by
    have := name_kind hG hi1
    rw [hn, tk_at T hi1] at this
    simpa using this
  have HG := Lib.hid hG
  have HN := Lib.hid (And.intro hr hn)
  have hw1 : IntKind.i64.wrap ((i : Int) + 1) = (i : Int) + 1 := by have := h.len; rw [IntKind.wrap_i64]; omega
  have hi3 : (0 : Int) ≤ (i : Int) + 1 := by omega
  have hi4 : (i : Int) + 1 < (T.length : Int) := by omega
  have hi5 : ((i : Int) + 1).toNat = i + 1 := by omega
  clear hw0 h q1 q2 hG hr hn
  go_enter Tryz.func39, Tryz.ntmps39
  go_upto_region 1 with (fail)
  rw [← HW0.out]
  go_wp2_with fail
  refine KI.out.mono ?_
  rintro e w1 ⟨rfl, hx1⟩
  have KJ2 := Lib.hid (KJ.out w1 hx1)
  have HX1 := Lib.hid hx1
  clear KI KJ hx1 c2
  go_wp2_with fail
  refine KJ2.out.mono ?_
  rintro e w2 ⟨rfl, hx2⟩
  have hx02 := HX1.out.trans hx2
  have h2 := h0.ext hx02
  have hr2 := hr0.ext hx02
  have d0 : ∀ p : ExtOf w2, p.to.cell? _ = _ := ext_cell h2.c0
  have d1 : ∀ p : ExtOf w2, p.to.cell? _ = _ := ext_cell h2.c1
  have dk : ∀ p : ExtOf w2, p.to.cell? _ = _ := ext_cell (h2.toks (i + 1) hi1).1
  rw [hk1] at dk
  have HX2 := Lib.hid (hx0.trans hx02)
  clear KJ2 hx2 HX1 hx02 h0 hr0 hx0
  go_upto_region 8 with (fail)
  refine wp_region_ext (by kernel_rfl) (by kernel_rfl) ?_
  repeat (go_big_quiet_step (fail))
  refine wpQuiet_nil ?_
  refine ext_all ?_
  intro w3 hx3
  have h3 := h2.ext hx3
  have hr3 := hr2.ext hx3
  have hx03 := HX2.out.trans hx3
  have c1 := h3.c1
  have f1 := h3.fr 1 (by omega)
  obtain ⟨w4, hw4⟩ : ∃ w4, w4 = w3.setCell ⟨g, 1, none⟩ (.int .i64 ((i + 1 : Nat) : Int)) := ⟨_, rfl⟩
  have hP4 : PgAt w4 g A c T (i + 1) 0 a ((0 : Nat) : Int) := by rw [hw4]; exact h3.to (i + 1) hi1
  have hC4 : Chg (· = g) w3 w4 := by rw [hw4]; exact chg_set (Chg.refl _ _)
  have HW4 : Hid (w3.setCell ⟨g, 1, none⟩ (.int .i64 ((i : Int) + 1)) = w4) := Lib.hid (by rw [hw4]; rfl)
  have hr4 := hr3.chg hC4 (by omega)
  have hr4l := hr3.lt
  have KP := Lib.hid (pterm_any HG.out (k := 100) (by omega) (b := 0) (by omega) hP4)
  have hCw4 : Chg (· = g) w w4 := (Chg.of_ext hx03).trans hC4
  clear hw4 h2 h3 hr2 hr3 d0 d1 dk hx3 hx03 HX2
  go_upto_region 10 with (fail)
  rw [HW4.out]
  clear c1 f1
  go_wp2_with fail
  refine KP.out.mono ?_
  intro e w5 hout
  have HO := Lib.hid hout
  obtain ⟨k', s', n', A', l', c', rfl⟩ := hout.val
  have hr5 := hr4.chg hout.1 (by omega)
  clear hr4 KP hout
  have hsh : GdSh [.int .i64 6, .int .i64 k', .string s', .int .i64 n', .slice A' l' c', .int .i64 0, .string ⟨#[]⟩, .int .i64 0, .slice none 0 0] := ⟨_, _, _, _, _, _, _, _, _, _, _, _, _, rfl⟩
  have h1 : (#[.int .i64 6, .int .i64 k', .string s', .int .i64 n', .slice A' l' c', .int .i64 0, .string ⟨#[]⟩, .int .i64 0, .slice none 0 0] : Array Value).all (·.oneCell') = true := by simpa using hsh.one
  have hi' : (Tryz.prog.info? 95).map (·.size) = some (#[.int .i64 6, .int .i64 k', .string s', .int .i64 n', .slice A' l' c', .int .i64 0, .string ⟨#[]⟩, .int .i64 0, .slice none 0 0] : Array Value).size := by show _ = some 9; kernel_rfl
  have hth : w5.there w.heap.size 0 (#[.int .i64 6, .int .i64 k', .string s', .int .i64 n', .slice A' l' c', .int .i64 0, .string ⟨#[]⟩, .int .i64 0, .slice none 0 0] : Array Value).size := hr5.thr
  go_wp2_with (refine wpList_store_mid (op := ⟨none, _, _, _, _, _⟩) rfl 95 (.tmp 2) (.tmp 44) rfl w.heap.size 0 #[.int .i64 6, .int .i64 k', .string s', .int .i64 n', .slice A' l' c', .int .i64 0, .string ⟨#[]⟩, .int .i64 0, .slice none 0 0] rfl rfl hth hi' h1 ?_)
  have hi : (Tryz.prog.info? 95).map (·.size) = some ([.int .i64 6, .int .i64 k', .string s', .int .i64 n', .slice A' l' c', .int .i64 0, .string ⟨#[]⟩, .int .i64 0, .slice none 0 0] : List Value).length := by show _ = some 9; kernel_rfl
  have hrs : (w5.setCells w.heap.size 0 [.int .i64 6, .int .i64 k', .string s', .int .i64 n', .slice A' l' c', .int .i64 0, .string ⟨#[]⟩, .int .i64 0, .slice none 0 0]).rangeAt w.heap.size 0 [.int .i64 6, .int .i64 k', .string s', .int .i64 n', .slice A' l' c', .int .i64 0, .string ⟨#[]⟩, .int .i64 0, .slice none 0 0] := World.rangeAt_setCells_same _ _ _ _ hr5.thr
  have hres := run_loadVar_mid (P := Tryz.prog) _ w.heap.size 0 95 [.int .i64 6, .int .i64 k', .string s', .int .i64 n', .slice A' l' c', .int .i64 0, .string ⟨#[]⟩, .int .i64 0, .slice none 0 0] _ hrs Tryz.underlying95 rfl hi
  refine bodyPost_ret (v := .agg #[.int .i64 6, .int .i64 k', .string s', .int .i64 n', .slice A' l' c', .int .i64 0, .string ⟨#[]⟩, .int .i64 0, .slice none 0 0]) (by simp [results, Tryz.results39, asAddr, Act.put, hres]) rfl ?_
  have hszw : w.heap.size < w4.heap.size := Nat.lt_of_lt_of_le hr4l hC4.size
  have hC5 := HO.out.1
  obtain ⟨wf, hwf⟩ : ∃ wf, wf = w5.setCells w.heap.size 0 [.int .i64 6, .int .i64 k', .string s', .int .i64 n', .slice A' l' c', .int .i64 0, .string ⟨#[]⟩, .int .i64 0, .slice none 0 0] := ⟨_, rfl⟩
  have hCf : Chg (· = w.heap.size) w5 wf := by rw [hwf]; exact setCells_chg w5 _ _ 0 w5 (Chg.refl _ _)
  rw [← hwf]
  clear hwf hrs hres hth
  have hCw5 := hCw4.trans hC5
  have hCwf : Chg (· = g) w wf := chg_new hCw5 (hCf.weak fun x hx => .inr hx) (Nat.le_refl _)
  have hbl : ∀ x, x ≠ w.heap.size → x < w5.heap.size → wf.heap[x]? = w5.heap[x]? := fun x h1 h3 => hCf.block x h3 h1
  have hszf : w5.heap.size ≤ wf.heap.size := hCf.size
  have hPk : ∀ {i' : Nat} {x q d' : Int}, PgAt w5 g A c T i' x q d' → PgAt wf g A c T i' x q d' := fun hp => hp.keep fun x hx hxe => hbl x (by rcases hxe with e | e <;> omega) hx
  have hO := HO.out
  have hGQ : guardQ T i = match termP T 100 (i + 1) with
    | .error e => .error e
    | .ok (t, j) => .ok (⟨6, t, noTm⟩, j) := by
    have e5 : ((rl T i : Nat) : Int) - 14 = 6 := by rw [HN.out.1]; rfl
    unfold guardQ
    rw [if_pos ⟨by rw [HN.out.1]; decide, HN.out.2⟩, e5]
    all_goals (cases termP T 100 (i + 1) <;> rfl)
  rw [hGQ]
  obtain ⟨F, hF⟩ : ∃ F, F = termP T 100 (i + 1) := ⟨_, rfl⟩
  rw [← hF] at hO ⊢
  match F, hO with
  | .ok (u, m), ⟨_, A2, c2, he, hT, hP⟩ =>
    have he' := he
    simp only [Ending.returned.injEq, Tm.val, Value.agg.injEq, Array.mk.injEq, List.cons.injEq, Value.int.injEq, Value.string.injEq, true_and, and_true] at he'
    obtain ⟨e1, e2, e3, e4⟩ := he'
    refine ⟨hCwf, ⟨A2, c2, none, 0⟩, by rw [e1, e2, e3, e4]; rfl, ⟨hT.keep fun b hb _ => ⟨hbl b (by have := hb.1; omega) hb.2, by have := hb.1; omega, by have := hb.2; omega⟩, TmIn.leaf 0 noTm_fits rfl⟩, hPk hP⟩
  | .error (q, x), ⟨_, hx0, _, i', d', hP⟩ =>
    exact ⟨hCwf, hx0, ⟨_, hsh, rfl⟩, i', d', hPk hP⟩
end Go.Proofs.YtbjghkmjnhmlfaaGreatDoor
