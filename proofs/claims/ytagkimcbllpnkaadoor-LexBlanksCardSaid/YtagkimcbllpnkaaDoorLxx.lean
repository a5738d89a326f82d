/- Package lex: Tokens: the walk. -/
import Derived.Test.YtagkimcbllpnkaaDoorLxv
import Derived.Deep.AppendLies
namespace Go.Proofs.YtagkimcbllpnkaaDoor
open Go.RowKit Go.Maps

theorem heap_size_alloc (w : World) (o : Obj) : (w.alloc o).heap.size = w.heap.size + 1 := by simp

/-- what a call of Tokens leaves: the words in a row of its own, where the first fault is, and which -/
def LexOut (w : World) (ts : List Tok) (a x : Int) (e : Ending) (w' : World) : Prop :=
  ∃ v base, e = .returned (.tuple #[v, .int .i64 a, .int .i64 x]) ∧ w'.ownsRow base 37 4 v ts.length (tokCells ts) ∧ w.heap.size ≤ base ∧ Ext w w'

set_option maxRecDepth 100000 in
set_option maxHeartbeats 1000000 in
theorem Tokens_any (s : ByteArray) (w : World) (hC : ClsAt w) (hz : w.heap.size ≠ 0) (hS : s.size ≤ 140737488351232) :
    Calls Tryd.prog 7 #[.string s] w (LexOut w (lexT s) (lexA s) (lexE s)) := by
  obtain ⟨i0, hi0, hz0, hz1, hz2⟩ := info_parts infoTok
  by_cases hs : s.size ≤ 4000
  · have hl0 : decide ((4000 : Int) < (s.size : Int)) = false := decide_eq_false (by omega)
    have HR : Hid (lexT s = (match toksL s.size (lft s 0) with | .inl _ => [] | .inr ts => ts) ∧ lexA s = (match toksL s.size (lft s 0) with | .inl (a, _) => a | .inr _ => 0) ∧ lexE s = (match toksL s.size (lft s 0) with | .inl (_, e) => e | .inr _ => 0)) := Lib.hid (by
      unfold lexT lexA lexE lft
      rw [if_neg (by omega), if_neg (by omega), if_neg (by omega), List.drop_zero]
      exact ⟨rfl, rfl, rfl⟩)
    go_enter Tryd.func7, Tryd.ntmps7
    go_wp2_with fail
    refine (marks_any _).mono ?_
    rintro e w1 ⟨b, rfl, hM1, hb, hx1⟩
    go_wp2_with fail
    obtain ⟨g, hg⟩ : ∃ g, g = w1.heap.size := ⟨_, rfl⟩
    obtain ⟨w2, hw2⟩ : ∃ w2, w2 = w1.alloc (.cells #[.string s, .int .i64 0, .map (some b)] 42) := ⟨_, rfl⟩
    rw [← hw2, ← hg]
    have hx2 : Ext w w2 := by rw [hw2]; exact hx1.alloc _
    have hgz : g ≠ 0 := by have := hx1.size; omega
    have HC2 : CurAt w2 g s 0 b := by rw [hw2, hg]; exact ⟨by go_simp, by go_simp, by go_simp, by go_simp, by rw [← hg]; exact hgz⟩
    have hM2 : MkSet w2 b mksL := by rw [hw2]; exact hM1.ext ((Ext.refl _).alloc _)
    have HCg := Lib.hid HC2.c0
    have hgl : g < w2.heap.size := by rw [hw2, hg]; simp
    have hwg : w.heap.size ≤ g := by have := hx1.size; omega
    have hK2 := hC.ext hx2
    clear hw2 hg hM1 hb
    refine (pass_any g s 0 b w2 hK2 HC2 (by omega) hs).mono ?_
    rintro e w3 ⟨rfl, j0, _, hj0, hl3, HC3, hx3⟩
    have hP0 : Hid (lft s j0 = passL false (lft s 0)) := Lib.hid hl3
    clear hl3 HC2
    have HJ0 : Hid (joinT [] (toksL s.size (lft s j0)) = toksL s.size (lft s 0)) := Lib.hid (by
      rw [hP0.out, toksL_pass]; unfold joinT; cases toksL s.size (lft s 0) <;> rfl)
    have HP0 : Hid (passL false (lft s j0) = lft s j0) := Lib.hid (by rw [hP0.out]; exact passL_twice _ _)
    clear hP0
    go_wp2_with fail
    go_loopg [2] (s.size - j0) (fun n v wr => ∃ j ts, j + n = s.size ∧ Hid (joinT ts (toksL s.size (lft s j)) = toksL s.size (lft s 0)) ∧ Hid (passL false (lft s j) = lft s j) ∧ Hid (ts.length ≤ j) ∧ wr.ownsRow w2.heap.size 37 4 v ts.length (tokCells ts) ∧ Hid (CurAt wr g s j b) ∧ Chg (· = g) w2 wr)
    case atStart => exact ⟨j0, [], by omega, HJ0, HP0, Lib.hid (Nat.zero_le _), World.ownsRow_nil _ _ _ _, Lib.hid HC3, hx3⟩
    case round =>
      obtain ⟨j, ts, hj, HJ, HP, HL, hown, HCr, hxr⟩ := hrel
      have c1 := HCr.out.c1
      by_cases hlt : j < s.size
      · have hl : decide ((j : Int) < (s.size : Int)) = true := decide_eq_true (by omega)
        have HK := Lib.hid (hK2.chg hxr hgz)
        have HM := Lib.hid (hM2.keep (hxr.block b hM2.lt (fun e => hM2.noCell (HCg.out) (by simpa using e.symm))))
        cases hR : tokenR s j with
        | inl x =>
          obtain ⟨hT, hx24⟩ := toks_bad hlt HP.out hR HJ.out
          have HF : Hid (lexT s = [] ∧ lexA s = (j : Int) ∧ lexE s = x) := Lib.hid (by rw [HR.out.1, HR.out.2.1, HR.out.2.2, hT]; exact ⟨rfl, rfl, rfl⟩)
          have hn0 : (x == 0) = false := by rcases hx24 with rfl | rfl <;> rfl
          have hn1 : (x != 0) = true := by rcases hx24 with rfl | rfl <;> rfl
          have KT := Lib.hid (token_any g s j b wr HK.out HCr.out HM.out hlt hs)
          rw [hR] at KT
          clear hT hx24 hR HJ HP HL HR hown
          go_wp2_with fail
          refine KT.out.mono ?_
          rintro e w4 ⟨hx4, rfl⟩
          have hxw : Ext w w4 := Chg.ext_of hx2 (hxr.trans hx4) (fun b hb => by omega)
          clear KT
          go_wp2_with fail
          go_ret3
          refine ⟨.slice none 0 0, w.heap.size, by rw [HF.out.2.1, HF.out.2.2]; rfl, by rw [HF.out.1]; exact World.ownsRow_nil _ _ _ _, Nat.le_refl _, hxw.alloc _⟩
        | inr p =>
          obtain ⟨t, j'⟩ := p
          have KT := Lib.hid (token_any g s j b wr HK.out HCr.out HM.out hlt hs)
          rw [hR] at KT
          have HG := Lib.hid (fun i hi => toks_go (i := i) hlt HP.out hR hi HJ.out)
          have hj1 : j < j' ∧ j' ≤ s.size := by have := token_same hlt; rw [hR] at this; exact ⟨this.1, this.2.1⟩
          obtain ⟨hj1, hj2⟩ := hj1
          clear hR HJ HP HR
          go_wp2_with fail
          refine KT.out.mono ?_
          rintro e w4 ⟨hx4, rfl, hC4⟩
          have hx24 := hxr.trans hx4
          have hown4 := ownsRow_chg hown hx4 hgl
          have HC4 := Lib.hid hC4
          have hw24 : w2.heap.size ≤ w4.heap.size := hx24.size
          clear KT hown hC4
          go_wp2_with (at_builtin; refine wpList_append_own_at _ rfl _ _ 26 rfl w2.heap.size 37 i0 _ 4 40 Tryd.underlying26 hi0 hz0 hz1 hz2 rfl (by decide) _ ts.length (tokCells ts) rfl ((ownsRow_ext hown4 ((Ext.refl _).alloc _)).alloc _) ⟨w4.heap.size + 1, 0, none⟩ 1 1 (Tok.cells { t with at_ := (j : Int) }) rfl rfl ?c1 ?c2 ?c3 ?c4 ?c5 ?_)
          case c1 => exact World.news_of_block (cs := #[.int .i64 t.kind, .string t.text, .int .i64 t.n, .int .i64 (j : Int)]) (t := 37) (fr := (0, 0)) (by have := heap_alloc_new (w4.alloc (.cells #[.int .i64 t.kind, .string t.text, .int .i64 t.n, .int .i64 (j : Int)] 37)) (.cells #[.int .i64 t.kind, .string t.text, .int .i64 t.n, .int .i64 (j : Int)] 37); rw [heap_size_alloc w4] at this; exact this)
          case c2 => exact Tok.one _
          case c3 => simp only [maxLen]; have := HL.out; omega
          case c4 => have := HL.out; omega
          case c5 => simp; omega
          intro v' w5 hown5 hgrow _ hat
          rw [← tokCells_snoc] at hown5
          have hxx : Ext w4 ((w4.alloc (.cells #[.int .i64 t.kind, .string t.text, .int .i64 t.n, .int .i64 (j : Int)] 37)).alloc (.cells #[.int .i64 t.kind, .string t.text, .int .i64 t.n, .int .i64 (j : Int)] 37)) := ((Ext.refl w4).alloc _).alloc _
          have hx25 : Chg (· = g) w2 w5 := Chg.own (hx24.trans (Chg.of_ext hxx)) (ownsRow_ext hown4 hxx) (Nat.le_refl _) hgrow
          have HC5 : Hid (CurAt w5 g s j' b) := Lib.hid ((HC4.out.ext hxx).same (hgrow.block g (by have := hxx.size; omega) (fun e => by have := (hown4.lt g e.symm).1; omega)))
          have HL5 : Hid ((ts ++ [{ t with at_ := (j : Int) }]).length ≤ j') := Lib.hid (by have := HL.out; simp; omega)
          have hown5' : w5.ownsRow w2.heap.size 37 4 v' (ts ++ [{ t with at_ := (j : Int) }]).length (tokCells (ts ++ [{ t with at_ := (j : Int) }])) := by rw [List.length_append]; exact hown5
          have HK5 := Lib.hid (hK2.chg hx25 hgz)
          generalize (ts ++ [{ t with at_ := (j : Int) }]) = ts5 at hown5' HL5 HG
          clear hat hgrow hown4 hown5 hxx HL
          go_wp2_with fail
          refine (pass_any g s j' b w5 HK5.out HC5.out hj2 hs).mono ?_
          rintro e w6 ⟨rfl, j6, hj6, hj6', hl6, HC6, hx6⟩
          obtain ⟨HJ6, _, _, HP6⟩ := HG.out j6 hl6
          have HJ6 := Lib.hid HJ6
          have HP6 := Lib.hid HP6
          have HL6 : Hid (ts5.length ≤ j6) := Lib.hid (by have := HL5.out; omega)
          have hown6 := ownsRow_chg hown5' hx6 hgl
          clear hl6 hown5'
          go_wp2_with fail
          go_roundg (s.size - j6)
          case rel => exact ⟨j6, ts5, by omega, HJ6, HP6, HL6, hown6, Lib.hid HC6, hx25.trans hx6⟩
          case measure => omega
      · have hl : decide ((j : Int) < (s.size : Int)) = false := decide_eq_false (by omega)
        have hT := toks_end (by omega) HJ.out
        have HF : Hid (lexT s = ts ++ [⟨5, ⟨#[]⟩, 0, (s.size : Nat)⟩] ∧ lexA s = 0 ∧ lexE s = 0) := Lib.hid (by rw [HR.out.1, HR.out.2.1, HR.out.2.2, hT]; exact ⟨rfl, rfl, rfl⟩)
        have hw2r : w2.heap.size ≤ wr.heap.size := hxr.size
        clear hT HJ HP HR
        go_wp2_with (at_builtin; refine wpList_append_own_at _ rfl _ _ 26 rfl w2.heap.size 37 i0 _ 4 40 Tryd.underlying26 hi0 hz0 hz1 hz2 rfl (by decide) _ ts.length (tokCells ts) rfl (ownsRow_ext hown ((Ext.refl _).alloc _)) ⟨wr.heap.size, 0, none⟩ 1 1 (Tok.cells ⟨5, ⟨#[]⟩, 0, (s.size : Nat)⟩) rfl rfl ?c1 ?c2 ?c3 ?c4 ?c5 ?_)
        case c1 => exact World.news_of_block (cs := #[.int .i64 5, .string ⟨#[]⟩, .int .i64 0, .int .i64 (s.size : Nat)]) (t := 37) (fr := (0, 0)) (heap_alloc_new _ _)
        case c2 => exact Tok.one _
        case c3 => simp only [maxLen]; have := HL.out; omega
        case c4 => have := HL.out; omega
        case c5 => simp; omega
        intro v' w5 hown5 hgrow _ hat
        rw [← tokCells_snoc] at hown5
        have hxx : Ext wr (wr.alloc (.cells #[.int .i64 5, .string ⟨#[]⟩, .int .i64 0, .int .i64 (s.size : Nat)] 37)) := (Ext.refl wr).alloc _
        have hx25 : Chg (· = g) w2 w5 := Chg.own (hxr.trans (Chg.of_ext hxx)) (ownsRow_ext hown hxx) (Nat.le_refl _) hgrow
        have hxw : Ext w w5 := Chg.ext_of hx2 hx25 (fun b hb => by omega)
        clear hat hgrow hown hxx HL
        go_wp2_with fail
        go_ret3
        exact ⟨v', w2.heap.size, by rw [HF.out.2.1, HF.out.2.2]; rfl, by rw [HF.out.1, List.length_append]; exact hown5, hx2.size, hxw⟩
  · have hl0 : decide ((4000 : Int) < (s.size : Int)) = true := decide_eq_true (by omega)
    have HF : Hid (lexT s = [] ∧ lexA s = 0 ∧ lexE s = 2) := Lib.hid (by unfold lexT lexA lexE; rw [if_pos (by omega), if_pos (by omega), if_pos (by omega)]; exact ⟨rfl, rfl, rfl⟩)
    go_enter Tryd.func7, Tryd.ntmps7
    go_wp2_with fail
    go_ret3
    exact ⟨.slice none 0 0, w.heap.size, by rw [HF.out.2.1, HF.out.2.2]; rfl, by rw [HF.out.1]; exact World.ownsRow_nil _ _ _ _, Nat.le_refl _, Ext.refl _⟩
end Go.Proofs.YtagkimcbllpnkaaDoor
