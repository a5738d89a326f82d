/- The walk of the document's own order: almagestref1.Order. -/
import Derived.Test.YtkdhpifjljkpfaaGreatRc
import Derived.StillTailTactics
namespace Go.Proofs.YtkdhpifjljkpfaaGreat
open Go.RowKit

set_option maxRecDepth 100000 in
set_option maxHeartbeats 4000000 in
theorem rOrder_any (hh : Nat) : ∀ (a b : Tm) (A B : Option Addr) (c d : Nat) (w : World), a.high ≤ hh → TmAt w a A c → TmAt w b B d →
    Calls Tryz.prog 80 #[a.val A c, b.val B d] w fun e w' => e = .returned (.int .i64 (ordR a b)) ∧ Ext w w' := by
  induction hh with
  | zero => intro a b A B c d w h; have := high_pos a; omega
  | succ hh ih =>
    intro a b A B c d w h0 ha hb
    have IH := Lib.hid ih
    clear ih
    have la := ha.fits.args
    have lb := hb.fits.args
    have E := Lib.hid (ordR_eq a b)
    have hx0 := ((Ext.refl w).alloc (.cells #[.int .i64 a.kind, .string a.name, .int .i64 a.n, .slice A a.args.length c] 40)).alloc (.cells #[.int .i64 b.kind, .string b.name, .int .i64 b.n, .slice B b.args.length d] 40)
    by_cases h1 : (a.kind != b.kind) = true
    · have E1 := Lib.hid (E.out.trans (if_pos h1))
      clear E
      go_enter Tryz.func80, Tryz.ntmps80
      go_wp2_with (go_at_call 98; refine (sign_any _ _ _).mono ?_; rintro e w' ⟨rfl, rfl⟩)
      go_ret
      exact ⟨ret_int E1.out.symm, hx0⟩
    · have E1 := Lib.hid (E.out.trans (if_neg h1))
      have h1' := not_true h1
      clear E h1
      by_cases h2 : (a.kind == 1) = true
      · have E2 := Lib.hid (E1.out.trans (if_pos h2))
        clear E1
        go_enter Tryz.func80, Tryz.ntmps80
        go_wp2_with (go_at_call 99; refine (text_any _ _ _).mono ?_; rintro e w' ⟨rfl, rfl⟩)
        go_ret
        exact ⟨ret_int E2.out.symm, hx0⟩
      · have E2 := Lib.hid (E1.out.trans (if_neg h2))
        have h2' := not_true h2
        clear E1 h2
        by_cases h3 : (a.kind == 2) = true
        · have E3 := Lib.hid (E2.out.trans (if_pos h3))
          clear E2
          go_enter Tryz.func80, Tryz.ntmps80
          go_wp2_with (go_at_call 98; refine (sign_any _ _ _).mono ?_; rintro e w' ⟨rfl, rfl⟩)
          go_ret
          exact ⟨ret_int E3.out.symm, hx0⟩
        · have E3 := Lib.hid (E2.out.trans (if_neg h3))
          have h3' := not_true h3
          clear E2 h3
          have hlen : Hid ((if (sgn a.args.length b.args.length == 0) = true then textC a.name b.name else sgn a.args.length b.args.length) = 0 → a.args.length = b.args.length) := Lib.hid (by
            intro e
            by_cases hz : sgn a.args.length b.args.length = 0
            · have := sgn_zero.1 hz; omega
            · rw [if_neg (by simp [hz])] at e; exact absurd e hz)
          by_cases h4 : (sgn a.args.length b.args.length == 0) = true
          all_goals
            first
              | rw [if_pos h4] at hlen E3
              | (have h4' := not_true h4; rw [if_neg h4] at hlen E3; clear h4)
            go_enter Tryz.func80, Tryz.ntmps80
            go_wp2_with (first
              | (go_at_call 98; refine (sign_any _ _ _).mono ?_; rintro e w' ⟨rfl, rfl⟩)
              | (go_at_call 99; refine (text_any _ _ _).mono ?_; rintro e w' ⟨rfl, rfl⟩))
            go_loopw [5, 6] (fun m i wr => ∃ (k : Nat) (n : Int), k ≤ a.args.length ∧ i = .int .i64 k ∧ m = .int .i64 n ∧ Hid (ordRL (a.args.drop k) (b.args.drop k) n = ordR a b) ∧ Hid (n = 0 → a.args.length = b.args.length) ∧
              Ext ((boxT w a A c).alloc (.cells #[.int .i64 b.kind, .string b.name, .int .i64 b.n, .slice B b.args.length d] 40)) wr) (fun _ i _ => a.args.length - (intOf i).toNat)
            case atStart => exact ⟨0, _, Nat.zero_le _, rfl, rfl, Lib.hid (by rw [List.drop_zero, List.drop_zero]; exact E3.out.symm), hlen, Ext.refl _⟩
            case round =>
              obtain ⟨k, n, hk, rfl, rfl, H, HL, hx⟩ := hrel
              have hbox : wr.cell? ⟨w.heap.size, 3, none⟩ = some (.slice A a.args.length c) := hx.cell (by go_simp)
              have hbox2 : wr.cell? ⟨w.heap.size + 1, 3, none⟩ = some (.slice B b.args.length d) := hx.cell (by go_simp)
              have hxw : Ext w wr := hx0.trans hx
              by_cases hlt : k < a.args.length
              · by_cases hn : (n == 0) = true
                · have hlb : a.args.length = b.args.length := HL.out (by simpa using hn)
                  have hlt2 : k < b.args.length := by omega
                  have HLB := Lib.hid hlb
                  clear hlb HL
                  obtain ⟨b1, o1, C1, e1, rfl, c0, c1, c2, c3, hsub⟩ := (ha.ext hxw).args.at_ hlt
                  obtain ⟨b2, o2, C2, e2, rfl, d0, d1, d2, d3, hsub2⟩ := (hb.ext hxw).args.at_ hlt2
                  have H2 : Hid (ordRL (a.args.drop (k + 1)) (b.args.drop (k + 1)) (ordR a.args[k] b.args[k]) = ordR a b) := by
                    have := H.out
                    rw [List.drop_eq_getElem_cons hlt, List.drop_eq_getElem_cons hlt2, ordRL, if_pos hn] at this
                    exact Lib.hid this
                  have hb1 := high_lt hlt
                  have i0 : (0 : Int) ≤ (k : Int) := Int.natCast_nonneg _
                  have i1 : (k : Int) < (a.args.length : Int) := by omega
                  have i2 : (k : Int) < (b.args.length : Int) := by omega
                  clear H E3 hlen
                  go_wp2_with fail
                  go_still_tail 10, (by kernel_rfl)
                  change wpList _ _ _ _ _ wr.drew
                  go_wp2_with fail
                  refine (IH.out _ _ _ _ _ _ _ (by omega) (hsub.ext (Ext.refl _).drew) (hsub2.ext (Ext.refl _).drew)).mono ?_
                  rintro e w1 ⟨rfl, hx1⟩
                  go_wp2_with fail
                  go_roundw
                  case rel => exact ⟨k + 1, _, by omega, by go_num, rfl, H2, Lib.hid (fun _ => HLB.out), hx.trans ((Ext.refl _).drew.trans hx1)⟩
                  case measure => simp [intOf]; omega
                · have hn' := not_true hn
                  have H2 : Hid (n = ordR a b) := Lib.hid (by have := H.out; rwa [ordRL_ne _ _ _ (by simpa using hn)] at this)
                  clear H hn
                  go_wp2_with fail
                  go_ret
                  exact ⟨ret_int H2.out, hxw⟩
              · have H2 : Hid (n = ordR a b) := Lib.hid (by have := H.out; rwa [show a.args.drop k = [] from List.drop_eq_nil_of_le (by omega), ordRL] at this)
                go_wp2_with fail
                go_ret
                exact ⟨ret_int H2.out, hxw⟩
end Go.Proofs.YtkdhpifjljkpfaaGreat
