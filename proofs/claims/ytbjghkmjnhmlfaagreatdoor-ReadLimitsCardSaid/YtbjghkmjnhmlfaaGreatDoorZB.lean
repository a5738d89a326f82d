/- Joined: Phm, Phn. -/
import Derived.Test.YtbjghkmjnhmlfaaGreatDoorZA

/- The page's reader: op. -/
namespace Go.Proofs.YtbjghkmjnhmlfaaGreatDoor
open Go.RowKit

def opT (k : Nat) : ByteArray := txt (roleTexts[11 + k]?.getD [])
def OpIs (s : ByteArray) (R : Int) : Prop := (R = 0 ∧ ∀ k, k < 4 → opT k ≠ s) ∨ ∃ k, k < 4 ∧ opT k = s ∧ R = (k : Int) + 1
theorem txt_ne {s t : ByteArray} (h : ¬ s = t) : (s.toList == t.toList) = false ∧ (s.data.toList == t.data.toList) = false ∧ decide (s.data.toList = t.data.toList) = false := by
  have hne : s.data.toList ≠ t.data.toList := fun e => h (ba_ext e)
  exact ⟨by rw [Lib.toList_data, Lib.toList_data, beq_eq_false_iff_ne]; exact hne, by rw [beq_eq_false_iff_ne]; exact hne, decide_eq_false hne⟩
set_option maxRecDepth 100000 in
set_option maxHeartbeats 1000000 in
theorem op_any (s : ByteArray) (w : World) : Calls Tryz.prog 66 #[.string s] w fun e w' => ∃ R, e = .returned (.int .i64 R) ∧ OpIs s R ∧ Ext w w' := by
  by_cases h0 : s = ⟨#[60]⟩
  · subst h0
    go_enter Tryz.func66, Tryz.ntmps66
    go_wp2_with fail
    go_ret
    exact ⟨1, rfl, .inr ⟨0, by omega, by decide, by omega⟩, Ext.refl _⟩
  · have n0 : (s.toList == [60]) = false := by rw [Lib.toList_data]; exact (txt_ne h0).2.1
    by_cases h1 : s = ⟨#[61, 60]⟩
    · subst h1
      clear n0 h0
      go_enter Tryz.func66, Tryz.ntmps66
      go_wp2_with fail
      go_ret
      exact ⟨2, rfl, .inr ⟨1, by omega, by decide, by omega⟩, Ext.refl _⟩
    · have n1 : (s.toList == [61, 60]) = false := by rw [Lib.toList_data]; exact (txt_ne h1).2.1
      by_cases h2 : s = ⟨#[61]⟩
      · subst h2
        clear n0 n1 h0 h1
        go_enter Tryz.func66, Tryz.ntmps66
        go_wp2_with fail
        go_ret
        exact ⟨3, rfl, .inr ⟨2, by omega, by decide, by omega⟩, Ext.refl _⟩
      · have n2 : (s.toList == [61]) = false := by rw [Lib.toList_data]; exact (txt_ne h2).2.1
        by_cases h3 : s = ⟨#[92, 61]⟩
        · subst h3
          clear n0 n1 n2 h0 h1 h2
          go_enter Tryz.func66, Tryz.ntmps66
          go_wp2_with fail
          go_ret
          exact ⟨4, rfl, .inr ⟨3, by omega, by decide, by omega⟩, Ext.refl _⟩
        · have n3 : (s.toList == [92, 61]) = false := by rw [Lib.toList_data]; exact (txt_ne h3).2.1
          have HN : Hid (∀ k, k < 4 → opT k ≠ s) := Lib.hid (fun k hk => by
            match k, hk with
            | 0, _ => exact fun e => h0 (e.symm.trans (by decide))
            | 1, _ => exact fun e => h1 (e.symm.trans (by decide))
            | 2, _ => exact fun e => h2 (e.symm.trans (by decide))
            | 3, _ => exact fun e => h3 (e.symm.trans (by decide)))
          clear h0 h1 h2 h3
          go_enter Tryz.func66, Tryz.ntmps66
          go_wp2_with fail
          go_ret
          exact ⟨0, rfl, .inl ⟨rfl, HN.out⟩, Ext.refl _⟩
/-- what the page asks of a comparison's mark -/
theorem op_role {T : List Tok} (hG : ToksG T) {i : Nat} (hi : i < T.length) {R : Int} (h : OpIs (tk T i).text R) : (isOp (rl T i) = true → (tk T i).kind = 4 ∧ R = (rl T i : Int) - 14 ∧ R ≠ 0) ∧ (isOp (rl T i) = false → (tk T i).kind ≠ 4 ∨ R = 0) := by
  have rt : ∀ k, k < 4 → (tk T i).kind = 4 → (opT k = (tk T i).text ↔ rl T i = 15 + k) := fun k hk4 h1 => by
    have hm := mark_role' hG hi (m := 11 + k) (by omega) (s := opT k) rfl (b := decide (rl T i = 4 + (11 + k))) rfl
    rw [h1] at hm
    rw [show 15 + k = 4 + (11 + k) by omega]
    have hm' : decide ((tk T i).text.data.toList = (opT k).data.toList) = decide (rl T i = 4 + (11 + k)) := by simpa using hm
    refine ⟨fun e => ?_, fun e => ?_⟩
    · rw [e, decide_eq_true rfl] at hm'
      exact of_decide_eq_true hm'.symm
    · rw [decide_eq_true e] at hm'
      exact (ba_ext (of_decide_eq_true hm')).symm
  have mk : ∀ k, k < 4 → rl T i = 15 + k → (tk T i).kind = 4 := fun k hk4 e => by
    have hm := mark_role' hG hi (m := 11 + k) (by omega) (s := opT k) rfl (b := true) (decide_eq_true (by omega))
    simp only [Bool.and_eq_true, beq_iff_eq] at hm
    exact hm.1
  refine ⟨fun ho => ?_, fun ho => ?_⟩
  · unfold isOp at ho
    simp only [Bool.and_eq_true, decide_eq_true_eq] at ho
    have h1 := mk (rl T i - 15) (by omega) (by omega)
    have hr := (rt (rl T i - 15) (by omega) h1).2 (by omega)
    rcases h with ⟨_, hn⟩ | ⟨k, hk13, hk2, hR⟩
    · exact absurd hr (hn _ (by omega))
    · have := (rt k hk13 h1).1 hk2
      exact ⟨h1, by omega, by omega⟩
  · rcases h with ⟨h0, _⟩ | ⟨k, hk13, hk2, hR⟩
    · exact .inr h0
    · by_cases h1 : (tk T i).kind = 4
      · have := (rt k hk13 h1).1 hk2
        unfold isOp at ho
        simp only [Bool.and_eq_false_iff, decide_eq_false_iff_not] at ho
        omega
      · exact .inl h1
end Go.Proofs.YtbjghkmjnhmlfaaGreatDoor

/- The page's reader: compare, where nothing is compared. -/
namespace Go.Proofs.YtbjghkmjnhmlfaaGreatDoor
open Go.RowKit

abbrev zeroG : List Value := [.int .i64 0, .int .i64 0, .string ⟨#[]⟩, .int .i64 0, .slice none 0 0, .int .i64 0, .string ⟨#[]⟩, .int .i64 0, .slice none 0 0]
set_option maxRecDepth 100000 in
set_option maxHeartbeats 2000000 in
theorem cmp_er {w : World} {g A c : Nat} {T : List Tok} {i : Nat} {e0 a d : Int} {k n : Int} {s : ByteArray} {B : Option Addr} {l cc : Nat} (h : PgAt w g A c T i e0 a d) (he : e0 ≠ 0) :
    Calls Tryz.prog 43 #[.pointer (some ⟨g, 0, none⟩), .agg #[.int .i64 k, .string s, .int .i64 n, .slice B l cc]] w fun e w' => e = .returned (.tuple #[.agg zeroG.toArray, .bool false]) ∧ Ext w w' := by
  obtain ⟨w0, hw0⟩ : ∃ w0, w0 = (w.alloc (.cells #[.int .i64 k, .string s, .int .i64 n, .slice B l cc] 58)).alloc (.cells #[.int .i64 0, .int .i64 0, .string ⟨#[]⟩, .int .i64 0, .slice none 0 0, .int .i64 0, .string ⟨#[]⟩, .int .i64 0, .slice none 0 0] 95) := ⟨_, rfl⟩
  have hr0 : Box9 w0 (w.heap.size + 1) zeroG := by
    have := Box9.new (w.alloc (.cells #[.int .i64 k, .string s, .int .i64 n, .slice B l cc] 58)) #[.int .i64 0, .int .i64 0, .string ⟨#[]⟩, .int .i64 0, .slice none 0 0, .int .i64 0, .string ⟨#[]⟩, .int .i64 0, .slice none 0 0] 95 rfl
    rw [hsz_alloc] at this
    rw [hw0]; exact this
  have hx0 : Ext w w0 := by rw [hw0]; exact ((Ext.refl _).alloc _).alloc _
  have c2 := (h.ext hx0).c2
  have q : (e0 != 0) = true := by simp [he]
  have HW0 := Lib.hid hw0
  obtain ⟨y0, y1, y2, y3, y4, y5, y6, y7, y8⟩ := hr0.get
  obtain ⟨z0, z1, z2, z3, z4, z5, z6, z7, z8⟩ := hr0.fzs
  have hrl := hr0.lt
  clear hw0 h hr0 he
  go_enter Tryz.func43, Tryz.ntmps43
  go_upto_region 1 with (fail)
  rw [← HW0.out]
  go_wp2_with fail
  refine bodyPost_ret (v := .tuple #[.agg zeroG.toArray, .bool false]) (by simp [results, Tryz.results43, go_sem, *]) rfl ?_
  exact ⟨rfl, ext_setCells zeroG 0 w0 (by omega) hx0⟩
set_option maxRecDepth 100000 in
set_option maxHeartbeats 2000000 in
theorem cmp_no {w : World} {g A c : Nat} {T : List Tok} (hG : ToksG T) {i : Nat} {a d : Int} {k n : Int} {s : ByteArray} {B : Option Addr} {l cc : Nat} (h : PgAt w g A c T i 0 a d) (ho : isOp (rl T i) = false) :
    Calls Tryz.prog 43 #[.pointer (some ⟨g, 0, none⟩), .agg #[.int .i64 k, .string s, .int .i64 n, .slice B l cc]] w fun e w' => e = .returned (.tuple #[.agg zeroG.toArray, .bool false]) ∧ Ext w w' := by
  obtain ⟨w0, hw0⟩ : ∃ w0, w0 = (w.alloc (.cells #[.int .i64 k, .string s, .int .i64 n, .slice B l cc] 58)).alloc (.cells #[.int .i64 0, .int .i64 0, .string ⟨#[]⟩, .int .i64 0, .slice none 0 0, .int .i64 0, .string ⟨#[]⟩, .int .i64 0, .slice none 0 0] 95) := ⟨_, rfl⟩
  have hr0 : Box9 w0 (w.heap.size + 1) zeroG := by
    have := Box9.new (w.alloc (.cells #[.int .i64 k, .string s, .int .i64 n, .slice B l cc] 58)) #[.int .i64 0, .int .i64 0, .string ⟨#[]⟩, .int .i64 0, .slice none 0 0, .int .i64 0, .string ⟨#[]⟩, .int .i64 0, .slice none 0 0] 95 rfl
    rw [hsz_alloc] at this
    rw [hw0]; exact this
  have hx0 : Ext w w0 := by rw [hw0]; exact ((Ext.refl _).alloc _).alloc _
  have h0 := h.ext hx0
  have c2 := h0.c2
  have q3 := fld0
  have q4 := fld1
  have HW0 := Lib.hid hw0
  have il := h.il
  have KN := Lib.hid (now_pg h0)
  have hrl := hr0.lt
  have KO := Lib.hid (fun u => op_any (tk T i).text u)
  have KR := Lib.hid (fun R (hR : OpIs (tk T i).text R) => (op_role hG il hR).2 ho)
  clear hw0 h ho hG
  go_enter Tryz.func43, Tryz.ntmps43
  go_upto_region 1 with (fail)
  rw [← HW0.out]
  by_cases hk4 : (tk T i).kind = 4
  · have q5 : ((tk T i).kind != 4) = false := by simp [hk4]
    go_wp2_with fail
    refine KN.out.mono ?_
    rintro e w1 ⟨rfl, hx1⟩
    have KN2 := Lib.hid (now_pg (h0.ext hx1))
    have c2' := (h0.ext hx1).c2
    have hr1 := hr0.ext hx1
    clear KN
    go_wp2_with fail
    refine KN2.out.mono ?_
    rintro e w2 ⟨rfl, hx2⟩
    have hr2 := hr1.ext hx2
    have K2 := Lib.hid (KO.out w2)
    clear KN2 KO
    go_wp2_with fail
    refine K2.out.mono ?_
    rintro e w3 ⟨R, rfl, hR, hx3⟩
    have hR0 : R = 0 := (KR.out R hR).resolve_left (fun h => h hk4)
    have q6 : (R == 0) = true := by simp [hR0]
    obtain ⟨y0, y1, y2, y3, y4, y5, y6, y7, y8⟩ := (hr2.ext hx3).get
    obtain ⟨z0, z1, z2, z3, z4, z5, z6, z7, z8⟩ := (hr2.ext hx3).fzs
    have hxx := ((hx0.trans hx1).trans hx2).trans hx3
    clear K2 hr0 hr1 hr2 hx0 hx1 hx2 hx3 hR
    go_wp2_with fail
    refine bodyPost_ret (v := .tuple #[.agg zeroG.toArray, .bool false]) (by simp [results, Tryz.results43, go_sem, *]) rfl ?_
    exact ⟨rfl, ext_setCells zeroG 0 w3 (by omega) hxx⟩
  · have q5 : ((tk T i).kind != 4) = true := by simp [hk4]
    go_wp2_with fail
    refine KN.out.mono ?_
    rintro e w1 ⟨rfl, hx1⟩
    have c2' := (h0.ext hx1).c2
    obtain ⟨y0, y1, y2, y3, y4, y5, y6, y7, y8⟩ := (hr0.ext hx1).get
    obtain ⟨z0, z1, z2, z3, z4, z5, z6, z7, z8⟩ := (hr0.ext hx1).fzs
    have hxx := hx0.trans hx1
    clear KN hr0 hx0 hx1
    go_wp2_with fail
    refine bodyPost_ret (v := .tuple #[.agg zeroG.toArray, .bool false]) (by simp [results, Tryz.results43, go_sem, *]) rfl ?_
    exact ⟨rfl, ext_setCells zeroG 0 w1 (by omega) hxx⟩
end Go.Proofs.YtbjghkmjnhmlfaaGreatDoor
