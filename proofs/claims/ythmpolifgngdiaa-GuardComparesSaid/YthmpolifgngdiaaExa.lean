/- bind.crossed, variable, examine, Check: which binds may be. -/
import Derived.Test.YthmpolifgngdiaaMen
import Derived.Test.YthmpolifgngdiaaTa
import Derived.Deep.RegionHeld3
namespace Go.Proofs.Ythmpolifgngdiaa
open Go.RowKit

/-- some bind's term has a bound variable -/
def crossL (bs : List Bd) : List Bd → Bool
  | [] => false
  | x :: xs => mentT bs x.tm || crossL bs xs
def crossI (bs : List Bd) : List Bd → Int → Int
  | [], _ => -1
  | x :: xs, k => if mentT bs x.tm = true then k else crossI bs xs (k + 1)
theorem crossI_nn (bs : List Bd) : ∀ (xs : List Bd) (k : Int), 0 ≤ k → decide (0 ≤ crossI bs xs k) = crossL bs xs
  | [], k, _ => by simp [crossI, crossL]
  | x :: xs, k, h => by
    rw [crossI, crossL]
    cases hm : mentT bs x.tm
    · rw [if_neg (by simp), crossI_nn bs xs (k + 1) (by omega), Bool.false_or]
    · rw [if_pos rfl, Bool.true_or]; simp [h]

theorem cross1_any (bs : List Bd) (hs : Short bs) (x : Bd) (A : Option Addr) (c b g : Nat) (w : World) (h : TmAt w x.tm A c) (hp : PlAt w b bs bs.length) (hg : w.cell? ⟨g, 0, none⟩ = some (.map (some b))) :
    Calls Try.prog 59 #[x.val A c, .pointer (some ⟨g, 0, none⟩)] w fun e w' => e = .returned (.bool (mentT bs x.tm)) ∧ Ext w w' := by
  have hlt : g < w.heap.size := World.block_lt_of_cell? w _ hg
  go_enter Try.func59, Try.ntmps59
  go_wp2_with fail
  refine (ment_all bs hs x.tm.high x.tm A c b _ (Nat.le_refl _) (h.ext ((Ext.refl _).alloc _)) (hp.ext ((Ext.refl _).alloc _))).mono ?_
  rintro e w1 ⟨rfl, hx1⟩
  go_wp2_with fail
  go_ret
  exact ⟨rfl, ((Ext.refl _).alloc _).trans hx1⟩

set_option maxRecDepth 100000 in
set_option maxHeartbeats 1000000 in
theorem crossI_any (bs : List Bd) (hs : Short bs) (xs : List Bd) (A : Option Addr) (c b g : Nat) (w : World) (ll : xs.length ≤ 1000000) (h : BdsAt w xs A) (hp : PlAt w b bs bs.length) (hg : w.cell? ⟨g, 0, none⟩ = some (.map (some b))) :
    Calls Try.prog 69 #[.slice A xs.length c, .func (.func 59) #[] #[.pointer (some ⟨g, 0, none⟩)]] w fun e w' => e = .returned (.int .i64 (crossI bs xs 0)) ∧ Ext w w' := by
  have H0 : Hid (crossI bs (xs.drop 0) ((0 : Nat) : Int) = crossI bs xs 0) := Lib.hid rfl
  have HS := Lib.hid hs
  clear hs
  go_enter Try.func69, Try.ntmps69
  go_wp2_with fail
  go_loopw [8] (fun i wr => ∃ (k : Nat), k ≤ xs.length ∧ i = .int .i64 k ∧ Hid (crossI bs (xs.drop k) (k : Int) = crossI bs xs 0) ∧ Ext w wr) (fun i _ => xs.length - (intOf i).toNat)
  case atStart => exact ⟨0, Nat.zero_le _, rfl, H0, Ext.refl _⟩
  case round =>
    obtain ⟨k, hk, rfl, H, hx⟩ := hrel
    by_cases hlt : k < xs.length
    · obtain ⟨b', o, B, e, rfl, c0, c1, c2, c3, c4, hsub, _⟩ := (h.ext hx) k hlt
      have hg' := hx.cell hg
      have H2 : Hid ((if mentT bs xs[k].tm = true then (k : Int) else crossI bs (xs.drop (k + 1)) ((k + 1 : Nat) : Int)) = crossI bs xs 0) := by
        have := H.out
        rw [List.drop_eq_getElem_cons hlt, crossI] at this
        exact Lib.hid (by simpa using this)
      clear H H0
      go_wp2_with fail
      refine (cross1_any bs HS.out xs[k] B e b g _ hsub (hp.ext hx) hg').mono ?_
      rintro e1 w1 ⟨rfl, hx1⟩
      by_cases hm : mentT bs xs[k].tm = true
      · have H3 := Lib.hid ((if_pos hm).symm.trans H2.out)
        clear H2
        go_wp2_with fail
        go_ret
        exact ⟨ret_int H3.out, hx.trans hx1⟩
      · have hm' := not_true hm
        have H3 := Lib.hid ((if_neg hm).symm.trans H2.out)
        clear H2 hm
        go_wp2_with fail
        go_roundw
        case rel => exact ⟨k + 1, by omega, by go_num, H3, hx.trans hx1⟩
        case measure => simp [intOf]; omega
    · have H3 : Hid (-1 = crossI bs xs 0) := by
        have := H.out
        rw [List.drop_eq_nil_of_le (by omega), crossI] at this
        exact Lib.hid this
      clear H H0
      go_wp2_with fail
      go_ret
      exact ⟨ret_int H3.out, hx⟩
theorem crossC_any (bs : List Bd) (hs : Short bs) (xs : List Bd) (A : Option Addr) (c b g : Nat) (w : World) (ll : xs.length ≤ 1000000) (h : BdsAt w xs A) (hp : PlAt w b bs bs.length) (hg : w.cell? ⟨g, 0, none⟩ = some (.map (some b))) :
    Calls Try.prog 58 #[.slice A xs.length c, .func (.func 59) #[] #[.pointer (some ⟨g, 0, none⟩)]] w fun e w' => e = .returned (.bool (crossL bs xs)) ∧ Ext w w' := by
  have E := Lib.hid (crossI_nn bs xs 0 (by omega))
  go_enter Try.func58, Try.ntmps58
  go_wp2_with fail
  refine (crossI_any bs hs xs A c b g w ll h hp hg).mono ?_
  rintro e1 w1 ⟨rfl, hx1⟩
  go_wp2_with fail
  go_ret
  exact ⟨ret_bool E.out, hx1⟩
theorem crossed_any (bs : List Bd) (hs : Short bs) (A : Option Addr) (c : Nat) (w : World) (ll : bs.length ≤ 1000000) (h : BdsAt w bs A) :
    Calls Try.prog 50 #[.slice A bs.length c] w fun e w' => e = .returned (.bool (crossL bs bs)) ∧ Ext w w' := by
  have HS := Lib.hid hs
  clear hs
  go_enter Try.func50, Try.ntmps50
  go_wp2_with fail
  refine (placesOf_any bs A c _ h HS.out ll).mono ?_
  rintro e1 w1 ⟨b, rfl, hP, _, hx1⟩
  have hxa := hx1.alloc (.cells #[.map (some b)] 103)
  go_wp2_with fail
  refine (crossC_any bs HS.out bs A c b w1.heap.size _ ll (h.ext hxa) (hP.ext ((Ext.refl _).alloc _)) (by go_simp)).mono ?_
  rintro e2 w2 ⟨rfl, hx2⟩
  go_wp2_with fail
  go_ret
  exact ⟨rfl, hxa.trans hx2⟩

/-- a variable's name? -/
def varTm (s : ByteArray) : Tm := ⟨1, s, 0, []⟩
def varB (s : ByteArray) : Bool := mayB (varTm s)
theorem varTm_at (w : World) (s : ByteArray) (hs : s.size ≤ 140737488351232) : TmAt w (varTm s) none 0 :=
  .mk (varTm s) none 0 (fun _ => none) (fun _ => 0) ⟨by show (Lit.int .i64 1).wf = true; decide, by show (Lit.int .i64 0).wf = true; decide, hs, by simp [varTm]⟩ (Nat.le_refl _) (fun i hi => absurd hi (by simp [varTm])) (fun i hi => absurd hi (by simp [varTm]))
theorem variable_any (s : ByteArray) (w : World) (hs : s.size ≤ 140737488351232) : Calls Try.prog 49 #[.string s] w fun e w' => e = .returned (.bool (varB s)) ∧ Ext w w' := by
  by_cases hv : mayB (varTm s) = true
  · have E := Lib.hid (show varB s = true from hv)
    have hk := Lib.hid (fun u => check_yes (varTm s) none 0 u (varTm_at u s hs) hv)
    clear hv
    go_enter Try.func49, Try.ntmps49
    go_wp2_with fail
    refine (hk.out _).mono ?_
    rintro e1 w1 ⟨rfl, hx1⟩
    go_wp2_with fail
    go_ret
    exact ⟨by rw [E.out]; rfl, hx1⟩
  · have hv' := not_true hv
    have E := Lib.hid (show varB s = false from hv')
    have hk := Lib.hid (fun u => check_no (varTm s) none 0 u (varTm_at u s hs) hv')
    clear hv hv'
    go_enter Try.func49, Try.ntmps49
    go_wp2_with fail
    refine (hk.out _).mono ?_
    rintro e1 w1 ⟨rfl, hx1⟩
    go_wp2_with fail
    go_ret
    exact ⟨by rw [E.out]; rfl, hx1⟩
theorem var_short {s : ByteArray} (h : varB s = true) : s.size ≤ 16 := by
  have hp : plainB (varTm s) = true := (may_all h).plain
  unfold plainB at hp
  simp [varTm] at hp
  unfold wordB at hp
  simp at hp
  omega
end Go.Proofs.Ythmpolifgngdiaa
