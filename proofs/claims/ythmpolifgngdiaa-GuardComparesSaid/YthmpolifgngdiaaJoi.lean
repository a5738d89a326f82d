/- bind.Join. -/
import Derived.Test.YthmpolifgngdiaaMrw
namespace Go.Proofs.Ythmpolifgngdiaa
open Go.RowKit

def joinB (aa bb : List Bd) : Bool := (bindsB aa && grL aa) && (bindsB bb && grL bb)
def JoinOut (aa bb : List Bd) (w : World) (e : Ending) (w' : World) : Prop :=
  Ext w w' ∧ ((joinB aa bb = false ∧ e = .returned (.tuple #[.slice none 0 0, .int .i64 1])) ∨ (joinB aa bb = true ∧ mergeL aa bb = none ∧ e = .returned (.tuple #[.slice none 0 0, .int .i64 3])) ∨
    ∃ us, joinB aa bb = true ∧ mergeL aa bb = some us ∧ ((16 < us.length ∧ e = .returned (.tuple #[.slice none 0 0, .int .i64 2])) ∨
      (us.length ≤ 16 ∧ ∃ A c B d G, e = .returned (.tuple #[.slice A us.length c, .int .i64 0]) ∧ us.length ≤ c ∧ BdsOwn w' us A (fun k => w.heap.size ≤ k ∧ k < w'.heap.size) B d G)))

theorem grounded_yes {bs : List Bd} (h : (bindsB bs && grL bs) = true) (A : Option Addr) (c : Nat) (w : World) (ll : bs.length ≤ 1000000) (hb : BdsAt w bs A) :
    Calls Try.prog 39 #[.slice A bs.length c] w fun e w' => e = .returned (.bool true) ∧ Ext w w' := (grounded_any bs A c w ll hb).mono fun _ _ ⟨he, hx⟩ => ⟨by rw [he, h], hx⟩
theorem grounded_no {bs : List Bd} (h : (bindsB bs && grL bs) = false) (A : Option Addr) (c : Nat) (w : World) (ll : bs.length ≤ 1000000) (hb : BdsAt w bs A) :
    Calls Try.prog 39 #[.slice A bs.length c] w fun e w' => e = .returned (.bool false) ∧ Ext w w' := (grounded_any bs A c w ll hb).mono fun _ _ ⟨he, hx⟩ => ⟨by rw [he, h], hx⟩
theorem binds_may {bs : List Bd} (h : bindsB bs = true) : ∀ i (h : i < bs.length), mayB bs[i].tm = true := fun i hi => (okL_may _ _ (binds_ok h).2.1 i hi).1

set_option maxRecDepth 100000 in
set_option maxHeartbeats 2000000 in
theorem Join_any (aa bb : List Bd) (A B : Option Addr) (ca cb : Nat) (w : World) (hA : BdsAt w aa A) (hB : BdsAt w bb B) (hca : aa.length ≤ ca) (hcb : bb.length ≤ cb) (hla : aa.length ≤ 1000000) (hlb : bb.length ≤ 1000000) :
    Calls Try.prog 33 #[.slice A aa.length ca, .slice B bb.length cb] w (JoinOut aa bb w) := by
  by_cases ga : (bindsB aa && grL aa) = true
  · by_cases gb : (bindsB bb && grL bb) = true
    · have HJ : Hid (joinB aa bb = true) := Lib.hid (by unfold joinB; rw [ga, gb]; rfl)
      have GA := Lib.hid ga
      have GB := Lib.hid gb
      have hba : bindsB aa = true := by simp only [Bool.and_eq_true] at ga; exact ga.1
      have hbb : bindsB bb = true := by simp only [Bool.and_eq_true] at gb; exact gb.1
      have h16a := (binds_ok hba).1
      have h16b := (binds_ok hbb).1
      have MA := Lib.hid (binds_may hba)
      have MB := Lib.hid (binds_may hbb)
      clear ga gb hba hbb
      go_enter Try.func33, Try.ntmps33
      go_wp2_with fail
      refine (grounded_yes GA.out A ca _ hla hA).mono ?_
      rintro e1 w1 ⟨rfl, hx1⟩
      go_wp2_with fail
      refine (grounded_yes GB.out B cb _ hlb (hB.ext hx1)).mono ?_
      rintro e2 w2 ⟨rfl, hx2⟩
      have hx02 := hx1.trans hx2
      go_wp2_with fail
      refine (merged_any aa bb A B ca cb _ (hA.ext hx02) (hB.ext hx02) hca hcb (by omega) (by omega) MA.out MB.out).mono ?_
      rintro e3 w3 ⟨hx3, hc⟩
      have hx03 := hx02.trans hx3
      have hs2 := hx02.size
      rcases hc with ⟨hno, rfl⟩ | ⟨us, A', c', B', d', G', hyes, rfl, hc', hul, hO⟩
      · have HN := Lib.hid hno
        clear hno
        go_wp2_with fail
        go_ret2
        exact ⟨hx03, .inr (.inl ⟨HJ.out, HN.out, rfl⟩)⟩
      · have HY := Lib.hid hyes
        have HO := Lib.hid hO
        clear hyes hO
        by_cases h16 : us.length ≤ 16
        · have hd : decide ((16 : Int) < (us.length : Int)) = false := decide_eq_false (by omega)
          go_wp2_with fail
          go_ret2
          exact ⟨hx03, .inr (.inr ⟨us, HJ.out, HY.out, .inr ⟨h16, A', c', B', d', G', rfl, hc', HO.out.weak fun q hq => ⟨Nat.le_trans hs2 hq.1, hq.2⟩⟩⟩)⟩
        · have hd : decide ((16 : Int) < (us.length : Int)) = true := decide_eq_true (by omega)
          have h17 : 16 < us.length := by omega
          clear h16
          go_wp2_with fail
          go_ret2
          exact ⟨hx03, .inr (.inr ⟨us, HJ.out, HY.out, .inl ⟨h17, rfl⟩⟩)⟩
    · have GB := Lib.hid (not_true gb)
      have GA := Lib.hid ga
      have HJ : Hid (joinB aa bb = false) := Lib.hid (by unfold joinB; rw [GB.out]; simp)
      clear ga gb
      go_enter Try.func33, Try.ntmps33
      go_wp2_with fail
      refine (grounded_yes GA.out A ca _ hla hA).mono ?_
      rintro e1 w1 ⟨rfl, hx1⟩
      go_wp2_with fail
      refine (grounded_no GB.out B cb _ hlb (hB.ext hx1)).mono ?_
      rintro e2 w2 ⟨rfl, hx2⟩
      go_wp2_with fail
      go_ret2
      exact ⟨hx1.trans hx2, .inl ⟨HJ.out, rfl⟩⟩
  · have GA := Lib.hid (not_true ga)
    have HJ : Hid (joinB aa bb = false) := Lib.hid (by unfold joinB; rw [GA.out]; simp)
    clear ga
    go_enter Try.func33, Try.ntmps33
    go_wp2_with fail
    refine (grounded_no GA.out A ca _ hla hA).mono ?_
    rintro e1 w1 ⟨rfl, hx1⟩
    go_wp2_with fail
    go_ret2
    exact ⟨hx1, .inl ⟨HJ.out, rfl⟩⟩
end Go.Proofs.Ythmpolifgngdiaa
