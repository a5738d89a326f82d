/- facts.Check; pure: which lists of facts kept may be; what Add makes of one. -/
import Derived.Test.YtkdhpifjljkpfaaGreatFP
import Derived.Test.YtkdhpifjljkpfaaGreatFB
namespace Go.Proofs.YtkdhpifjljkpfaaGreat
open Go.RowKit Go.Maps

set_option maxHeartbeats 1000000 in
theorem Check_any (ks : List Kp) (A : Option Addr) (c : Nat) (w : World) (hc : ks.length ≤ c) (hl : ks.length ≤ 1000000) (h : KpsAt w ks A) :
    Calls Tryz.prog 10 #[.slice A ks.length c] w fun e w' => e = .returned (.int .i64 (badE (kpsB ks))) ∧ Ext w w' := by
  have KS := Lib.hid (seqsOf_any ks A c w hc hl h)
  clear h
  go_enter Tryz.func10, Tryz.ntmps10
  go_wp2_with fail
  refine KS.out.mono ?_
  intro e w2 hs
  rcases hs with ⟨hkb, b, rfl, hFm, hbw, hx2⟩ | ⟨hkb, rfl, hx2⟩
  · have HB : Hid (badE (kpsB ks) = 0) := Lib.hid (by rw [hkb]; rfl)
    have HX := Lib.hid hx2
    clear hFm hx2 hkb KS hbw
    go_wp2_with fail
    go_ret
    exact ⟨by rw [HB.out]; rfl, HX.out⟩
  · have HB : Hid (badE (kpsB ks) = 1) := Lib.hid (by rw [hkb]; rfl)
    have HX := Lib.hid hx2
    clear hx2 hkb KS
    go_wp2_with fail
    go_ret
    exact ⟨by rw [HB.out]; rfl, HX.out⟩

/-- what the law has added: numbered by threes, no two alike, all may be -/
structure Lst (ks : List Kp) : Prop where
  seq : ∀ i (h : i < ks.length), ks[i].seq = 3 * (i : Int)
  may : ∀ i (h : i < ks.length), fmB ks[i].fc = true
  ne : ∀ i j (h : i < ks.length) (k : j < ks.length), i < j → ks[i].fc ≠ ks[j].fc
  len : ks.length ≤ 20
theorem Lst.nil : Lst [] := ⟨fun i h => absurd h (by simp), fun i h => absurd h (by simp), fun i j h => absurd h (by simp), by simp⟩
theorem Lst.last {ks : List Kp} (h : Lst ks) : ∀ n, n ≤ ks.length → lastI ks n ≤ 3 * (n : Int) - 1 := by
  intro n hn
  cases n with
  | zero => simp [lastI]
  | succ n =>
    rw [lastI_at (by omega), h.seq n (by omega)]
    omega
theorem Lst.ok {ks : List Kp} (h : Lst ks) : ∀ n, n ≤ ks.length → okS ks n = true
  | 0, _ => rfl
  | n + 1, hn => by
    rw [okS_step (by omega), Lst.ok h n (by omega), h.may n (by omega), h.seq n (by omega), decide_eq_true (by have := h.last n (by omega); omega)]
    rfl
theorem Lst.dist {ks : List Kp} (h : Lst ks) : ∀ n, n ≤ ks.length → dist ks n = n
  | 0, _ => rfl
  | n + 1, hn => by
    have ih := Lst.dist h n (by omega)
    have hf : fpl ks n ks[n].fc = none := by
      cases e : fpl ks n ks[n].fc with
      | none => rfl
      | some i =>
        obtain ⟨hi, hin, hh⟩ := fpl_some e
        exact absurd hh (h.ne i n hi (by omega) hin)
    rw [dist_step (by omega), hf, if_neg (by simp), ih]
theorem Lst.kps {ks : List Kp} (h : Lst ks) : kpsB ks = true := by
  unfold kpsB
  have := h.len
  rw [h.ok _ (Nat.le_refl _), h.dist _ (Nat.le_refl _), decide_eq_true (by omega), decide_eq_true (Nat.le_refl _)]
  rfl
theorem Lst.add {ks : List Kp} {x : Fc} (h : Lst ks) (hx : addE ks (3 * (ks.length : Int)) x = 0) (hl : ks.length < 20) : Lst (ks ++ [⟨3 * (ks.length : Int), x⟩]) ∧ fmB x = true := by
  have hG : addG ks (3 * (ks.length : Int)) x = true := by
    cases e : addG ks (3 * (ks.length : Int)) x with
    | true => rfl
    | false => unfold addE at hx; rw [e] at hx; simp at hx
  have hm : fmB x = true := by
    unfold addG at hG
    simp only [Bool.and_eq_true] at hG
    exact hG.2.1
  have hn : hasK ks x = false := by
    unfold addE at hx
    rw [hG, if_pos rfl] at hx
    cases e : hasK ks x with
    | false => rfl
    | true => rw [e] at hx; simp at hx
  have hf : fpl ks ks.length x = none := by
    unfold hasK at hn
    cases e : fpl ks ks.length x with
    | none => rfl
    | some i => rw [e] at hn; simp at hn
  have hno := fpl_none hf
  refine ⟨⟨fun i hi => ?_, fun i hi => ?_, fun i j hi hj hij => ?_, by simp; omega⟩, hm⟩
  · by_cases e : i < ks.length
    · rw [List.getElem_append_left e]; exact h.seq i e
    · have e' : i = ks.length := by simp at hi; omega
      subst e'
      simp
  · by_cases e : i < ks.length
    · rw [List.getElem_append_left e]; exact h.may i e
    · have e' : i = ks.length := by simp at hi; omega
      subst e'
      simpa using hm
  · have hi' : i < ks.length := by simp at hj; omega
    rw [List.getElem_append_left hi']
    by_cases e : j < ks.length
    · rw [List.getElem_append_left e]; exact h.ne i j hi' e hij
    · have e' : j = ks.length := by simp at hj; omega
      subst e'
      simpa using hno i hi' hi'
/-- what was added is found where it was added -/
theorem Lst.found {ks : List Kp} {n : Int} {x : Fc} : hasK (ks ++ [⟨n, x⟩]) x = true ∧ seqK (ks ++ [⟨n, x⟩]) x = n := by
  have e : fpl (ks ++ [⟨n, x⟩]) (ks ++ [(⟨n, x⟩ : Kp)]).length x = some ks.length := by
    rw [show (ks ++ [(⟨n, x⟩ : Kp)]).length = ks.length + 1 by simp, fpl_step (by simp)]
    rw [if_pos (by simpa using (eqF_iff _ _).2 rfl)]
  unfold hasK seqK
  rw [e]
  simp
theorem Lst.pair {ks : List Kp} (h : Lst ks) : (ks.map (·.fc)).Pairwise (fun x y => x ≠ y) := by
  rw [List.pairwise_iff_getElem]
  intro i j hi hj hij
  simp only [List.getElem_map]
  exact h.ne i j (by simpa using hi) (by simpa using hj) hij
end Go.Proofs.YtkdhpifjljkpfaaGreat
