/- term.gather: the labels of a term's variables, put into a map. -/
import Derived.Test.YtjmfjeeddnmoaaaKey
import Derived.Test.YtjmfjeeddnmoaaaWf
import Derived.Test.YtjmfjeeddnmoaaaWd
namespace Go.Proofs.Ytjmfjeeddnmoaaa
open Go.RowKit Go.Maps

mutual
/-- the names of a term's variables, as they stand -/
def occ : Tm → List ByteArray
  | ⟨k, s, _, l⟩ => (if k = 1 then [s] else []) ++ occL l
def occL : List Tm → List ByteArray
  | [] => []
  | t :: ts => occ t ++ occL ts
end
theorem occ_eq (t : Tm) : occ t = (if t.kind = 1 then [t.name] else []) ++ occL t.args := by obtain ⟨k, s, n, l⟩ := t; rw [occ]
theorem occL_mem {s : ByteArray} {t : Tm} : ∀ {ts : List Tm}, t ∈ ts → s ∈ occ t → s ∈ occL ts
  | a :: r, h, hs => by
    rw [occL, List.mem_append]
    rcases List.mem_cons.1 h with e | e
    · subst e; exact .inl hs
    · exact .inr (occL_mem e hs)

/-- the map has these now; nothing else has turned -/
def Gathered (w : World) (b : Nat) (L : List ByteArray) (e : Ending) (w' : World) : Prop := e = .returned (.tuple #[]) ∧ LabSet w' b L ∧ Chg (· = b) w w'

set_option maxRecDepth 100000 in
set_option maxHeartbeats 1000000 in
theorem gather_any (hh : Nat) : ∀ (t : Tm) (A : Option Addr) (c b : Nat) (L : List ByteArray) (w : World), t.high ≤ hh → TmAt w t A c → LabSet w b L → (∀ s ∈ occ t, s.size ≤ 16) → L.length + (occ t).length ≤ 1000000 →
    Calls Try.prog 69 #[t.val A c, .map (some b)] w (Gathered w b (L ++ occ t)) := by
  induction hh with
  | zero => intro t A c b L w h0; have := high_pos t; omega
  | succ hh ih =>
    intro t A c b L w hh0 h hS hs hn
    have IH := Lib.hid ih
    clear ih
    have hl := h.fits.args
    have E := Lib.hid (occ_eq t)
    have hx0 : Ext w (boxT w t A c) := (Ext.refl w).alloc _
    by_cases hk : t.kind = 1
    · have hk' : (t.kind == 1) = true := by simp [hk]
      have hs1 : t.name.size ≤ 16 := hs _ (by rw [E.out, if_pos hk]; simp)
      have E2 : Hid (L ++ occ t = (L ++ [t.name]) ++ occL t.args) := Lib.hid (by rw [E.out, if_pos hk]; simp)
      have hn1 : L.length + 1 ≤ 1000000 := by have := congrArg List.length E2.out; simp at this; omega
      have HS := Lib.hid hs
      clear hk E hs
      go_enter Try.func69, Try.ntmps69
      go_wp2_with fail
      refine (pack_any t.name _ hs1).mono ?_
      rintro e w1 ⟨rfl, hx1⟩
      obtain ⟨D, hown, hD⟩ := hS.ext (hx0.trans hx1)
      have b3 : w1.cell? ⟨w.heap.size, 3, none⟩ = some (.slice A t.args.length c) := hx1.cell (by go_simp)
      have hlt0 : w.heap.size < w1.heap.size := by have := hx1.size; simp at this; omega
      obtain ⟨w2, hrun, hown2, hg2⟩ := hown.update keyedLab Try.underlying86 (by unfold maxLen; omega) (key_lab (labOf_wf t.name).1 (labOf_wf t.name).2) unitElem_mk
      have hrun' : (Instr.mapUpdate 86 (.map (some b)) (.agg #[.int .u64 (nm 8 t.name.data.toList : Nat), .int .u64 (nm 8 (t.name.data.toList.drop 8) : Nat)]) (.agg #[])).run Try.prog w1 = .ok () w2 := hrun
      clear hrun
      have hS2 := LabSet.put hown.isMap hD hown2
      have hC2 : Chg (· = b) w w2 := (Chg.of_ext (hx0.trans hx1)).trans (Chg.of_grown hg2)
      have b4 : w2.cell? ⟨w.heap.size, 3, none⟩ = some (.slice A t.args.length c) := (Chg.of_grown hg2).cell b3 (fun e => by have := hS.lt; simp only at e; omega)
      clear b3 hown2 hg2 hD hown
      go_wp2_with fail
      go_loopw [17] (fun i wr => ∃ (k : Nat) (L' : List ByteArray), k ≤ t.args.length ∧ i = .int .i64 k ∧ Hid (L' ++ occL (t.args.drop k) = L ++ occ t) ∧ LabSet wr b L' ∧ Chg (· = b) w wr) (fun i _ => t.args.length - (intOf i).toNat)
      case atStart => exact ⟨0, L ++ [t.name], Nat.zero_le _, rfl, Lib.hid E2.out.symm, hS2, hC2⟩
      case round =>
        obtain ⟨k, L', hk, rfl, H, hS', hC⟩ := hrel
        by_cases hlt : k < t.args.length
        · obtain ⟨b', o, B, e, rfl, c0, c1, c2, c3, hsub⟩ := (h.chg hC (fun hc => hS.noCell hc)).args.at_ hlt
          have hb := high_lt hlt
          have H2 : Hid ((L' ++ occ t.args[k]) ++ occL (t.args.drop (k + 1)) = L ++ occ t) := by
            have := H.out
            rw [List.drop_eq_getElem_cons hlt, occL] at this
            exact Lib.hid (by rw [List.append_assoc]; exact this)
          have hm : ∀ s ∈ occ t.args[k], s.size ≤ 16 := fun s hs => HS.out s (by rw [occ_eq]; exact List.mem_append_right _ (occL_mem (List.getElem_mem hlt) hs))
          have hn2 : L'.length + (occ t.args[k]).length ≤ 1000000 := by have := congrArg List.length H2.out; simp at this; omega
          have HM := Lib.hid hm
          clear H E2 hm
          go_wp2_with fail
          refine (IH.out _ _ _ b L' _ (by omega) (hsub.ext ((Ext.refl _).alloc _)) (hS'.ext ((Ext.refl _).alloc _)) HM.out hn2).mono ?_
          rintro e w1 ⟨rfl, hS1, hC1⟩
          go_wp2_with fail
          go_roundw
          case rel => exact ⟨k + 1, _, by omega, by go_num, H2, hS1, hC.trans ((Chg.of_ext ((Ext.refl _).alloc _)).trans hC1)⟩
          case measure => simp [intOf]; omega
        · have H3 := H.out
          rw [List.drop_eq_nil_of_le (by omega), occL, List.append_nil] at H3
          subst H3
          go_wp2_with fail
          go_end0
          exact ⟨rfl, hS', hC⟩
    · have hk' : (t.kind == 1) = false := by simpa using hk
      have E2 : Hid (L ++ occ t = L ++ occL t.args) := Lib.hid (by rw [E.out, if_neg hk]; simp)
      have HS := Lib.hid hs
      clear hk E hs
      go_enter Try.func69, Try.ntmps69
      go_wp2_with fail
      go_loopw [17] (fun i wr => ∃ (k : Nat) (L' : List ByteArray), k ≤ t.args.length ∧ i = .int .i64 k ∧ Hid (L' ++ occL (t.args.drop k) = L ++ occ t) ∧ LabSet wr b L' ∧ Chg (· = b) w wr) (fun i _ => t.args.length - (intOf i).toNat)
      case atStart => exact ⟨0, L, Nat.zero_le _, rfl, Lib.hid E2.out.symm, hS.ext hx0, Chg.of_ext hx0⟩
      case round =>
        obtain ⟨k, L', hk, rfl, H, hS', hC⟩ := hrel
        by_cases hlt : k < t.args.length
        · obtain ⟨b', o, B, e, rfl, c0, c1, c2, c3, hsub⟩ := (h.chg hC (fun hc => hS.noCell hc)).args.at_ hlt
          have hb := high_lt hlt
          have H2 : Hid ((L' ++ occ t.args[k]) ++ occL (t.args.drop (k + 1)) = L ++ occ t) := by
            have := H.out
            rw [List.drop_eq_getElem_cons hlt, occL] at this
            exact Lib.hid (by rw [List.append_assoc]; exact this)
          have hm : ∀ s ∈ occ t.args[k], s.size ≤ 16 := fun s hs => HS.out s (by rw [occ_eq]; exact List.mem_append_right _ (occL_mem (List.getElem_mem hlt) hs))
          have hn2 : L'.length + (occ t.args[k]).length ≤ 1000000 := by have := congrArg List.length H2.out; simp at this; omega
          have HM := Lib.hid hm
          clear H E2 hm
          go_wp2_with fail
          refine (IH.out _ _ _ b L' _ (by omega) (hsub.ext ((Ext.refl _).alloc _)) (hS'.ext ((Ext.refl _).alloc _)) HM.out hn2).mono ?_
          rintro e w1 ⟨rfl, hS1, hC1⟩
          go_wp2_with fail
          go_roundw
          case rel => exact ⟨k + 1, _, by omega, by go_num, H2, hS1, hC.trans ((Chg.of_ext ((Ext.refl _).alloc _)).trans hC1)⟩
          case measure => simp [intOf]; omega
        · have H3 := H.out
          rw [List.drop_eq_nil_of_le (by omega), occL, List.append_nil] at H3
          subst H3
          go_wp2_with fail
          go_end0
          exact ⟨rfl, hS', hC⟩
end Go.Proofs.Ytjmfjeeddnmoaaa
