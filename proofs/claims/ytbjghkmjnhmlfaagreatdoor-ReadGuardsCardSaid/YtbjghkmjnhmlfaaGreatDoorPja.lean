/- The laws over texts that are programs: what is common to them. -/
import Derived.Test.YtbjghkmjnhmlfaaGreatDoorPgr
import Derived.Test.YtbjghkmjnhmlfaaGreatDoorZK
import Derived.Test.YtbjghkmjnhmlfaaGreatDoorZI
namespace Go.Proofs.YtbjghkmjnhmlfaaGreatDoor
open Go.RowKit

/-- how much texts are -/
def textsL : List ByteArray → Int → Int
  | [], n => n
  | s :: ss, n => if n < 1048576 then textsL ss (n + s.size) else n
set_option maxHeartbeats 1000000 in
theorem texts_any (ss : List ByteArray) (A : Option Addr) (c : Nat) (w : World) (hl : ss.length * 16 ≤ 140737488351232) (h : StrsAt w ss A) :
    Calls Tryz.prog 14 #[.slice A ss.length c] w fun e w' => e = .returned (.int .i64 (textsL ss ss.length)) ∧ w = w' := by
  have H0 : Hid (textsL (ss.drop 0) ss.length = textsL ss ss.length) := Lib.hid (by rw [List.drop_zero])
  go_enter Tryz.func14, Tryz.ntmps14
  go_wp2_with fail
  go_loop [3, 4] (fun m i => ∃ (k : Nat) (n : Int), k ≤ ss.length ∧ 0 ≤ n ∧ n ≤ 9007199254740992 ∧ i = .int .i64 k ∧ m = .int .i64 n ∧ Hid (textsL (ss.drop k) n = textsL ss ss.length)) (fun _ i => ss.length - (intOf i).toNat)
  case atStart => exact ⟨0, _, Nat.zero_le _, by omega, by omega, rfl, rfl, H0⟩
  case round =>
    obtain ⟨k, n, hk, hn0, hn1, rfl, rfl, H⟩ := hrel
    by_cases hlt : k < ss.length
    · obtain ⟨b, o, rfl, c0, hb⟩ := h k hlt
      have H2 : Hid ((if n < 1048576 then textsL (ss.drop (k + 1)) (n + ss[k].size) else n) = textsL ss ss.length) := by
        have := H.out
        rw [List.drop_eq_getElem_cons hlt, textsL] at this
        exact Lib.hid this
      clear H H0
      by_cases hn : n < 1048576
      · go_wp2_with fail
        go_round
        case rel => exact ⟨k + 1, n + ss[k].size, by omega, by omega, by omega, by go_num, rfl, Lib.hid (by have := H2.out; rwa [if_pos (by omega)] at this)⟩
        case measure => simp [intOf]; omega
      · have hn' : decide (n < 1048576) = false := decide_eq_false hn
        go_wp2_with fail
        go_ret
        exact ⟨ret_int (by have := H2.out; rwa [if_neg (by omega)] at this), rfl⟩
    · go_wp2_with fail
      go_ret
      exact ⟨ret_int (by have := H.out; rwa [List.drop_eq_nil_of_le (by omega), textsL] at this), rfl⟩
def heavyB (ss : List ByteArray) : Bool := decide (9000 < textsL ss ss.length)
theorem heavy_any (ss : List ByteArray) (A : Option Addr) (c : Nat) (w : World) (hl : ss.length * 16 ≤ 140737488351232) (h : StrsAt w ss A) :
    Calls Tryz.prog 6 #[.agg #[.slice A ss.length c]] w fun e w' => e = .returned (.bool (heavyB ss)) ∧ Ext w w' := by
  go_enter Tryz.func6, Tryz.ntmps6
  go_wp2_with fail
  refine (texts_any ss A c _ hl (h.ext ((Ext.refl _).alloc _))).mono ?_
  rintro e w1 ⟨rfl, rfl⟩
  go_wp2_with fail
  go_ret
  exact ⟨rfl, (Ext.refl w).alloc _⟩

def resP : Except (Int × Int) Pr → Pr
  | .ok P => P
  | .error _ => ⟨[], []⟩
def resPA {α : Type} : Except (Int × Int) α → Int
  | .ok _ => 0
  | .error (a, _) => a
def resPE {α : Type} : Except (Int × Int) α → Int
  | .ok _ => 0
  | .error (_, x) => x
theorem readG_short {s : ByteArray} {P : Pr} (h : readG s = .ok P) : PrShort P := by
  unfold readG at h
  split at h
  · exact wholeG_short h
  · cases h
theorem ProgRet.all {s : ByteArray} {w w' : World} {e : Ending} (h : ProgRet w (readG s) e w') : ∃ A0 c0 A1 c1,
    e = .returned (.tuple #[.agg #[.slice A0 (resP (readG s)).clauses.length c0, .slice A1 (resP (readG s)).rules.length c1], .int .i64 (resPA (readG s)), .int .i64 (resPE (readG s))]) ∧ PrAt w' (resP (readG s)) ⟨A0, c0, A1, c1⟩ ∧ Ext w w' := by
  obtain ⟨hx, h2⟩ := h
  obtain ⟨F, hF⟩ : ∃ F, F = readG s := ⟨_, rfl⟩
  rw [← hF] at h2 ⊢
  match F, hF, h2 with
  | .ok P, hF, ⟨A0, c0, cs, A1, c1, rs, h1, h2, he, ha, hb⟩ =>
    obtain ⟨hp, l1, l2⟩ := prog_at (readG_short hF.symm) h1 h2 ha hb
    refine ⟨A0, c0, A1, c1, ?_, hp, hx⟩
    simp only [resP, resPA, resPE]
    rw [← l1, ← l2]
    exact he
  | .error (a, x), hF, h2 => exact ⟨none, 0, none, 0, h2, ⟨fun i hi => absurd hi (by simp [resP]), fun i hi => absurd hi (by simp [resP]), by simp [resP], by simp [resP]⟩, hx⟩
theorem readProgram_pg (s : ByteArray) (w : World) (hS : s.size ≤ 140737488351232) : Calls Tryz.prog 9 #[.string s] w (ProgRet w (readG s)) := by
  by_cases hE : lexE s = 0
  · exact readProgram_yes s w hS hE
  · exact readProgram_no s w hS hE

set_option maxHeartbeats 1000000 in
theorem repeated_any (s : ByteArray) (n : Nat) (hs : s.size ≤ 1000) (hn : n ≤ 1000) (w : World) : Calls Tryz.prog 13 #[.string s, .int .i64 n] w fun e w' => ∃ r : ByteArray, e = .returned (.string r) ∧ r.size = n * s.size ∧ Ext w w' := by
  go_enter Tryz.func13, Tryz.ntmps13
  go_wp2_with fail
  go_loopw [5, 6] (fun t i wr => ∃ (k : Nat) (r : ByteArray), k ≤ n ∧ t = .string r ∧ i = .int .i64 k ∧ Hid (r.size = k * s.size) ∧ Ext w wr) (fun _ i _ => n - (intOf i).toNat)
  case atStart => exact ⟨0, ⟨#[]⟩, Nat.zero_le _, rfl, rfl, Lib.hid (by rw [Nat.zero_mul]; rfl), Ext.refl _⟩
  case round =>
    obtain ⟨k, r, hk, rfl, rfl, H, hx⟩ := hrel
    have hkb : k < 1000000 := by omega
    have hrl : r.size ≤ 1000000 := by rw [H.out]; exact Nat.le_trans (Nat.mul_le_mul (Nat.le_trans hk hn) hs) (by decide)
    by_cases hlt : k < n
    · have hl : decide ((k : Int) < (n : Int)) = true := decide_eq_true (by omega)
      go_wp2_with fail
      refine And.intro (Exists.intro (k + 1) (Exists.intro (r ++ s) ?_)) ?_
      · exact And.intro (by omega) (And.intro rfl (And.intro (by go_num) (And.intro (Lib.hid (by rw [ByteArray.size_append, H.out, Nat.succ_mul])) hx)))
      · simp [intOf]; omega
    · have hl : decide ((k : Int) < (n : Int)) = false := decide_eq_false (by omega)
      go_wp2_with fail
      go_ret
      exact ⟨_, rfl, by rw [H.out]; congr 1; omega, hx⟩
/-- short texts -/
def ShortV (v : Value) : Prop := ∃ s : ByteArray, v = .string s ∧ s.size ≤ 1000000
theorem strs_box {w : World} {t : TypeId} : ∀ (cs : List Value), (∀ v ∈ cs, ShortV v) → ∃ ss : List ByteArray, ss.length = cs.length ∧ cs = ss.map Value.string ∧ ∀ s ∈ ss, s.size ≤ 1000000
  | [], _ => ⟨[], rfl, rfl, fun s hs => by cases hs⟩
  | v :: r, h => by
    obtain ⟨ss, h1, h2, h3⟩ := strs_box (w := w) (t := t) r fun v hv => h v (List.mem_cons_of_mem _ hv)
    obtain ⟨s, rfl, hs⟩ := h v (List.mem_cons_self ..)
    refine ⟨s :: ss, by simp [h1], by simp [h2], fun x hx => ?_⟩
    rcases List.mem_cons.1 hx with rfl | hx
    · exact hs
    · exact h3 x hx
theorem strs_alloc {w w5 : World} {cs : Array Value} {t : TypeId} (hw : w5 = w.alloc (.cells cs t)) (h : ∀ v ∈ cs.toList, ShortV v) : ∃ ss : List ByteArray, ss.length = cs.size ∧ StrsAt w5 ss (some ⟨w.heap.size, 0, none⟩) ∧ ∀ s ∈ ss, s.size ≤ 1000000 := by
  obtain ⟨ss, h1, h2, h3⟩ := strs_box (w := w) (t := t) cs.toList h
  refine ⟨ss, by simpa using h1, fun i hi => ⟨w.heap.size, 0, rfl, ?_, by have := h3 _ (List.getElem_mem hi); omega⟩, h3⟩
  have hh := heap_alloc_new w (.cells cs t)
  rw [hw]
  simp only [World.cell?, hh, Nat.zero_add]
  rw [← Array.getElem?_toList, h2]
  simp [hi]
/-- a row of texts of the call's own -/
def strQ (ss : List ByteArray) : List Value := ss.map Value.string
theorem strQ_one (ss : List ByteArray) : ∀ u ∈ strQ ss, u.oneCell' = true := by
  intro u hu
  obtain ⟨s, _, rfl⟩ := List.mem_map.1 hu
  rfl
theorem owned_strQ {w : World} {base : Nat} {v : Value} {ss : List ByteArray} (h : w.ownsRow base 9 1 v ss.length (strQ ss)) (hs : ∀ s ∈ ss, s.size ≤ 140737488351232) :
    ∃ A c, v = .slice A ss.length c ∧ StrsAt w ss A := by
  rcases h.2 with ⟨rfl, h0⟩ | ⟨g, cap, cur, rfl, _, _, hc, _⟩
  · have e : ss = [] := List.eq_nil_of_length_eq_zero h0
    subst e
    exact ⟨none, 0, rfl, fun i hi => absurd hi (by simp)⟩
  · refine ⟨_, cap, rfl, fun i hi => ⟨g, 0, rfl, ?_, hs _ (List.getElem_mem hi)⟩⟩
    rw [Nat.zero_add, h.cellAt i (by omega)]
    simp [strQ, hi]
theorem StrsAt.newsQ {w : World} {ss : List ByteArray} {b o : Nat} (h : StrsAt w ss (some ⟨b, o, none⟩)) : ∀ j u, (strQ ss)[j]? = some u → w.cell? ((⟨b, o, none⟩ : Addr).add j) = some u := by
  intro j u hu
  have hj : j < ss.length := by
    rcases Nat.lt_or_ge j ss.length with h' | h'
    · exact h'
    · rw [List.getElem?_eq_none (by simpa [strQ] using h')] at hu; cases hu
  obtain ⟨b', o', e, hc, _⟩ := h j hj
  injection e with e
  injection e with e1 e2
  subst e1 e2
  have e3 : (⟨b, o, none⟩ : Addr).add j = ⟨b, o + j, none⟩ := by
    unfold Addr.add
    split
    · rename_i h0; subst h0; rfl
    · rfl
  rw [e3, hc]
  simpa [strQ, hj] using hu
theorem src_strQ {w : World} {ss : List ByteArray} {A : Option Addr} {c : Nat} (h : StrsAt w ss A) (hc : ss.length ≤ c) : Src w A ss.length c 1 (strQ ss) := by
  refine ⟨by simp [strQ], ?_, hc⟩
  cases ss with
  | nil => 
    rcases A with _ | ad
    · exact .inl ⟨rfl, rfl⟩
    · exact .inr ⟨ad, rfl, fun j u hu => by simp [strQ] at hu⟩
  | cons s r =>
    obtain ⟨b, o, rfl, _⟩ := h 0 (by simp)
    exact .inr ⟨_, rfl, h.newsQ⟩
theorem own_box (w : World) (cs : Array Value) (t : TypeId) (n : Nat) (hn : cs.size = n) (hm : n ≤ maxLen) : (w.alloc (.cells cs t)).ownsRow w.heap.size t 1 (.slice (some ⟨w.heap.size, 0, none⟩) n n) n cs.toList :=
  ⟨by simp [hn], .inr ⟨w.heap.size, n, _, rfl, Nat.le_refl _, heap_alloc_new w _, Nat.le_refl _, hm, by simpa using hn, by rw [Nat.mul_one]; exact List.take_of_length_le (by simp [hn])⟩⟩
theorem strQ_app (a b : List ByteArray) : strQ (a ++ b) = strQ a ++ strQ b := by simp [strQ]
theorem infoStrQ : (Tryz.prog.info? 9).map (fun i => (i.zero, i.size, i.bytes)) = some (some (.string ⟨#[]⟩), 1, 16) := by kernel_rfl
end Go.Proofs.YtbjghkmjnhmlfaaGreatDoor
