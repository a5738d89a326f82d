/- almagestref1.Names, Vars, Ground, Atom: the page's variables of a term. -/
import Derived.Test.YthmpolifgngdiaaApp
import Derived.Test.YthmpolifgngdiaaTa
import Derived.Deep.DeepCutAuto
namespace Go.Proofs.Ythmpolifgngdiaa
open Go.RowKit

/-- where s[k:] begins -/
def cutA (A : Option Addr) (cap k s : Nat) : Option Addr := if cap = k then A else A.map (·.add (k * s))
theorem strs_drop {w : World} {ss : List ByteArray} {A : Option Addr} {cap k : Nat} (h : StrsAt w ss A) (hk : k ≤ ss.length) (hc : ss.length ≤ cap) : StrsAt w (ss.drop k) (cutA A cap k 1) := by
  intro i hi
  rw [List.length_drop] at hi
  obtain ⟨b, o, rfl, c0, c1⟩ := h (k + i) (by omega)
  refine ⟨b, o + k, ?_, ?_, ?_⟩
  · unfold cutA
    rw [if_neg (by omega)]
    simp [add_addr]
  · rw [show o + k + i = o + (k + i) by omega, c0]
    simp
  · simpa using c1
theorem strs_take {w : World} {ss : List ByteArray} {A : Option Addr} {k : Nat} (h : StrsAt w ss A) : StrsAt w (ss.take k) A := by
  intro i hi
  rw [List.length_take] at hi
  obtain ⟨b, o, e, c0, c1⟩ := h i (by omega)
  exact ⟨b, o, e, by simpa using c0, by simpa using c1⟩
theorem run_to {P : Program} {t e : TypeId} {s : Nat} (hu : P.underlying t = some (.slice e)) (hz : ∀ w, (Go.sizeOf e).run P w = .ok s w) (u : World) (A : Option Addr) (n cap k : Nat) (hk : k ≤ cap) :
    (Instr.slice t (.slice A n cap) none (some (.int .i64 k)) none).run P u = .ok (.slice A k cap) u := by
  have he : P.elem t = e := by simp [Program.elem, hu]
  rw [run_slice_h u _ _ _ _ (by rw [he]; exact hu) .i64 k (by omega) (by omega), he, hz]
  have e : (A.map fun x => x.add (0 * s)) = A := by cases A <;> simp [Addr.add]
  simp only [Result.andThen, sliced, e, Nat.sub_zero, Int.toNat_natCast]
  split <;> rfl
theorem run_from {P : Program} {t e : TypeId} {s : Nat} (hu : P.underlying t = some (.slice e)) (hz : ∀ w, (Go.sizeOf e).run P w = .ok s w) (u : World) (A : Option Addr) (n cap k : Nat) (hk : k ≤ n) :
    (Instr.slice t (.slice A n cap) (some (.int .i64 k)) none none).run P u = .ok (.slice (cutA A cap k s) (n - k) (cap - k)) u := by
  have he : P.elem t = e := by simp [Program.elem, hu]
  rw [run_slice_l u _ _ _ _ (by rw [he]; exact hu) .i64 k (by omega) (by omega), he, hz]
  simp only [Result.andThen, sliced, cutA, Int.toNat_natCast]
theorem copyTake (l : List ByteArray) (k : Nat) (A : Option Addr) (c : Nat) (wr u : World) (h : StrsAt wr l A) (hk : k ≤ l.length) (hl : l.length ≤ 1000000) (hu : Ext wr u) :
    Calls Try.prog 38 #[.slice A k c] u fun e u' => ∃ v, e = .returned v ∧ u'.ownsRow wr.heap.size 9 1 v k (strCells (l.take k)) ∧ Ext u u' ∧ Ext wr u' ∧ ∀ b, v.ownBlock = some b → u.heap.size ≤ b := by
  have e : (l.take k).length = k := by rw [List.length_take]; omega
  have hh := copyStrs_any (l.take k) A c u (strs_take (h.ext hu)) (by omega)
  rw [e] at hh
  refine hh.mono fun e' u' ⟨v, he, ho, hx⟩ => ⟨v, he, ?_, hx, hu.trans hx, fun b hb => (ho.lt b hb).1⟩
  rw [e] at ho
  exact ownsRow_base ho hu.size
theorem owned_strs2 {w : World} {base : Nat} {v : Value} {n : Nat} {ss : List ByteArray} (h : w.ownsRow base 9 1 v n (strCells ss)) (hs : ∀ s ∈ ss, s.size ≤ 140737488351232) : ∃ A c, v = .slice A ss.length c ∧ StrsAt w ss A ∧ ss.length ≤ c ∧ n = ss.length := by
  have hn : ss.length = n := by have := h.1; simpa [strCells] using this
  subst hn
  obtain ⟨A, c, e, hS⟩ := owned_strs h hs
  refine ⟨A, c, e, hS, ?_, rfl⟩
  obtain ⟨A', c', e', hsrc⟩ := src_own h
  rw [e] at e'
  injection e' with _ _ e2
  rw [e2]
  exact hsrc.2.2
set_option maxRecDepth 100000 in
set_option maxHeartbeats 4000000 in
theorem rNames_any (a b : List ByteArray) (A B : Option Addr) (ca cb : Nat) (w : World) (ha : StrsAt w a A) (hb : StrsAt w b B) (hl : a.length + b.length ≤ 1000000) :
    Calls Try.prog 31 #[.slice A a.length ca, .slice B b.length cb] w (StrsCopied (namesN a b) w) := by
  obtain ⟨i0, hi0, hz0, hz1, hz2⟩ := info_parts infoStr
  have za : ∀ s ∈ a, s.size ≤ 140737488351232 := fun s hs => by obtain ⟨i, hi, rfl⟩ := List.getElem_of_mem hs; obtain ⟨_, _, _, _, h⟩ := ha i hi; exact h
  have zb : ∀ s ∈ b, s.size ≤ 140737488351232 := fun s hs => by obtain ⟨i, hi, rfl⟩ := List.getElem_of_mem hs; obtain ⟨_, _, _, _, h⟩ := hb i hi; exact h
  have ZA := Lib.hid za
  have ZB := Lib.hid zb
  clear za zb
  go_enter Try.func31, Try.ntmps31
  go_wp2_with (go_at_call 38; refine (copyStrs_any a A ca _ ha (by omega)).mono ?_; rintro e w1 ⟨v, rfl, hown, hx⟩)
  go_loopw [5, 6] (fun v i wr => ∃ (i' : Nat) (l : List ByteArray), i' ≤ b.length ∧ i = .int .i64 i' ∧ Hid (namesN l (b.drop i') = namesN a b) ∧ l.length ≤ a.length + i' ∧ Hid (∀ s ∈ l, s.size ≤ 140737488351232) ∧ wr.ownsRow w.heap.size 9 1 v l.length (strCells l) ∧ Ext w wr) (fun _ i _ => b.length - (intOf i).toNat)
  case atStart => exact ⟨0, a, Nat.zero_le _, rfl, Lib.hid rfl, by omega, ZA, hown, hx⟩
  case round =>
    obtain ⟨i', l, hi', rfl, H, hll, ZL, hownl, hxr⟩ := hrel
    obtain ⟨w2, rfl⟩ : ∃ w2 : World, w2 = wr := ⟨_, rfl⟩
    clear hown hx
    obtain ⟨AL, cl, rfl, hS, hcl, _⟩ := owned_strs2 hownl ZL.out
    by_cases hlt : i' < b.length
    · obtain ⟨bb, ob, rfl, cb0, _⟩ := (hb.ext hxr) i' hlt
      obtain ⟨s, hs⟩ : ∃ s, s = b[i'] := ⟨_, rfl⟩
      rw [← hs] at cb0
      have H2 : Hid (namesN (insN l s) (b.drop (i' + 1)) = namesN a b) := by
        have := H.out
        rw [List.drop_eq_getElem_cons hlt, ← hs] at this
        exact Lib.hid this
      have zs : s.size ≤ 140737488351232 := by rw [hs]; exact ZB.out _ (List.getElem_mem hlt)
      have hj0 : (0 : Int) ≤ (i' : Int) := Int.natCast_nonneg _
      have hj1 : (i' : Int) < (b.length : Int) := by omega
      have hmem : Hid (∀ x ∈ insN l s, x.size ≤ 140737488351232) := Lib.hid fun x hx => by
        rcases insN_mem.1 hx with e | e
        · exact ZL.out x e
        · rw [e]; exact zs
      have hlen : Hid ((insN l s).length ≤ a.length + (i' + 1)) := Lib.hid (by have := insN_len s l; omega)
      clear H hs
      go_wp2_with fail
      go_loopw [7] (fun kk wq => ∃ (k : Nat), k ≤ l.length ∧ kk = .int .i64 k ∧ Hid (insN l s = l.take k ++ insN (l.drop k) s) ∧ Ext w2 wq) (fun kk _ => l.length - (intOf kk).toNat)
      case atStart => exact ⟨0, Nat.zero_le _, rfl, Lib.hid (by simp), Ext.refl _⟩
      case round =>
        obtain ⟨k, hk, rfl, HK, hxq⟩ := hrel
        obtain ⟨wq, rfl⟩ : ∃ wq : World, wq = wr := ⟨_, rfl⟩
        have cbq := hxq.cell cb0
        have hk0 : (0 : Int) ≤ (k : Int) := Int.natCast_nonneg _
        by_cases hkl : k < l.length
        · have hk1 : (k : Int) < (l.length : Int) := by omega
          obtain ⟨lb, lo, rfl, cl0, _⟩ := (hS.ext hxq) k hkl
          have HK2 : Hid (insN l s = l.take k ++ (if Op.bytesLess l[k].toList s.toList = true then l[k] :: insN (l.drop (k + 1)) s else if (l[k].toList == s.toList) = true then l[k] :: l.drop (k + 1) else s :: l[k] :: l.drop (k + 1))) := by
            have := HK.out
            rw [List.drop_eq_getElem_cons hkl, insN] at this
            exact Lib.hid this
          by_cases hless : Op.bytesLess l[k].toList s.toList = true
          · have HK3 : Hid (insN l s = l.take (k + 1) ++ insN (l.drop (k + 1)) s) := by
              have := HK2.out
              rw [if_pos hless] at this
              exact Lib.hid (by rw [this, List.take_succ_eq_append_getElem hkl, List.append_assoc]; rfl)
            clear HK HK2
            go_wp2_with fail
            go_quiet (fail)
            go_wp2_with fail
            go_roundw
            case rel => exact ⟨k + 1, by omega, by go_num, HK3, hxq.drewN _⟩
            case measure => simp [intOf]; omega
          · have hless' : Op.bytesLess l[k].toList s.toList = false := by simpa using hless
            have HK3 := Lib.hid (HK2.out.trans (by rw [if_neg hless]))
            clear HK HK2 hless
            by_cases heq : (l[k].toList == s.toList) = true
            · have HK4 : Hid (insN l s = l) := Lib.hid (HK3.out.trans (by rw [if_pos heq, ← List.drop_eq_getElem_cons hkl, List.take_append_drop]))
              clear HK3
              rw [HK4.out] at H2 hlen hmem
              go_wp2_with fail
              go_quiet (fail)
              go_wp2_with fail
              go_quiet (fail)
              go_wp2_with fail
              go_roundw
              case rel => exact ⟨i' + 1, l, by omega, by go_num, H2, hlen.out, hmem, ownsRow_ext hownl (hxq.drewN _), (hxr.trans hxq).drewN _⟩
              case measure => simp [intOf]; omega
            · have heq' : (l[k].toList == s.toList) = false := by simpa using heq
              have HK4 : Hid (insN l s = l.take k ++ [s] ++ l.drop k) := Lib.hid (HK3.out.trans (by rw [if_neg heq, ← List.drop_eq_getElem_cons hkl]; simp))
              clear HK3 heq
              go_wp2_with fail
              go_quiet (fail)
              go_wp2_with fail
              go_quiet (fail)
              go_upto_region 9 with (fail)
              generalize hwz : (wq.drewN _).drewN _ = wz at *
              have hxz : Ext w2 wz := hwz ▸ (hxq.drewN _).drewN _
              have hSz := hS.ext hxz
              have czz := hxz.cell cb0
              clear hwz hxq cbq
              obtain ⟨A2, hA2⟩ : ∃ A2, A2 = cutA (some ⟨lb, lo, none⟩) cl k 1 := ⟨_, rfl⟩
              have hSd : StrsAt wz (l.drop k) A2 := by rw [hA2]; exact strs_drop hSz hk hcl
              have rule := fun (u : World) (x : Ext wz u) => x.cell czz
              have r1 := fun (u : World) => run_to Try.underlying61 Try.sizeOf9 u (some ⟨lb, lo, none⟩) l.length cl k (by omega)
              have r2 := fun (u : World) => (run_from Try.underlying61 Try.sizeOf9 u (some ⟨lb, lo, none⟩) l.length cl k hk).trans (congrArg (fun A => Result.ok (Value.slice A (l.length - k) (cl - k)) u) hA2.symm)
              have hsd : Hid (∀ u, Ext wz u → Src u A2 (l.length - k) (cl - k) 1 (strCells (l.drop k))) := Lib.hid fun u x => by have := src_strs (c := cl - k) (hSd.ext x) (by rw [List.length_drop]; omega); rwa [List.length_drop] at this
              have KC := Lib.hid (fun u => copyTake l k (some ⟨lb, lo, none⟩) cl wz u hSz hk (by omega))
              have hZ0 := Ext.refl wz
              have hwsz := hxr.size
              have hzsz := hxz.size
              clear hA2 hSd czz
              go_region_held3 (fun u => Ext wz u) (first | assumption | exact hZ0.drew | exact Ext.alloc hZ0.drew _ | exact (Ext.alloc hZ0 _).drew | exact hS7 | exact hS6 | exact hS5 | exact Ext.alloc hS5 _)
                (first
                  | (go_at_call 38; refine (KC.out _ (by assumption)).mono ?_; rintro e5 w5 ⟨v5, rfl, ho5, hx5, hS5, hb5⟩)
                  | (refine step_app _ (by rfl) _ _ 61 (by rfl) wz.heap.size 9 i0 _ 1 16 Try.underlying61 hi0 hz0 hz1 hz2 rfl (by decide) v6 (k + 1) (strCells (l.take k) ++ [.string s]) (by rfl) ho6 A2 (l.length - k) (cl - k) (strCells (l.drop k)) (by rfl) (hsd.out _ hS6) (strCells_one _) (by simp only [maxLen]; omega) (by omega) hS6.size ?_; intro v7 w7 ho7 hg7 _; have hS7 : Ext wz w7 := hS6.own ho6 (Nat.le_refl _) hg7)
                  | (refine step_app _ (by rfl) _ _ 61 (by rfl) wz.heap.size 9 i0 _ 1 16 Try.underlying61 hi0 hz0 hz1 hz2 rfl (by decide) v5 k (strCells (l.take k)) (by rfl) (ho5.alloc _) (some ⟨w5.heap.size, 0, none⟩) 1 1 [.string s] (by rfl) (Src.box w5 #[.string s] 9 1 rfl) (by simp [Value.oneCell']) (by simp only [maxLen]; omega) (by omega) (hS5.alloc _).size ?_; intro v6 w6 ho6 hg6 _; have hS6 : Ext wz w6 := (hS5.alloc _).own (ho5.alloc _) (Nat.le_refl _) hg6)
                  | (refine step_app _ (by rfl) _ _ 61 (by rfl) wz.heap.size 9 i0 _ 1 16 Try.underlying61 hi0 hz0 hz1 hz2 rfl (by decide) v5 k (strCells (l.take k)) (by rfl) ho5 (some ⟨wz.heap.size, 0, none⟩) 1 1 [.string s] (by rfl) ((Src.box wz.drew #[.string s] 9 1 rfl).ext hx5) (by simp [Value.oneCell']) (by simp only [maxLen]; omega) (by omega) hS5.size ?_; intro v6 w6 ho6 hg6 _; have hS6 : Ext wz w6 := hS5.own ho5 (Nat.le_refl _) hg6))
              all_goals
                have ho8 : w7.ownsRow w.heap.size 9 1 v7 (insN l s).length (strCells (insN l s)) := by
                  have e1 : k + 1 + (l.length - k) = (insN l s).length := by rw [HK4.out]; simp; omega
                  have e2 : strCells (l.take k) ++ [.string s] ++ strCells (l.drop k) = strCells (insN l s) := by rw [HK4.out]; simp [strCells]
                  rw [e1, e2] at ho7
                  exact ownsRow_base ho7 (by omega)
                have hx8 : Ext w w7 := (hxr.trans hxz).trans hS7
                clear ho7 ho6 ho5 r1 r2 rule
                go_wp2_with fail
                go_roundw
                case rel => exact ⟨i' + 1, insN l s, by omega, by go_num, H2, hlen.out, hmem, ho8, hx8⟩
                case measure => simp [intOf]; omega
        · have hkl' : decide (k < l.length) = false := decide_eq_false hkl
          have e : k = l.length := by omega
          have HK4 : Hid (insN l s = l.take k ++ [s] ++ l.drop k) := Lib.hid (HK.out.trans (by subst e; simp [insN]))
          clear HK e
          go_wp2_with fail
          go_quiet (fail)
          go_wp2_with fail
          go_quiet (fail)
          go_upto_region 9 with (fail)
          generalize hwz : (wq.drewN _).drewN _ = wz at *
          have hxz : Ext w2 wz := hwz ▸ (hxq.drewN _).drewN _
          have hSz := hS.ext hxz
          have czz := hxz.cell cb0
          clear hwz hxq cbq
          obtain ⟨A2, hA2⟩ : ∃ A2, A2 = cutA AL cl k 1 := ⟨_, rfl⟩
          have hSd : StrsAt wz (l.drop k) A2 := by rw [hA2]; exact strs_drop hSz hk hcl
          have rule := fun (u : World) (x : Ext wz u) => x.cell czz
          have r1 := fun (u : World) => run_to Try.underlying61 Try.sizeOf9 u AL l.length cl k (by omega)
          have r2 := fun (u : World) => (run_from Try.underlying61 Try.sizeOf9 u AL l.length cl k hk).trans (congrArg (fun A => Result.ok (Value.slice A (l.length - k) (cl - k)) u) hA2.symm)
          have hsd : Hid (∀ u, Ext wz u → Src u A2 (l.length - k) (cl - k) 1 (strCells (l.drop k))) := Lib.hid fun u x => by have := src_strs (c := cl - k) (hSd.ext x) (by rw [List.length_drop]; omega); rwa [List.length_drop] at this
          have KC := Lib.hid (fun u => copyTake l k AL cl wz u hSz hk (by omega))
          have hZ0 := Ext.refl wz
          have hwsz := hxr.size
          have hzsz := hxz.size
          clear hA2 hSd czz
          go_region_held3 (fun u => Ext wz u) (first | assumption | exact hZ0.drew | exact Ext.alloc hZ0.drew _ | exact (Ext.alloc hZ0 _).drew | exact hS7 | exact hS6 | exact hS5 | exact Ext.alloc hS5 _)
            (first
              | (go_at_call 38; refine (KC.out _ (by assumption)).mono ?_; rintro e5 w5 ⟨v5, rfl, ho5, hx5, hS5, hb5⟩)
              | (refine step_app _ (by rfl) _ _ 61 (by rfl) wz.heap.size 9 i0 _ 1 16 Try.underlying61 hi0 hz0 hz1 hz2 rfl (by decide) v6 (k + 1) (strCells (l.take k) ++ [.string s]) (by rfl) ho6 A2 (l.length - k) (cl - k) (strCells (l.drop k)) (by rfl) (hsd.out _ hS6) (strCells_one _) (by simp only [maxLen]; omega) (by omega) hS6.size ?_; intro v7 w7 ho7 hg7 _; have hS7 : Ext wz w7 := hS6.own ho6 (Nat.le_refl _) hg7)
              | (refine step_app _ (by rfl) _ _ 61 (by rfl) wz.heap.size 9 i0 _ 1 16 Try.underlying61 hi0 hz0 hz1 hz2 rfl (by decide) v5 k (strCells (l.take k)) (by rfl) (ho5.alloc _) (some ⟨w5.heap.size, 0, none⟩) 1 1 [.string s] (by rfl) (Src.box w5 #[.string s] 9 1 rfl) (by simp [Value.oneCell']) (by simp only [maxLen]; omega) (by omega) (hS5.alloc _).size ?_; intro v6 w6 ho6 hg6 _; have hS6 : Ext wz w6 := (hS5.alloc _).own (ho5.alloc _) (Nat.le_refl _) hg6)
              | (refine step_app _ (by rfl) _ _ 61 (by rfl) wz.heap.size 9 i0 _ 1 16 Try.underlying61 hi0 hz0 hz1 hz2 rfl (by decide) v5 k (strCells (l.take k)) (by rfl) ho5 (some ⟨wz.heap.size, 0, none⟩) 1 1 [.string s] (by rfl) ((Src.box wz.drew #[.string s] 9 1 rfl).ext hx5) (by simp [Value.oneCell']) (by simp only [maxLen]; omega) (by omega) hS5.size ?_; intro v6 w6 ho6 hg6 _; have hS6 : Ext wz w6 := hS5.own ho5 (Nat.le_refl _) hg6))
          all_goals
            have ho8 : w7.ownsRow w.heap.size 9 1 v7 (insN l s).length (strCells (insN l s)) := by
              have e1 : k + 1 + (l.length - k) = (insN l s).length := by rw [HK4.out]; simp; omega
              have e2 : strCells (l.take k) ++ [.string s] ++ strCells (l.drop k) = strCells (insN l s) := by rw [HK4.out]; simp [strCells]
              rw [e1, e2] at ho7
              exact ownsRow_base ho7 (by omega)
            have hx8 : Ext w w7 := (hxr.trans hxz).trans hS7
            clear ho7 ho6 ho5 r1 r2 rule
            go_wp2_with fail
            go_roundw
            case rel => exact ⟨i' + 1, insN l s, by omega, by go_num, H2, hlen.out, hmem, ho8, hx8⟩
            case measure => simp [intOf]; omega
    · have HF : Hid (StrsCopied (namesN a b) w (.returned (.slice AL l.length cl)) w2) := by
        have := H.out
        rw [List.drop_eq_nil_of_le (by omega)] at this
        have e : l = namesN a b := this
        subst e
        exact Lib.hid ⟨_, rfl, hownl, hxr⟩
      go_wp2_with fail
      go_ret
      exact HF.out
end Go.Proofs.Ythmpolifgngdiaa
