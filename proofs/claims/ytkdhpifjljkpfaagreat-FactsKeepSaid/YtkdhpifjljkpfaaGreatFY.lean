/- Joined: Fyf, Fyg, Fyh, Fyi, Fyj. -/
import Derived.Test.YtkdhpifjljkpfaaGreatFku
import Derived.Test.YtkdhpifjljkpfaaGreatFye
import Derived.Test.YtkdhpifjljkpfaaGreatRnm
import Derived.Deep.RegionHeld3

/- Pure: facts put in their place, one after the other, rise; there is one rising row of the same facts. -/
namespace Go.Proofs.YtkdhpifjljkpfaaGreat
open Go.RowKit

def RisP (us : List Fc) : Prop := us.Pairwise (fun x y => cmpF x y < 0)
theorem ris_p {us : List Fc} : RisF us ↔ RisP us := by
  unfold RisP RisF
  rw [List.pairwise_iff_getElem]
  exact ⟨fun h i j hi hj hij => h i j hj hij, fun h i j hj hij => h i j _ hj hij⟩
theorem ris_uniq : ∀ {us vs : List Fc}, RisP us → RisP vs → us.Perm vs → us = vs
  | [], vs, _, _, hp => by rw [List.nil_perm.1 hp]
  | a :: us, [], _, _, hp => absurd (List.perm_nil.1 hp) (by simp)
  | a :: us, b :: vs, h, k, hp => by
    have h1 := List.pairwise_cons.1 h
    have k1 := List.pairwise_cons.1 k
    have hab : a = b := by
      have ha : a ∈ b :: vs := hp.mem_iff.1 (List.mem_cons_self ..)
      have hb : b ∈ a :: us := hp.mem_iff.2 (List.mem_cons_self ..)
      rcases List.mem_cons.1 ha with e | ha
      · exact e
      · rcases List.mem_cons.1 hb with e | hb
        · exact e.symm
        · have x1 := h1.1 b hb
          have x2 := k1.1 a ha
          have x3 := cmpF_neg a b
          omega
    subst hab
    rw [ris_uniq h1.2 k1.2 (List.perm_cons a |>.1 hp)]

/-- x put in its place -/
def putF : List Fc → Fc → List Fc
  | [], x => [x]
  | y :: ys, x => if cmpF y x < 0 then y :: putF ys x else x :: y :: ys
theorem putF_perm (x : Fc) : ∀ us : List Fc, (putF us x).Perm (x :: us)
  | [] => by rw [putF]
  | y :: ys => by
    rw [putF]
    by_cases h : cmpF y x < 0
    · rw [if_pos h]
      exact ((putF_perm x ys).cons y).trans (List.Perm.swap ..)
    · rw [if_neg h]
theorem cmpF_tr {x y z : Fc} (h : cmpF x y < 0) (k : cmpF y z < 0) : cmpF x z < 0 := by
  obtain ⟨a, b⟩ := cmpF_tri x y z (by omega) (by omega)
  by_cases e : cmpF x z = 0
  · have := (b e).1; omega
  · omega
theorem putF_ris (x : Fc) : ∀ us : List Fc, RisP us → (∀ y ∈ us, cmpF y x ≠ 0) → RisP (putF us x)
  | [], _, _ => by rw [putF]; exact List.pairwise_singleton _ _
  | y :: ys, h, hne => by
    have h1 := List.pairwise_cons.1 h
    rw [putF]
    by_cases c : cmpF y x < 0
    · rw [if_pos c]
      refine List.pairwise_cons.2 ⟨fun z hz => ?_, putF_ris x ys h1.2 (fun z hz => hne z (List.mem_cons_of_mem _ hz))⟩
      rcases List.mem_cons.1 ((putF_perm x ys).mem_iff.1 hz) with rfl | hz
      · exact c
      · exact h1.1 z hz
    · rw [if_neg c]
      have hxy : cmpF x y < 0 := by
        have := cmpF_neg x y
        have := hne y (List.mem_cons_self ..)
        omega
      refine List.pairwise_cons.2 ⟨fun z hz => ?_, h⟩
      rcases List.mem_cons.1 hz with rfl | hz
      · exact hxy
      · exact cmpF_tr hxy (h1.1 z hz)
/-- where it goes -/
theorem putF_at (x : Fc) : ∀ (us : List Fc) (i : Nat), i ≤ us.length → (∀ j (h : j < us.length), j < i → cmpF us[j] x < 0) → (∀ h : i < us.length, ¬ cmpF us[i] x < 0) → putF us x = us.take i ++ x :: us.drop i
  | [], i, hi, _, _ => by
    obtain rfl : i = 0 := by simpa using hi
    rfl
  | y :: ys, 0, _, _, h => by
    have h0 : ¬ cmpF y x < 0 := h (by simp)
    rw [putF, if_neg h0]
    rfl
  | y :: ys, i + 1, hi, h, k => by
    have h0 := h 0 (by simp) (by omega)
    rw [putF, if_pos (by simpa using h0)]
    rw [putF_at x ys i (by simpa using hi) (fun j hj hji => by have := h (j + 1) (by simpa using hj) (by omega); simpa using this) (fun hj => by have := k (by simpa using hj); simpa using this)]
    simp
/-- all put in, one after the other -/
def srtF (fs : List Fc) : List Fc := fs.foldl putF []
theorem foldl_put : ∀ (fs us : List Fc), RisP us → (us ++ fs).Pairwise (fun x y => x ≠ y) → (∀ x ∈ us ++ fs, May x) → RisP (fs.foldl putF us) ∧ (fs.foldl putF us).Perm (us ++ fs)
  | [], us, h, _, _ => by simpa using h
  | x :: fs, us, h, hne, hm => by
    have hp := putF_perm x us
    have hsame : (putF us x ++ fs).Perm (us ++ x :: fs) := (hp.append_right fs).trans (List.perm_middle.symm)
    have hc : ∀ y ∈ us, cmpF y x ≠ 0 := fun y hy e => by
      have hxy : y ≠ x := (List.pairwise_append.1 hne).2.2 y hy x (List.mem_cons_self ..)
      have hz := cmpF_zero (hm y (List.mem_append_left _ hy)) (hm x (List.mem_append_right _ (List.mem_cons_self ..)))
      rw [e] at hz
      exact hxy ((eqF_iff _ _).1 hz.symm)
    obtain ⟨h1, h2⟩ := foldl_put fs (putF us x) (putF_ris x us h hc) ((hsame.pairwise_iff (fun h => Ne.symm h)).2 hne) (fun y hy => hm y (hsame.mem_iff.1 hy))
    rw [List.foldl_cons]
    exact ⟨h1, h2.trans hsame⟩
theorem srtF_is {fs us : List Fc} (hne : fs.Pairwise (fun x y => x ≠ y)) (hm : ∀ x ∈ fs, May x) (hr : RisF us) (hp : us.Perm fs) : us = srtF fs := by
  obtain ⟨h1, h2⟩ := foldl_put fs [] List.Pairwise.nil (by simpa using hne) (by simpa using hm)
  rw [List.nil_append] at h2
  exact ris_uniq (ris_p.1 hr) h1 (hp.trans h2.symm)
end Go.Proofs.YtkdhpifjljkpfaaGreat

/- almagestref0.CopyFacts: in new memory. -/
namespace Go.Proofs.YtkdhpifjljkpfaaGreat
open Go.RowKit

/-- facts in blocks that lie behind w's end, none twice -/
structure FOwned (ks : List Fc) (w w' : World) (v : Value) (zs : List FLain) (G : Nat → Nat → Prop) : Prop where
  map : zs.map (·.1) = ks
  own : w'.ownsRow w.heap.size 44 6 v ks.length (Frow zs)
  inv : CopyInv w w' v (zs.map FLain.tl) G
theorem FOwned.len {ks : List Fc} {w w' : World} {v : Value} {zs : List FLain} {G : Nat → Nat → Prop} (h : FOwned ks w w' v zs G) : zs.length = ks.length := by rw [← h.map, List.length_map]
theorem FOwned.at_ {ks : List Fc} {w w' : World} {v : Value} {zs : List FLain} {G : Nat → Nat → Prop} (h : FOwned ks w w' v zs G) : ∃ A c, v = .slice A ks.length c ∧ ks.length ≤ c ∧ FcsAt w' ks A := by
  obtain ⟨A, c, e, hc, hK⟩ := Fowned h.own (fun x hx => by
    obtain ⟨i, hi, rfl⟩ := List.getElem_of_mem hx
    refine ⟨?_, trivial⟩
    have := h.inv.sub i (by simpa using hi)
    simp only [List.getElem_map, FLain.tl] at this
    exact this.at_)
  rw [h.len] at e hc
  rw [h.map] at hK
  exact ⟨A, c, e, hc, hK⟩
/-- one more behind them -/
theorem FOwned.snoc {ks : List Fc} {w w6 w7 w8 : World} {v v' : Value} {zs : List FLain} {G : Nat → Nat → Prop} {q : Fc} {A : Option Addr} {c : Nat} {o : Obj} (h : FOwned ks w w6 v zs G)
    (hO : TmOwn w7 q.tm A c (fun k => w6.heap.size ≤ k ∧ k < w7.heap.size)) (hx : Ext w6 w7) (hg : (w7.alloc o).grownBy w8 v.ownBlock) (hat : v'.ownBlock = v.ownBlock ∨ v'.ownBlock = some (w7.heap.size + 1))
    (ho : w8.ownsRow w.heap.size 44 6 v' (ks.length + 1) (Frow zs ++ FLain.cells (q, A, c))) : ∃ G', FOwned (ks ++ [q]) w w8 v' (zs ++ [(q, A, c)]) G' := by
  have hst := h.inv.step (y := FLain.tl (q, A, c)) (v' := v') hO hx hg (fun b hb => h.own.lt b hb) hat
  refine ⟨_, by rw [List.map_append, h.map]; rfl, ?_, by rw [List.map_append]; exact hst⟩
  rw [Frow_app, Frow_one, List.length_append]
  exact ho
def FCopiedL (ks : List Fc) (w : World) (e : Ending) (w' : World) : Prop := ∃ v zs G, e = .returned v ∧ FOwned ks w w' v zs G

set_option maxRecDepth 100000 in
set_option maxHeartbeats 4000000 in
theorem copyFacts_any (ks : List Fc) (A : Option Addr) (c : Nat) (w : World) (hl : ks.length ≤ 1000000) (h : FcsAt w ks A) :
    Calls Tryz.prog 56 #[.slice A ks.length c] w (FCopiedL ks w) := by
  obtain ⟨i0, hi0, hz0, hz1, hz2⟩ := info_parts infoFc
  go_enter Tryz.func56, Tryz.ntmps56
  go_wp2_with fail
  go_loopw [3, 4] (fun v i wr => ∃ (k : Nat) (zs : List FLain) (G : Nat → Nat → Prop), k ≤ ks.length ∧ i = .int .i64 k ∧ FOwned (ks.take k) w wr v zs G) (fun _ i _ => ks.length - (intOf i).toNat)
  case atStart => exact ⟨0, [], fun _ _ => False, Nat.zero_le _, rfl, ⟨by simp, World.ownsRow_nil _ _ _ _, ⟨fun i hi => absurd hi (by simp), fun i hi => absurd hi (by simp), fun i j hi => absurd hi (by simp), Ext.refl _⟩⟩⟩
  case round =>
    obtain ⟨k, zs, G, hk, rfl, hKO⟩ := hrel
    have hx := hKO.inv.ext
    by_cases hlt : k < ks.length
    · obtain ⟨b, o, B, e, rfl, c0, c1, c2, c3, c4, c5, hsub⟩ := (h.ext hx) k hlt
      have hki : (k : Int) < (ks.length : Int) := by omega
      have hk0 : (0 : Int) ≤ (k : Int) := by omega
      have KC := Lib.hid (copyFact_any ks[k] B e wr hsub)
      have hqe : ks.take k ++ [ks[k]] = ks.take (k + 1) := (List.take_succ_eq_append_getElem hlt).symm
      have htl : (ks.take k).length = k := by simp; omega
      have HQ := Lib.hid hqe
      have HTL := Lib.hid htl
      have HKO := Lib.hid hKO
      have hown := hKO.own
      have HK := Lib.hid hlt
      generalize ks[k] = q at *
      generalize ks.take k = tk at *
      clear hsub hqe htl hKO
      go_wp2_with fail
      refine KC.out.mono ?_
      rintro e1 w1 ⟨A', c', rfl, hO, hx1⟩
      have hown1 := ownsRow_ext hown hx1
      have hsz := hx.size
      have hsz1 := hx1.size
      have hn1 : tk.length + 1 ≤ 1000001 := by have := HTL.out; omega
      clear c0 c1 c2 c3 c4 c5
      go_wp2_with (at_builtin; refine wpList_append_own_at _ rfl _ _ 23 rfl w.heap.size 44 i0 _ 6 72 Tryz.underlying23 hi0 hz0 hz1 hz2 rfl (by decide) _ tk.length (Frow zs) rfl (hown1.alloc _) ⟨w1.heap.size, 0, none⟩ 1 1 (FLain.cells (q, A', c')) rfl rfl ?c1 ?c2 ?c3 ?c4 ?c5 ?_)
      case c1 => exact World.news_of_block (cs := #[.int .i64 q.tm.kind, .string q.tm.name, .int .i64 q.tm.n, .slice A' q.tm.args.length c', .int .i64 q.fr, .int .i64 q.til]) (t := 44) (fr := (0, 0)) (heap_alloc_new w1 _)
      case c2 => exact FLain.one _
      case c3 => simp only [maxLen]; omega
      case c4 => omega
      case c5 => simp; omega
      intro v' w4 hown4 hgrow _ hat
      have hat' : v'.ownBlock = u3.ownBlock ∨ v'.ownBlock = some (w1.heap.size + 1) := by simpa using hat
      obtain ⟨G', hKO'⟩ := FOwned.snoc HKO.out hO hx1 hgrow hat' hown4
      rw [HQ.out] at hKO'
      have HF := Lib.hid hKO'
      clear hKO' hat hat' hgrow hown1 hown hown4 hO hx1 hx hn1
      go_wp2_with fail
      go_roundw
      case rel => exact ⟨k + 1, _, G', HK.out, by have := HK.out; go_num, HF.out⟩
      case measure => have := HK.out; simp [intOf]; omega
    · have hki : ¬ (k : Int) < (ks.length : Int) := by omega
      have HF : Hid (FCopiedL ks w (.returned u3) wr) := Lib.hid ⟨_, zs, G, rfl, by rw [← List.take_of_length_le (show ks.length ≤ k by omega)]; exact hKO⟩
      clear hKO hx
      go_wp2_with fail
      go_ret
      exact HF.out
end Go.Proofs.YtkdhpifjljkpfaaGreat

/- Rows of facts cut, copied and joined: the parts of the page's Put. -/
namespace Go.Proofs.YtkdhpifjljkpfaaGreat
open Go.RowKit

theorem fcs_list {w : World} {bs : List Fc} {A : Option Addr} (h : FcsAt w bs A) :
    ∃ xs : List FLain, xs.map (·.1) = bs ∧ (∀ x ∈ xs, TmAt w x.1.tm x.2.1 x.2.2) ∧ ∀ b o, A = some ⟨b, o, none⟩ → ∀ j u, (Frow xs)[j]? = some u → w.cell? ⟨b, o + j, none⟩ = some u := by
  have each : ∀ i, i < bs.length → ∃ y : FLain, (bs[i]?.map fun x => x) = some y.1 ∧ TmAt w y.1.tm y.2.1 y.2.2 ∧ ∀ b o, A = some ⟨b, o, none⟩ → ∀ j, j < 6 → w.cell? ⟨b, o + i * 6 + j, none⟩ = y.cells[j]? := by
    intro i hi
    obtain ⟨b, o, B, e, rfl, c0, c1, c2, c3, c4, c5, hT⟩ := h i hi
    refine ⟨(bs[i], B, e), by rw [List.getElem?_eq_getElem hi]; rfl, hT, fun b' o' eA j hj => ?_⟩
    injection eA with eA
    injection eA with e1 e2
    subst e1 e2
    have e5 : j = 0 ∨ j = 1 ∨ j = 2 ∨ j = 3 ∨ j = 4 ∨ j = 5 := by omega
    rcases e5 with rfl | rfl | rfl | rfl | rfl | rfl <;> simpa [FLain.cells]
  haveI : Inhabited FLain := ⟨⟨⟨⟨0, .empty, 0, []⟩, 0, 0⟩, none, 0⟩⟩
  obtain ⟨f, hf⟩ := Go.Deep.choose_lt (α := FLain) (h := each)
  have hl : ((List.range bs.length).map f).length = bs.length := by simp
  refine ⟨(List.range bs.length).map f, ?_, ?_, ?_⟩
  · apply List.ext_getElem (by simp)
    intro i h1 h2
    have := (hf i h2).1
    rw [List.getElem?_eq_getElem h2] at this
    simp only [Option.map_some, Option.some.injEq] at this
    simp [this]
  · intro x hx
    obtain ⟨i, hi, rfl⟩ := List.mem_map.1 hx
    have := hf i (by simpa using hi)
    exact this.2.1
  · intro b o eA j u hj
    have hlt : j < ((List.range bs.length).map f).length * 6 := by
      rw [← Frow_len]
      exact (List.getElem?_eq_some_iff.1 hj).1
    rw [hl] at hlt
    have e : j = j / 6 * 6 + j % 6 := by omega
    have hi : j / 6 < bs.length := by omega
    rw [e, Frow_at _ (j / 6) (j % 6) (by rw [hl]; exact hi) (by omega)] at hj
    have := (hf (j / 6) hi).2.2 b o eA (j % 6) (by omega)
    rw [e, ← Nat.add_assoc, this]
    simpa using hj
theorem fcs_src {w : World} {bs : List Fc} {A : Option Addr} {c : Nat} (h : FcsAt w bs A) (hc : bs.length ≤ c) {xs : List FLain} (hxs : xs.map (·.1) = bs) (hxc : ∀ b o, A = some ⟨b, o, none⟩ → ∀ j u, (Frow xs)[j]? = some u → w.cell? ⟨b, o + j, none⟩ = some u) :
    Src w A bs.length c 6 (Frow xs) := by
  have hl : xs.length = bs.length := by rw [← hxs, List.length_map]
  refine ⟨by rw [Frow_len, hl], ?_, hc⟩
  by_cases h0 : bs.length = 0
  · cases A with
    | none => exact .inl ⟨rfl, h0⟩
    | some a => exact .inr ⟨a, rfl, fun j u hj => by
        have : xs = [] := List.eq_nil_of_length_eq_zero (by omega)
        subst this
        simp [Frow] at hj⟩
  · obtain ⟨b, o, _, _, rfl, _⟩ := h 0 (by omega)
    exact .inr ⟨_, rfl, fun j u hj => by rw [add_addr]; exact hxc b o rfl j u hj⟩
theorem fcs_drop {w : World} {bs : List Fc} {A : Option Addr} {cap k : Nat} (h : FcsAt w bs A) (hk : k ≤ bs.length) (hc : bs.length ≤ cap) : FcsAt w (bs.drop k) (cutA A cap k 6) := by
  intro i hi
  rw [List.length_drop] at hi
  obtain ⟨b, o, C, e, rfl, c0, c1, c2, c3, c4, c5, hT⟩ := h (k + i) (by omega)
  have e0 : o + k * 6 + i * 6 = o + (k + i) * 6 := by omega
  refine ⟨b, o + k * 6, C, e, ?_, ?_, ?_, ?_, ?_, ?_, ?_, ?_⟩
  · unfold cutA
    rw [if_neg (by omega)]
    simp [add_addr]
  · rw [e0, c0]; simp
  · rw [e0, c1]; simp
  · rw [e0, c2]; simp
  · rw [e0, c3]; simp
  · rw [e0, c4]; simp
  · rw [e0, c5]; simp
  · simpa using hT
theorem fcs_take {w : World} {bs : List Fc} {A : Option Addr} {k : Nat} (h : FcsAt w bs A) : FcsAt w (bs.take k) A := by
  intro i hi
  rw [List.length_take] at hi
  obtain ⟨b, o, C, e, ea, c0, c1, c2, c3, c4, c5, hT⟩ := h i (by omega)
  exact ⟨b, o, C, e, ea, by simpa using c0, by simpa using c1, by simpa using c2, by simpa using c3, by simpa using c4, by simpa using c5, by simpa using hT⟩
theorem FOwned.weak {ks : List Fc} {w w5 w' : World} {v : Value} {zs : List FLain} {G : Nat → Nat → Prop} (h : FOwned ks w5 w' v zs G) (k : Ext w w5) : FOwned ks w w' v zs G :=
  ⟨h.map, ownsRow_base h.own k.size, ⟨h.inv.sub, fun i hi x hx => by have := h.inv.inF i hi x hx; exact ⟨Nat.le_trans k.size this.1, this.2⟩, h.inv.apart, k.trans h.inv.ext⟩⟩
theorem copyTakeF (us : List Fc) (k : Nat) (X : Option Addr) (c : Nat) (wr u : World) (h : FcsAt wr us X) (hk : k ≤ us.length) (hl : us.length ≤ 1000000) (hu : Ext wr u) :
    Calls Tryz.prog 56 #[.slice X k c] u fun e u' => ∃ v zs G, e = .returned v ∧ Hid (FOwned (us.take k) wr u' v zs G) ∧ zs.length = k ∧ u'.ownsRow wr.heap.size 44 6 v zs.length (Frow zs) ∧ Ext u u' ∧ Ext wr u' := by
  have e : (us.take k).length = k := by rw [List.length_take]; omega
  have hh := copyFacts_any (us.take k) X c u (by omega) (fcs_take (h.ext hu))
  rw [e] at hh
  refine hh.mono fun e' u' ⟨v, zs, G, he, hO⟩ => ?_
  have hO' := hO.weak hu
  have hz : zs.length = k := by rw [hO.len, e]
  exact ⟨v, zs, G, he, Lib.hid hO', hz, by have := hO'.own; rw [e] at this; rw [hz]; exact this, hO.inv.ext, hu.trans hO.inv.ext⟩
theorem copyOneF (y : Fc) (C : Option Addr) (e : Nat) (wr u : World) (h : TmAt wr y.tm C e) (hu : Ext wr u) :
    Calls Tryz.prog 48 #[y.val C e] u fun r u' => ∃ A' c', r = .returned (y.val A' c') ∧ Hid (TmOwn u' y.tm A' c' (fun k => u.heap.size ≤ k ∧ k < u'.heap.size)) ∧ Ext u u' ∧ Ext wr u' :=
  (copyFact_any y C e u (h.ext hu)).mono fun _ _ ⟨A', c', he, hO, hx⟩ => ⟨A', c', he, Lib.hid hO, hx, hu.trans hx⟩
theorem frows_joined {us : List Fc} {W w7 w8 : World} {v7 v8 : Value} {zs ld : List FLain} {G : Nat → Nat → Prop} {n base : Nat} (hM : FOwned us W w7 v7 zs G) (hg : w7.grownBy w8 v7.ownBlock) (hS : Ext W w8) (ho : w8.ownsRow base 44 6 v8 n (Frow zs ++ Frow ld))
    (hl : ∀ z ∈ ld, TmAt W z.1.tm z.2.1 z.2.2) : ∃ A c, v8 = .slice A (zs ++ ld).length c ∧ (zs ++ ld).length ≤ c ∧ FcsAt w8 ((zs ++ ld).map (·.1)) A := by
  rw [← Frow_app] at ho
  refine Fowned ho fun z hz => ?_
  rcases List.mem_append.1 hz with hz | hz
  · obtain ⟨i, hi, rfl⟩ := List.getElem_of_mem hz
    have ht := ((hM.inv.sub i (by simpa using hi)).keep (w' := w8) fun b hb hs => hg.block b hs (fun e => (hM.inv.inF i (by simpa using hi) b hb).2.2 e.symm)).at_
    exact ⟨by simpa [FLain.tl] using ht, trivial⟩
  · exact ⟨(hl z hz).ext hS, trivial⟩
end Go.Proofs.YtkdhpifjljkpfaaGreat

/- The page's Put: a fact put in its place. -/
namespace Go.Proofs.YtkdhpifjljkpfaaGreat
open Go.RowKit

theorem put_step {us : List Fc} {x : Fc} {k : Nat} {wz w5 w6 w7 : World} {v5 v7 : Value} {zs5 : List FLain} {G5 : Nat → Nat → Prop} {A6 : Option Addr} {c6 : Nat} {o : Obj} (h : FOwned (us.take k) wz w5 v5 zs5 G5) (hl : zs5.length = k)
    (hO : TmOwn w6 x.tm A6 c6 (fun k => w5.heap.size ≤ k ∧ k < w6.heap.size)) (hx : Ext w5 w6) (ho : w7.ownsRow wz.heap.size 44 6 v7 (zs5.length + 1) (Frow zs5 ++ FLain.cells (x, A6, c6))) (hg : (w6.alloc o).grownBy w7 v5.ownBlock) (hat : v7.ownBlock = v5.ownBlock ∨ v7.ownBlock = some (w6.heap.size + 1)) :
    ∃ zs7 : List FLain, Hid (zs7 = zs5 ++ [(x, A6, c6)]) ∧ Hid (∃ G7, FOwned (us.take k ++ [x]) wz w7 v7 zs7 G7) ∧ zs7.length = k + 1 ∧ w7.ownsRow wz.heap.size 44 6 v7 (k + 1) (Frow zs7) := by
  have e : (us.take k).length = zs5.length := h.len.symm
  obtain ⟨G7, h7⟩ := h.snoc hO hx hg hat (by rw [e]; exact ho)
  refine ⟨_, Lib.hid rfl, Lib.hid ⟨G7, h7⟩, by simp [hl], ?_⟩
  have := h7.own
  rw [show (us.take k ++ [x]).length = k + 1 by simp only [List.length_append, List.length_singleton]; omega] at this
  exact this
def PutTo (us : List Fc) (w : World) (e : Ending) (w' : World) : Prop := ∃ A c, e = .returned (.slice A us.length c) ∧ us.length ≤ c ∧ FcsAt w' us A ∧ Ext w w'
set_option maxRecDepth 100000 in
set_option maxHeartbeats 8000000 in
theorem rPut_any (us : List Fc) (x : Fc) (A B : Option Addr) (c d : Nat) (w : World) (hc : us.length ≤ c) (hl : us.length ≤ 100000) (h : FcsAt w us A) (hx : TmAt w x.tm B d) (hmu : ∀ y ∈ us, May y) (hmx : May x) (hne : ∀ y ∈ us, cmpF y x ≠ 0) :
    Calls Tryz.prog 33 #[.slice A us.length c, x.val B d] w (PutTo (putF us x) w) := by
  obtain ⟨i0, hi0, hz0, hz1, hz2⟩ := info_parts infoFc
  have HO : Hid (∀ e w', PutTo (putF us x) w e w' = ∃ A c, e = .returned (.slice A (putF us x).length c) ∧ (putF us x).length ≤ c ∧ FcsAt w' (putF us x) A ∧ Ext w w') := Lib.hid fun _ _ => rfl
  generalize PutTo (putF us x) w = Z at HO ⊢
  obtain ⟨W0, hW0⟩ : ∃ W0, W0 = w.alloc (.cells #[.int .i64 x.tm.kind, .string x.tm.name, .int .i64 x.tm.n, .slice B x.tm.args.length d, .int .i64 x.fr, .int .i64 x.til] 44) := ⟨_, rfl⟩
  have hx0 : Ext w W0 := by rw [hW0]; exact (Ext.refl w).alloc _
  have q0 : W0.cell? ⟨w.heap.size, 0, none⟩ = some (.int .i64 x.tm.kind) := by rw [hW0]; go_simp
  have q1 : W0.cell? ⟨w.heap.size, 1, none⟩ = some (.string x.tm.name) := by rw [hW0]; go_simp
  have q2 : W0.cell? ⟨w.heap.size, 2, none⟩ = some (.int .i64 x.tm.n) := by rw [hW0]; go_simp
  have q3 : W0.cell? ⟨w.heap.size, 3, none⟩ = some (.slice B x.tm.args.length d) := by rw [hW0]; go_simp
  have q4 : W0.cell? ⟨w.heap.size, 4, none⟩ = some (.int .i64 x.fr) := by rw [hW0]; go_simp
  have q5 : W0.cell? ⟨w.heap.size, 5, none⟩ = some (.int .i64 x.til) := by rw [hW0]; go_simp
  have HK := Lib.hid (h.ext hx0)
  have HT := Lib.hid (hx.ext hx0)
  have HX0 := Lib.hid hx0
  have HW := Lib.hid hW0
  have HMU := Lib.hid hmu
  have HMX := Lib.hid hmx
  have HNE := Lib.hid hne
  clear hW0 h hx hx0 hmu hmx hne
  go_enter Tryz.func33, Tryz.ntmps33
  go_upto_region 1 with (fail)
  rw [← HW.out]
  obtain ⟨g, hg⟩ : ∃ g, g = w.heap.size := ⟨_, rfl⟩
  rw [← hg] at q0 q1 q2 q3 q4 q5
  rw [← hg]
  clear HW hg
  go_wp2_with fail
  go_loopw [5] (fun i wr => ∃ k : Nat, k ≤ us.length ∧ i = .int .i64 k ∧ Hid (∀ j (h : j < us.length), j < k → cmpF us[j] x < 0) ∧ Ext W0 wr) (fun i _ => us.length - (intOf i).toNat)
  case atStart => exact ⟨0, Nat.zero_le _, rfl, Lib.hid fun i _ hi => absurd hi (by omega), Ext.refl _⟩
  case round =>
    obtain ⟨k, hk, rfl, HN, hxr⟩ := hrel
    by_cases hlt : k < us.length
    · obtain ⟨b, o, T, e, rfl, c0, c1, c2, c3, c4, c5, hsub⟩ := (HK.out.ext hxr) k hlt
      have hki : (k : Int) < (us.length : Int) := by omega
      have hk0 : (0 : Int) ≤ (k : Int) := by omega
      have KR := Lib.hid (fun u (k' : Ext wr u) => rFOrder_any us[k] x T B e d u (hsub.ext k') (HT.out.ext (hxr.trans k')) (HMU.out _ (List.getElem_mem hlt)).may HMX.out.may)
      have HZE := Lib.hid (HNE.out _ (List.getElem_mem hlt))
      have HNX : Hid (cmpF us[k] x < 0 → ∀ j (h : j < us.length), j < k + 1 → cmpF us[j] x < 0) := Lib.hid fun h9 j hj hjk => by
        by_cases e : j = k
        · subst e; exact h9
        · exact HN.out j hj (by omega)
      have HGX : Hid (¬ cmpF us[k] x < 0 → ∀ h : k < us.length, ¬ cmpF us[k] x < 0) := Lib.hid fun h9 _ => h9
      obtain ⟨V, hV⟩ : ∃ V, V = cmpF us[k] x := ⟨_, rfl⟩
      rw [← hV] at KR HZE HNX HGX
      have HX := Lib.hid hxr
      obtain ⟨y, hy⟩ : ∃ y : Fc, y = us[k] := ⟨_, rfl⟩
      rw [← hy] at c0 c1 c2 c3 c4 c5 KR
      have r0 := hxr.cell q0
      have r1 := hxr.cell q1
      have r2 := hxr.cell q2
      have r3 := hxr.cell q3
      have r4 := hxr.cell q4
      have r5 := hxr.cell q5
      have d0 : ∀ p : ExtOf wr, p.to.cell? _ = _ := ext_cell c0
      have d1 : ∀ p : ExtOf wr, p.to.cell? _ = _ := ext_cell c1
      have d2 : ∀ p : ExtOf wr, p.to.cell? _ = _ := ext_cell c2
      have d3 : ∀ p : ExtOf wr, p.to.cell? _ = _ := ext_cell c3
      have d4 : ∀ p : ExtOf wr, p.to.cell? _ = _ := ext_cell c4
      have d5 : ∀ p : ExtOf wr, p.to.cell? _ = _ := ext_cell c5
      have g0 : ∀ p : ExtOf wr, p.to.cell? _ = _ := ext_cell r0
      have g1 : ∀ p : ExtOf wr, p.to.cell? _ = _ := ext_cell r1
      have g2 : ∀ p : ExtOf wr, p.to.cell? _ = _ := ext_cell r2
      have g3 : ∀ p : ExtOf wr, p.to.cell? _ = _ := ext_cell r3
      have g4 : ∀ p : ExtOf wr, p.to.cell? _ = _ := ext_cell r4
      have g5 : ∀ p : ExtOf wr, p.to.cell? _ = _ := ext_cell r5
      have HLT := Lib.hid (And.intro hlt hl)
      clear hsub hxr r0 r1 r2 r3 r4 r5 hy hV
      by_cases hneg : V < 0
      · have hneg' : decide (V < 0) = true := decide_eq_true hneg
        have HN2 := Lib.hid (HNX.out hneg)
        clear HNX HGX c0 c1 c2 c3 c4 c5
        go_wp2_with fail
        refine wp_region_ext (by kernel_rfl) (by kernel_rfl) ?_
        repeat (go_big_quiet_step ((go_at_call 55; with_reducible exact of_ext (KR.out _ (ExtOf.is _)))))
        refine wpQuiet_nil ?_
        refine ext_all ?_
        intro w3 hx3
        have HX3 := Lib.hid (HX.out.trans hx3)
        clear hx3 d0 d1 d2 d3 d4 d5 g0 g1 g2 g3 g4 g5 KR q0 q1 q2 q3 q4 q5
        go_wp2_with fail
        go_roundw
        case rel => exact ⟨k + 1, HLT.out.1, by have := HLT.out; go_num, HN2, HX3.out⟩
        case measure => have := HLT.out; simp [intOf]; omega
      · have hneg' : decide (V < 0) = false := decide_eq_false hneg
        have hze : (V == 0) = false := by have := HZE.out; simpa using this
        have HGE : Hid (∀ h : k < us.length, ¬ cmpF us[k] x < 0) := Lib.hid (HGX.out hneg)
        clear HNX HGX
        go_wp2_with fail
        refine wp_region_ext (by kernel_rfl) (by kernel_rfl) ?_
        repeat (go_big_quiet_step ((go_at_call 55; with_reducible exact of_ext (KR.out _ (ExtOf.is _)))))
        refine wpQuiet_nil ?_
        refine ext_all ?_
        intro w3 hx3
        have HX3 := Lib.hid (HX.out.trans hx3)
        have KR2 := Lib.hid (fun u (k' : Ext w3 u) => KR.out u (hx3.trans k'))
        clear d0 d1 d2 d3 d4 d5 g0 g1 g2 g3 g4 g5 KR
        have r0 := HX3.out.cell q0
        have r1 := HX3.out.cell q1
        have r2 := HX3.out.cell q2
        have r3 := HX3.out.cell q3
        have r4 := HX3.out.cell q4
        have r5 := HX3.out.cell q5
        replace c0 := hx3.cell c0
        replace c1 := hx3.cell c1
        replace c2 := hx3.cell c2
        replace c3 := hx3.cell c3
        replace c4 := hx3.cell c4
        replace c5 := hx3.cell c5
        have d0 : ∀ p : ExtOf w3, p.to.cell? _ = _ := ext_cell c0
        have d1 : ∀ p : ExtOf w3, p.to.cell? _ = _ := ext_cell c1
        have d2 : ∀ p : ExtOf w3, p.to.cell? _ = _ := ext_cell c2
        have d3 : ∀ p : ExtOf w3, p.to.cell? _ = _ := ext_cell c3
        have d4 : ∀ p : ExtOf w3, p.to.cell? _ = _ := ext_cell c4
        have d5 : ∀ p : ExtOf w3, p.to.cell? _ = _ := ext_cell c5
        have g0 : ∀ p : ExtOf w3, p.to.cell? _ = _ := ext_cell r0
        have g1 : ∀ p : ExtOf w3, p.to.cell? _ = _ := ext_cell r1
        have g2 : ∀ p : ExtOf w3, p.to.cell? _ = _ := ext_cell r2
        have g3 : ∀ p : ExtOf w3, p.to.cell? _ = _ := ext_cell r3
        have g4 : ∀ p : ExtOf w3, p.to.cell? _ = _ := ext_cell r4
        have g5 : ∀ p : ExtOf w3, p.to.cell? _ = _ := ext_cell r5
        clear hx3 r0 r1 r2 r3 r4 r5 c0 c1 c2 c3 c4 c5
        go_upto_region 4 with (fail)
        refine wp_region_ext (by kernel_rfl) (by kernel_rfl) ?_
        repeat (go_big_quiet_step ((go_at_call 55; with_reducible exact of_ext (KR2.out _ (ExtOf.is _)))))
        refine wpQuiet_nil ?_
        refine ext_all ?_
        intro wz hx4
        have HXZ := Lib.hid (HX3.out.trans hx4)
        clear hx4 d0 d1 d2 d3 d4 d5 g0 g1 g2 g3 g4 g5 KR2 hneg hneg' hze
        have hXz : FcsAt wz us (some ⟨b, o, none⟩) := HK.out.ext HXZ.out
        have hTz : TmAt wz x.tm B d := HT.out.ext HXZ.out
        have r0 := fun (u : World) (y : Ext wz u) => y.cell (HXZ.out.cell q0)
        have r1 := fun (u : World) (y : Ext wz u) => y.cell (HXZ.out.cell q1)
        have r2 := fun (u : World) (y : Ext wz u) => y.cell (HXZ.out.cell q2)
        have r3 := fun (u : World) (y : Ext wz u) => y.cell (HXZ.out.cell q3)
        have r4 := fun (u : World) (y : Ext wz u) => y.cell (HXZ.out.cell q4)
        have r5 := fun (u : World) (y : Ext wz u) => y.cell (HXZ.out.cell q5)
        obtain ⟨A2, hA2⟩ : ∃ A2, A2 = cutA (some ⟨b, o, none⟩) c k 6 := ⟨_, rfl⟩
        have hXd : FcsAt wz (us.drop k) A2 := by rw [hA2]; exact fcs_drop hXz hk hc
        obtain ⟨ld, hld, hlt', hlc⟩ := fcs_list hXd
        have hldl : ld.length = us.length - k := by have h9 := congrArg List.length hld; rw [List.length_map, List.length_drop] at h9; exact h9
        have hsd : Hid (∀ u, Ext wz u → Src u A2 (us.length - k) (c - k) 6 (Frow ld)) := Lib.hid fun u y => by
          have := fcs_src (hXd.ext y) (c := c - k) (by rw [List.length_drop]; omega) hld (fun b o e j u h => y.cell (hlc b o e j u h))
          rwa [List.length_drop] at this
        have s1 := fun (u : World) => run_to Tryz.underlying23 Tryz.sizeOf44 u (some ⟨b, o, none⟩) us.length c k (by omega)
        have s2 := fun (u : World) => (run_from Tryz.underlying23 Tryz.sizeOf44 u (some ⟨b, o, none⟩) us.length c k hk).trans (congrArg (fun A => Result.ok (Value.slice A (us.length - k) (c - k)) u) hA2.symm)
        have KC := Lib.hid (fun u hu => copyTakeF us k (some ⟨b, o, none⟩) c wz u hXz hk (by omega) hu)
        have KY := Lib.hid (fun u hu => copyOneF x B d wz u hTz hu)
        have hZ0 := Ext.refl wz
        have HLD := Lib.hid hld
        have HLT' := Lib.hid hlt'
        have hkc : (k : Int) ≤ (c : Int) := by omega
        have hk0 : (0 : Int) ≤ (k : Int) := by omega
        have hkl : (k : Int) ≤ (us.length : Int) := by omega
        clear hA2 hXd hlc hld hlt' hXz hTz q0 q1 q2 q3 q4 q5
        go_upto_region 6 with (fail)
        go_region_held3 (fun u => Ext wz u) (first | assumption | exact hZ0.drew | exact hS8 | exact hS7 | exact Ext.alloc hS6 _ | exact hS6 | exact hS5)
          (first
            | (go_at_call 56; refine (KC.out _ (by assumption)).mono ?_; rintro e5 w5 ⟨v5, zs5, G5, rfl, HO5, hl5, ho5, hx5, hS5⟩)
            | (go_at_call 48; refine (KY.out _ (by assumption)).mono ?_; rintro e6 w6 ⟨A6, c6, rfl, HO6, hx6, hS6⟩)
            | (refine step_app _ (by rfl) _ _ 23 (by rfl) wz.heap.size 44 i0 _ 6 72 Tryz.underlying23 hi0 hz0 hz1 hz2 rfl (by decide) v7 (k + 1) (Frow zs7) (by rfl) ho7' A2 (us.length - k) (c - k) (Frow ld) (by rfl) (hsd.out _ hS7) (Frow_one' ld) (by simp only [maxLen]; omega) (by omega) hS7.size ?_; intro v8 w8 ho8 hg8 _; have hS8 : Ext wz w8 := hS7.own ho7' (Nat.le_refl _) hg8)
            | (refine step_app _ (by rfl) _ _ 23 (by rfl) wz.heap.size 44 i0 _ 6 72 Tryz.underlying23 hi0 hz0 hz1 hz2 rfl (by decide) v5 zs5.length (Frow zs5) (by rfl) ((ownsRow_ext ho5 hx6).alloc _) (some ⟨w6.heap.size, 0, none⟩) 1 1 (FLain.cells (x, A6, c6)) (by rfl) (Src.box w6 #[.int .i64 x.tm.kind, .string x.tm.name, .int .i64 x.tm.n, .slice A6 x.tm.args.length c6, .int .i64 x.fr, .int .i64 x.til] 44 6 rfl) (FLain.one _) (by simp only [maxLen]; omega) (by omega) (hS6.alloc _).size ?_; intro v7 w7 ho7 hg7 hat7; have hS7 : Ext wz w7 := (hS6.alloc _).own ((ownsRow_ext ho5 hx6).alloc _) (Nat.le_refl _) hg7; obtain ⟨zs7, HZ7, HO7, hl7, ho7'⟩ : ∃ zs7 : List FLain, Hid (zs7 = zs5 ++ [(x, A6, c6)]) ∧ Hid (∃ G7, FOwned (us.take k ++ [x]) wz w7 v7 zs7 G7) ∧ zs7.length = k + 1 ∧ w7.ownsRow wz.heap.size 44 6 v7 (k + 1) (Frow zs7) := put_step HO5.out hl5 HO6.out hx6 ho7 hg7 (by simpa using hat7); clear ho7 hat7))
        all_goals
          have HP := Lib.hid (putF_at x us k hk HN.out (fun h9 => by have := HGE.out h9; omega))
          obtain ⟨G7, hM7⟩ := HO7.out
          obtain ⟨A9, c9, rfl, hc9, hX9⟩ := frows_joined hM7 hg8 hS8 ho8 HLT'.out
          have HL : Hid ((zs7 ++ ld).map (·.1) = putF us x) := Lib.hid (by rw [List.map_append, hM7.map, HLD.out, HP.out, List.append_assoc]; rfl)
          have HLEN : Hid ((zs7 ++ ld).length = (putF us x).length) := Lib.hid (by rw [← HL.out, List.length_map])
          rw [HL.out] at hX9
          rw [HLEN.out] at hc9
          rw [HLEN.out]
          have HF : Hid (∃ A c, Ending.returned (.slice A9 (putF us x).length c9) = .returned (.slice A (putF us x).length c) ∧ (putF us x).length ≤ c ∧ FcsAt w8 (putF us x) A ∧ Ext w w8) := Lib.hid ⟨_, _, rfl, hc9, hX9, HX0.out.trans (HXZ.out.trans hS8)⟩
          clear HO7 hM7 hg8 ho8 hX9 hc9 HL HLEN KC KY hsd s1 s2 r0 r1 r2 r3 r4 r5 ho7' HZ7
          go_wp2_with fail
          rw [HO.out]
          exact HF.out
    · have hki : ¬ (k : Int) < (us.length : Int) := by omega
      have HGE : Hid (∀ h : k < us.length, ¬ cmpF us[k] x < 0) := Lib.hid fun h9 => absurd h9 hlt
      have HX := Lib.hid hxr
      clear hxr
      go_wp2_with fail
      refine wp_region_ext (by kernel_rfl) (by kernel_rfl) ?_
      repeat (go_big_quiet_step (fail))
      refine wpQuiet_nil ?_
      refine ext_all ?_
      intro w3 hx3
      have HX3 := Lib.hid (HX.out.trans hx3)
      clear hx3
      go_upto_region 4 with (fail)
      refine wp_region_ext (by kernel_rfl) (by kernel_rfl) ?_
      repeat (go_big_quiet_step (fail))
      refine wpQuiet_nil ?_
      refine ext_all ?_
      intro wz hx4
      have HXZ := Lib.hid (HX3.out.trans hx4)
      clear hx4 hki hlt
      have hXz : FcsAt wz us A := HK.out.ext HXZ.out
      have hTz : TmAt wz x.tm B d := HT.out.ext HXZ.out
      have r0 := fun (u : World) (y : Ext wz u) => y.cell (HXZ.out.cell q0)
      have r1 := fun (u : World) (y : Ext wz u) => y.cell (HXZ.out.cell q1)
      have r2 := fun (u : World) (y : Ext wz u) => y.cell (HXZ.out.cell q2)
      have r3 := fun (u : World) (y : Ext wz u) => y.cell (HXZ.out.cell q3)
      have r4 := fun (u : World) (y : Ext wz u) => y.cell (HXZ.out.cell q4)
      have r5 := fun (u : World) (y : Ext wz u) => y.cell (HXZ.out.cell q5)
      obtain ⟨A2, hA2⟩ : ∃ A2, A2 = cutA A c k 6 := ⟨_, rfl⟩
      have hXd : FcsAt wz (us.drop k) A2 := by rw [hA2]; exact fcs_drop hXz hk hc
      obtain ⟨ld, hld, hlt', hlc⟩ := fcs_list hXd
      have hldl : ld.length = us.length - k := by have h9 := congrArg List.length hld; rw [List.length_map, List.length_drop] at h9; exact h9
      have hsd : Hid (∀ u, Ext wz u → Src u A2 (us.length - k) (c - k) 6 (Frow ld)) := Lib.hid fun u y => by
        have := fcs_src (hXd.ext y) (c := c - k) (by rw [List.length_drop]; omega) hld (fun b o e j u h => y.cell (hlc b o e j u h))
        rwa [List.length_drop] at this
      have s1 := fun (u : World) => run_to Tryz.underlying23 Tryz.sizeOf44 u A us.length c k (by omega)
      have s2 := fun (u : World) => (run_from Tryz.underlying23 Tryz.sizeOf44 u A us.length c k hk).trans (congrArg (fun A => Result.ok (Value.slice A (us.length - k) (c - k)) u) hA2.symm)
      have KC := Lib.hid (fun u hu => copyTakeF us k A c wz u hXz hk (by omega) hu)
      have KY := Lib.hid (fun u hu => copyOneF x B d wz u hTz hu)
      have hZ0 := Ext.refl wz
      have HLD := Lib.hid hld
      have HLT' := Lib.hid hlt'
      have hkc : (k : Int) ≤ (c : Int) := by omega
      have hk0 : (0 : Int) ≤ (k : Int) := by omega
      have hkl : (k : Int) ≤ (us.length : Int) := by omega
      clear hA2 hXd hlc hld hlt' hXz hTz q0 q1 q2 q3 q4 q5
      go_upto_region 6 with (fail)
      go_region_held3 (fun u => Ext wz u) (first | assumption | exact hZ0.drew | exact hS8 | exact hS7 | exact Ext.alloc hS6 _ | exact hS6 | exact hS5)
        (first
          | (go_at_call 56; refine (KC.out _ (by assumption)).mono ?_; rintro e5 w5 ⟨v5, zs5, G5, rfl, HO5, hl5, ho5, hx5, hS5⟩)
          | (go_at_call 48; refine (KY.out _ (by assumption)).mono ?_; rintro e6 w6 ⟨A6, c6, rfl, HO6, hx6, hS6⟩)
          | (refine step_app _ (by rfl) _ _ 23 (by rfl) wz.heap.size 44 i0 _ 6 72 Tryz.underlying23 hi0 hz0 hz1 hz2 rfl (by decide) v7 (k + 1) (Frow zs7) (by rfl) ho7' A2 (us.length - k) (c - k) (Frow ld) (by rfl) (hsd.out _ hS7) (Frow_one' ld) (by simp only [maxLen]; omega) (by omega) hS7.size ?_; intro v8 w8 ho8 hg8 _; have hS8 : Ext wz w8 := hS7.own ho7' (Nat.le_refl _) hg8)
          | (refine step_app _ (by rfl) _ _ 23 (by rfl) wz.heap.size 44 i0 _ 6 72 Tryz.underlying23 hi0 hz0 hz1 hz2 rfl (by decide) v5 zs5.length (Frow zs5) (by rfl) ((ownsRow_ext ho5 hx6).alloc _) (some ⟨w6.heap.size, 0, none⟩) 1 1 (FLain.cells (x, A6, c6)) (by rfl) (Src.box w6 #[.int .i64 x.tm.kind, .string x.tm.name, .int .i64 x.tm.n, .slice A6 x.tm.args.length c6, .int .i64 x.fr, .int .i64 x.til] 44 6 rfl) (FLain.one _) (by simp only [maxLen]; omega) (by omega) (hS6.alloc _).size ?_; intro v7 w7 ho7 hg7 hat7; have hS7 : Ext wz w7 := (hS6.alloc _).own ((ownsRow_ext ho5 hx6).alloc _) (Nat.le_refl _) hg7; obtain ⟨zs7, HZ7, HO7, hl7, ho7'⟩ : ∃ zs7 : List FLain, Hid (zs7 = zs5 ++ [(x, A6, c6)]) ∧ Hid (∃ G7, FOwned (us.take k ++ [x]) wz w7 v7 zs7 G7) ∧ zs7.length = k + 1 ∧ w7.ownsRow wz.heap.size 44 6 v7 (k + 1) (Frow zs7) := put_step HO5.out hl5 HO6.out hx6 ho7 hg7 (by simpa using hat7); clear ho7 hat7))
      all_goals
        have HP := Lib.hid (putF_at x us k hk HN.out (fun h9 => by have := HGE.out h9; omega))
        obtain ⟨G7, hM7⟩ := HO7.out
        obtain ⟨A9, c9, rfl, hc9, hX9⟩ := frows_joined hM7 hg8 hS8 ho8 HLT'.out
        have HL : Hid ((zs7 ++ ld).map (·.1) = putF us x) := Lib.hid (by rw [List.map_append, hM7.map, HLD.out, HP.out, List.append_assoc]; rfl)
        have HLEN : Hid ((zs7 ++ ld).length = (putF us x).length) := Lib.hid (by rw [← HL.out, List.length_map])
        rw [HL.out] at hX9
        rw [HLEN.out] at hc9
        rw [HLEN.out]
        have HF : Hid (∃ A c, Ending.returned (.slice A9 (putF us x).length c9) = .returned (.slice A (putF us x).length c) ∧ (putF us x).length ≤ c ∧ FcsAt w8 (putF us x) A ∧ Ext w w8) := Lib.hid ⟨_, _, rfl, hc9, hX9, HX0.out.trans (HXZ.out.trans hS8)⟩
        clear HO7 hM7 hg8 ho8 hX9 hc9 HL HLEN KC KY hsd s1 s2 r0 r1 r2 r3 r4 r5 ho7' HZ7
        go_wp2_with fail
        rw [HO.out]
        exact HF.out
end Go.Proofs.YtkdhpifjljkpfaaGreat

/- The page's Sorted: what the program's tells. -/
namespace Go.Proofs.YtkdhpifjljkpfaaGreat
open Go.RowKit

/-- the first k put in -/
def putN (ks : List Kp) (k : Nat) : List Fc := ((ks.take k).map (·.fc)).foldl putF []
theorem putN_step {ks : List Kp} {k : Nat} (h : k < ks.length) : putN ks (k + 1) = putF (putN ks k) ks[k].fc := by
  unfold putN
  rw [List.take_succ_eq_append_getElem h, List.map_append, List.foldl_append]
  rfl
theorem putN_perm {ks : List Kp} (hne : (ks.map (·.fc)).Pairwise (fun x y => x ≠ y)) (hm : ∀ i (h : i < ks.length), May ks[i].fc) (k : Nat) : (putN ks k).Perm ((ks.take k).map (·.fc)) := by
  have hs : ((ks.take k).map (·.fc)).Sublist (ks.map (·.fc)) := (List.take_sublist k ks).map _
  have hmm : ∀ x ∈ (ks.take k).map (·.fc), May x := fun x hx => by
    obtain ⟨q, hq, rfl⟩ := List.mem_map.1 (hs.subset hx)
    obtain ⟨i, hi, rfl⟩ := List.getElem_of_mem hq
    exact hm i hi
  have := (foldl_put ((ks.take k).map (·.fc)) [] List.Pairwise.nil (by rw [List.nil_append]; exact hne.sublist hs) (by rw [List.nil_append]; exact hmm)).2
  rwa [List.nil_append] at this

set_option maxRecDepth 100000 in
set_option maxHeartbeats 4000000 in
theorem rSorted_any (ks : List Kp) (A : Option Addr) (c : Nat) (w : World) (hl : ks.length ≤ 100000) (h : KpsAt w ks A) (hne : (ks.map (·.fc)).Pairwise (fun x y => x ≠ y)) (hm : ∀ i (h : i < ks.length), May ks[i].fc) :
    Calls Tryz.prog 8 #[.slice A ks.length c] w (PutTo (srtF (ks.map (·.fc))) w) := by
  have HO : Hid (∀ A c w', (putN ks ks.length).length ≤ c → FcsAt w' (putN ks ks.length) A → Ext w w' → PutTo (srtF (ks.map (·.fc))) w (.returned (.slice A (putN ks ks.length).length c)) w') := Lib.hid fun A c w' h1 h2 h3 => by
    have e : putN ks ks.length = srtF (ks.map (·.fc)) := by unfold putN srtF; rw [List.take_length]
    rw [e] at h1 h2 ⊢
    exact ⟨A, c, rfl, h1, h2, h3⟩
  generalize PutTo (srtF (ks.map (·.fc))) w = Z at HO ⊢
  have HH := Lib.hid h
  have HM := Lib.hid hm
  have HNE := Lib.hid hne
  clear h hm hne
  go_enter Tryz.func8, Tryz.ntmps8
  go_wp2_with fail
  go_loopw [3, 4] (fun v i wr => ∃ (k m : Nat) (us : List Fc) (U : Option Addr) (cu : Nat), k ≤ ks.length ∧ i = .int .i64 k ∧ v = .slice U m cu ∧ m = us.length ∧ m ≤ cu ∧ Hid (us = putN ks k) ∧ FcsAt wr us U ∧ Ext w wr) (fun _ i _ => ks.length - (intOf i).toNat)
  case atStart => exact ⟨0, 0, [], none, 0, Nat.zero_le _, rfl, rfl, rfl, Nat.le_refl _, Lib.hid (by simp [putN]), FcsAt.nil _ _, Ext.refl _⟩
  case round =>
    obtain ⟨k, m, us, U, cu, hk, rfl, rfl, hmu, hmc, HU, hF, hx⟩ := hrel
    by_cases hlt : k < ks.length
    · obtain ⟨b, o, B, e, rfl, c0, c1, c2, c3, c4, c5, c6, hsub, _⟩ := (HH.out.ext hx) k hlt
      have hki : (k : Int) < (ks.length : Int) := by omega
      have hk0 : (0 : Int) ≤ (k : Int) := by omega
      have hp := putN_perm HNE.out HM.out k
      rw [← HU.out] at hp
      have hlen : us.length = k := by have := hp.length_eq; simpa [Nat.min_eq_left hk] using this
      have hmay : ∀ y ∈ us, May y := fun y hy => by
        obtain ⟨q, hq, rfl⟩ := List.mem_map.1 (hp.mem_iff.1 hy)
        obtain ⟨i, hi, rfl⟩ := List.getElem_of_mem (List.mem_of_mem_take hq)
        exact HM.out i hi
      have hnz : ∀ y ∈ us, cmpF y ks[k].fc ≠ 0 := fun y hy e9 => by
        have hz := cmpF_zero (hmay y hy) (HM.out k hlt)
        rw [e9] at hz
        have hyk : y = ks[k].fc := (eqF_iff _ _).1 hz.symm
        obtain ⟨i, hi, hiy⟩ := List.getElem_of_mem (hp.mem_iff.1 hy)
        have hik : i < k := by simp at hi; omega
        have := (List.pairwise_iff_getElem.1 HNE.out) i k (by simp; omega) (by simpa using hlt) hik
        simp only [List.getElem_map, List.getElem_take] at this hiy
        exact this (hiy.trans hyk)
      have KP := Lib.hid (by have h9 := rPut_any us ks[k].fc U B cu e wr (by omega) (by omega) hF hsub hmay (HM.out k hlt) hnz; rw [← hmu] at h9; exact h9)
      have HST := Lib.hid (putN_step hlt)
      rw [← HU.out] at HST
      have HX := Lib.hid hx
      have HLT := Lib.hid (And.intro hlt hl)
      generalize ks[k] = q at *
      clear hsub hx hF hp hmay hnz hlen hmu hmc
      obtain ⟨R, hR⟩ : ∃ R, R = putF us q.fc := ⟨_, rfl⟩
      rw [← hR] at KP HST
      have KP2 : Hid (Calls Tryz.prog 33 #[.slice U m cu, q.fc.val B e] wr fun e w' => ∃ A c, e = .returned (.slice A R.length c) ∧ R.length ≤ c ∧ FcsAt w' R A ∧ Ext wr w') := Lib.hid KP.out
      clear KP hR
      go_wp2_with fail
      refine KP2.out.mono ?_
      rintro e9 w1 ⟨A1, cc, rfl, hc1, hF1, hx1⟩
      have HF1 := Lib.hid (And.intro hc1 (And.intro hF1 (HX.out.trans hx1)))
      clear hc1 hF1 hx1 KP2 c0 c1 c2 c3 c4 c5 c6
      go_wp2_with fail
      go_roundw
      case rel => exact ⟨k + 1, _, R, A1, cc, HLT.out.1, by have := HLT.out; go_num, rfl, rfl, HF1.out.1, Lib.hid HST.out.symm, HF1.out.2.1, HF1.out.2.2⟩
      case measure => have := HLT.out; simp [intOf]; omega
    · have hki : ¬ (k : Int) < (ks.length : Int) := by omega
      have HF : Hid (Z (.returned (.slice U m cu)) wr) := Lib.hid (by
        have e9 : us = putN ks ks.length := by rw [HU.out, show k = ks.length by omega]
        subst hmu
        rw [e9] at hF hmc ⊢
        exact HO.out U cu wr hmc hF hx)
      clear hF hx hmu hmc
      go_wp2_with fail
      exact HF.out
end Go.Proofs.YtkdhpifjljkpfaaGreat
