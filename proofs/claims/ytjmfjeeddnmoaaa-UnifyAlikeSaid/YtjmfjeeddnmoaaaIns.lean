/- slices.Insert at binds: one bind more in a row of the call's own. -/
import Derived.Test.YtjmfjeeddnmoaaaRnm
import Derived.Test.YtjmfjeeddnmoaaaBd
import Derived.Lib.AppendZerosOnto
import Derived.Lib.Overlaps
import Derived.Laws.CopyRow
import Derived.Laws.CopyOwn
import Derived.Laws.Externs
import Derived.Deep.RegionLaw
namespace Go.Proofs.Ytjmfjeeddnmoaaa
open Go.RowKit

section
variable {P : Program}
theorem run_copy_rowk (w : World) (dT sT ty elem : TypeId) (size g o dLen dCap : Nat) (a : Addr) (sLen sCap : Nat) (cur : List Value) (t : TypeId) (cs : List Value)
    (hu : P.underlying dT = some (.slice elem)) (hs : (P.info? elem).map (·.size) = some size)
    (hg : w.heap[g]? = some (.cells cur.toArray t (0, 0))) (hn : cs.length = Nat.min sLen dLen * size)
    (hsrc : ∀ j v, cs[j]? = some v → w.cell? (a.add j) = some v) (hfit : o + cs.length ≤ cur.length) (h1 : ∀ v ∈ cs, v.oneCell' = true) :
    (Builtin.copy_ #[dT, sT] ty #[.slice (some ⟨g, o, none⟩) dLen dCap, .slice (some a) sLen sCap]).run P w =
      .ok (goInt (Nat.min sLen dLen)) (w.setRow g (splice cur o cs).toArray) := by
  have hl := run_firstCells_some (P := P) w size (Nat.min sLen dLen) a sLen sCap cs hn hsrc
  have hst := run_storeCells_at P g o t cs 0 cur.toArray w hg (by simpa using hfit) h1
  cases hq : P.info? elem with
  | none => simp [hq] at hs
  | some i =>
    have hi : i.size = size := by simpa [hq] using hs
    simp [Builtin.copy_, run_underlying hu, Builtin.lenOf, sizeOf, typeInfo, hq, hi, hl, hst, splice]

theorem grown_setRow (w : World) (g : Nat) (cs : Array Value) : w.grownBy (w.setRow g cs) (some g) :=
  ⟨rfl, rfl, rfl, by simp [World.setRow], fun k _ hne => setRow_other w g k cs (fun e => hne (by rw [e]))⟩

theorem wp_copy_k {w : World} {o : Oper} {a : Act} {K : Act → World → Prop} {Q : Exit → Act → World → Prop} (d s : Operand) (dT sT : TypeId)
    (ho : o.op = .call { callee := .builtin .copy, args := #[d, s], argTypes := #[dT, sT] }) (elem : TypeId) (size : Nat) (hu : P.underlying dT = some (.slice elem)) (hsz : (P.info? elem).map (·.size) = some size)
    (g off dLen dCap : Nat) (ad : Addr) (sLen sCap : Nat) (hd : a.eval d = .slice (some ⟨g, off, none⟩) dLen dCap) (hs : a.eval s = .slice (some ad) sLen sCap)
    (cur : List Value) (t : TypeId) (hg : w.heap[g]? = some (.cells cur.toArray t (0, 0))) (cs : List Value) (hn : cs.length = Nat.min sLen dLen * size)
    (hsrc : ∀ j v, cs[j]? = some v → w.cell? (ad.add j) = some v) (hfit : off + cs.length ≤ cur.length) (h1 : ∀ v ∈ cs, v.oneCell' = true)
    (h : ∀ w', Hid (w'.heap[g]? = some (.cells (splice cur off cs).toArray t (0, 0))) → Hid (w.grownBy w' (some g)) → K (a.put o.dst (goInt (Nat.min sLen dLen))) w') : o.wp P a w K Q := by
  have hrun := run_copy_rowk (P := P) w dT sT o.type elem size g off dLen dCap ad sLen sCap cur t cs hu hsz hg hn hsrc hfit h1
  unfold Oper.wp
  simp only [execOp, ho, resolve, invoke, builtin, Sem.run_bind, Sem.run_pure, Result.andThen_ok, List.map_toArray, List.map_cons, List.map_nil, hd, hs, hrun]
  exact h _ (Lib.hid (setRow_heap w g _ _ t _ hg)) (Lib.hid (grown_setRow w g _))
theorem wpList_copy_k {w : World} {ops : Array Oper} {rest : List Oper} {o : Oper} {a : Act} {Q : Exit → Act → World → Prop} (hgd : o.guard = none) (d s : Operand) (dT sT : TypeId)
    (ho : o.op = .call { callee := .builtin .copy, args := #[d, s], argTypes := #[dT, sT] }) (elem : TypeId) (size : Nat) (hu : P.underlying dT = some (.slice elem)) (hsz : (P.info? elem).map (·.size) = some size)
    (g off dLen dCap : Nat) (ad : Addr) (sLen sCap : Nat) (hd : a.eval d = .slice (some ⟨g, off, none⟩) dLen dCap) (hs : a.eval s = .slice (some ad) sLen sCap)
    (cur : List Value) (t : TypeId) (hg : w.heap[g]? = some (.cells cur.toArray t (0, 0))) (cs : List Value) (hn : cs.length = Nat.min sLen dLen * size)
    (hsrc : ∀ j v, cs[j]? = some v → w.cell? (ad.add j) = some v) (hfit : off + cs.length ≤ cur.length) (h1 : ∀ v ∈ cs, v.oneCell' = true)
    (h : ∀ w', Hid (w'.heap[g]? = some (.cells (splice cur off cs).toArray t (0, 0))) → Hid (w.grownBy w' (some g)) → wpList P ops Q rest (a.put o.dst (goInt (Nat.min sLen dLen))) w') : wpList P ops Q (o :: rest) a w :=
  wpList_plain hgd fun _ hK => wp_copy_k d s dT sT ho elem size hu hsz g off dLen dCap ad sLen sCap hd hs cur t hg cs hn hsrc hfit h1 fun w' h2 h3 => hK _ _ (h w' h2 h3)
theorem step_copy_k {ops : Array Oper} {o : Oper} {a : Act} {w : World} {K : Act → World → Prop} {Q : Exit → Act → World → Prop} {E : Prop} (hgd : o.guard = none) (d s : Operand) (dT sT : TypeId)
    (ho : o.op = .call { callee := .builtin .copy, args := #[d, s], argTypes := #[dT, sT] }) (elem : TypeId) (size : Nat) (hu : P.underlying dT = some (.slice elem)) (hsz : (P.info? elem).map (·.size) = some size)
    (g off dLen dCap : Nat) (ad : Addr) (sLen sCap : Nat) (hd : a.eval d = .slice (some ⟨g, off, none⟩) dLen dCap) (hs : a.eval s = .slice (some ad) sLen sCap)
    (cur : List Value) (t : TypeId) (hg : w.heap[g]? = some (.cells cur.toArray t (0, 0))) (cs : List Value) (hn : cs.length = Nat.min sLen dLen * size)
    (hsrc : ∀ j v, cs[j]? = some v → w.cell? (ad.add j) = some v) (hfit : off + cs.length ≤ cur.length) (h1 : ∀ v ∈ cs, v.oneCell' = true)
    (h : ∀ w', Hid (w'.heap[g]? = some (.cells (splice cur off cs).toArray t (0, 0))) → Hid (w.grownBy w' (some g)) → K (a.put o.dst (goInt (Nat.min sLen dLen))) w') :
    if Region.wanted o (yielded ops a.tmps) = true then Oper.wp P o a w K Q else E := by
  rw [if_pos (by simp [Region.wanted, hgd])]
  exact wp_copy_k d s dT sT ho elem size hu hsz g off dLen dCap ad sLen sCap hd hs cur t hg cs hn hsrc hfit h1 h
end

/-! lists -/
theorem splice_len {α : Type} (L : List α) (o : Nat) (cs : List α) (h : o + cs.length ≤ L.length) : (splice L o cs).length = L.length := length_splice L o cs h
/-- in place: the tail moved up, the news laid in -/
theorem shift_cells {α : Type} (cur xs news : List α) (N I s : Nat) (hx : cur.take N = xs) (hN : N ≤ cur.length) (hI : I ≤ N) (hs : news.length = s) (hc : N + s ≤ cur.length) :
    (splice (splice cur (I + s) (xs.drop I)) I news).take (N + s) = xs.take I ++ news ++ xs.drop I := by
  subst hx hs
  have hl : ((cur.take N).drop I).length = N - I := by rw [List.length_drop, List.length_take]; omega
  have hk : (cur.take (I + news.length)).length = I + news.length := by rw [List.length_take]; omega
  have hi : ((cur.take N).take I).length = I := by rw [List.length_take, List.length_take]; omega
  have h1 : (splice cur (I + news.length) ((cur.take N).drop I)).take I = (cur.take N).take I := by
    unfold splice
    rw [List.take_append_of_le_length (by omega), List.take_take, List.take_take]
    congr 1; omega
  have h2 : (splice cur (I + news.length) ((cur.take N).drop I)).drop (I + news.length) = (cur.take N).drop I ++ cur.drop (I + news.length + (N - I)) := by
    unfold splice
    rw [List.drop_append_of_le_length (by omega), List.drop_eq_nil_of_le (by omega), List.nil_append, hl]
  have e : splice (splice cur (I + news.length) ((cur.take N).drop I)) I news = ((cur.take N).take I ++ news ++ (cur.take N).drop I) ++ cur.drop (I + news.length + (N - I)) := by
    rw [splice, h1, h2]
    simp only [List.append_assoc]
  have hlen : ((cur.take N).take I ++ news ++ (cur.take N).drop I).length = N + news.length := by rw [List.length_append, List.length_append, hl, hi]; omega
  rw [e, List.take_append_of_le_length (by omega)]
  exact List.take_of_length_le (by omega)
/-- in a new row -/
theorem fresh_cells {α : Type} (xs news Z : List α) (N I s : Nat) (hN : xs.length = N) (hI : I ≤ N) (hs : news.length = s) (hZ : s + (N - I) ≤ Z.length) :
    (splice (splice (xs.take I ++ Z) I news) (I + s) (xs.drop I)).take (N + s) = xs.take I ++ news ++ xs.drop I := by
  subst hs hN
  have hI' : (xs.take I).length = I := by rw [List.length_take]; omega
  have hD : (xs.drop I).length = xs.length - I := List.length_drop
  have e1 : splice (xs.take I ++ Z) I news = (xs.take I ++ news) ++ Z.drop news.length := by
    unfold splice
    rw [List.take_append_of_le_length (by omega), List.take_of_length_le (by omega), List.drop_append, hI', List.drop_eq_nil_of_le (by omega), List.nil_append, Nat.add_sub_cancel_left, List.append_assoc]
  have hl : (xs.take I ++ news).length = I + news.length := by rw [List.length_append, hI']
  have e2 : splice (splice (xs.take I ++ Z) I news) (I + news.length) (xs.drop I) = (xs.take I ++ news ++ xs.drop I) ++ (Z.drop news.length).drop (xs.length - I) := by
    have hd : List.drop (I + news.length + (xs.length - I)) (xs.take I ++ news) = [] := List.drop_eq_nil_of_le (by omega)
    rw [e1, splice, List.take_append_of_le_length (by omega), List.take_of_length_le (by omega), hD, List.drop_append, hl, hd, List.nil_append, Nat.add_sub_cancel_left]
    simp only [List.append_assoc]
  rw [e2, List.take_append_of_le_length (by rw [List.length_append, hl, hD]; omega)]
  exact List.take_of_length_le (by rw [List.length_append, hl, hD]; omega)

theorem infoBd : (Try.prog.info? 65).map (fun i => (i.zero, i.size, i.bytes)) = some (some (.agg #[.string ⟨#[]⟩, .int .i64 0, .string ⟨#[]⟩, .int .i64 0, .slice none 0 0]), 5, 72) := by kernel_rfl
theorem sizeBd : (Try.prog.info? 65).map (·.size) = some 5 := by kernel_rfl
/-- what Insert has made -/
def InsOut (base n i : Nat) (v : Value) (xs news : List Value) (w : World) (e : Ending) (w' : World) : Prop :=
  ∃ v', e = .returned v' ∧ w'.ownsRow base 65 5 v' (n + 1) (xs.take (i * 5) ++ news ++ xs.drop (i * 5)) ∧ w.grownBy w' v.ownBlock

theorem grown_weak {w w' : World} {r : Option Nat} (h : w.grownBy w' none) : w.grownBy w' r := ⟨h.os, h.tape, h.output, h.size, fun k hk _ => h.block k hk (by simp)⟩

set_option maxRecDepth 100000 in
set_option maxHeartbeats 2000000 in
/-- at the end -/
theorem insert_end (base n : Nat) (v : Value) (xs : List Value) (w : World) (hown : w.ownsRow base 65 5 v n xs) (hbase : base ≤ w.heap.size) (hn : n ≤ 1000000) (vb vc : Nat) (news : List Value)
    (hl : news.length = 5) (hvs : ∀ j u, news[j]? = some u → w.cell? ⟨vb, j, none⟩ = some u) (h1 : ∀ u ∈ news, u.oneCell' = true) :
    Calls Try.prog 89 #[v, .int .i64 n, .slice (some ⟨vb, 0, none⟩) 1 vc] w (InsOut base n n v xs news w) := by
  obtain ⟨i0, hi0, hz0, hz1, hz2⟩ := info_parts infoBd
  have HX : Hid (xs.length = n * 5) := Lib.hid hown.1
  have HV := Lib.hid hvs
  have H1 := Lib.hid h1
  clear hvs h1
  have hshape : ∃ A c, v = .slice A n c ∧ n ≤ c ∧ c ≤ 9223372036854775807 := by
    rcases hown.2 with ⟨rfl, rfl⟩ | ⟨g, cap, cur, rfl, _, _, hnc, hcm, _, _⟩
    · exact ⟨none, 0, rfl, Nat.le_refl _, by omega⟩
    · exact ⟨_, cap, rfl, hnc, by unfold maxLen at hcm; omega⟩
  obtain ⟨A, c, rfl, hnc, hcm⟩ := hshape
  have hfrom := fun u => run_from (P := Try.prog) Try.underlying58 Try.sizeOf65 u A n c n (Nat.le_refl _)
  all_goals
    go_enter Try.func89, Try.ntmps89
    go_wp2_with (at_builtin; refine wpList_append_own _ rfl _ _ 58 rfl base 65 i0 _ 5 72 Try.underlying58 hi0 hz0 hz1 hz2 rfl (by decide) _ _ xs rfl hown ⟨vb, 0, none⟩ 1 vc news rfl ?c0 ?c1 ?c2 ?c3 ?c4 ?c5 ?_)
    case c0 => rw [hl]
    case c1 => intro j u hj; rw [add_addr, Nat.zero_add]; exact HV.out j u hj
    case c2 => exact H1.out
    case c3 => unfold maxLen; omega
    case c4 => omega
    case c5 => exact hbase
    intro v' w1 hown1 hgrow _
    have HO := Lib.hid hown1
    have HG := Lib.hid hgrow
    clear hown1 hgrow
    go_wp2_with fail
    go_ret
    exact ⟨_, rfl, by have := HO.out; rw [List.take_of_length_le (by have := HX.out; omega), List.drop_eq_nil_of_le (by have := HX.out; omega), List.append_nil]; exact this, HG.out⟩

theorem callOverlaps (w : World) (a b : Addr) (la ca lb cb : Nat) (hne : a.block ≠ b.block) (tA tB : TypeId) (kA kB : Nat) (hsa : w.shape? a.block = some (tA, kA)) (hsb : w.shape? b.block = some (tB, kB)) (hkB : kB ≠ 0)
    (hfa : w.frozen? a = false) (hfe : w.frozen? { block := a.block, off := kA } = false) :
    (callFunc 126 #[.slice (some a) la ca, .slice (some b) lb cb]).run Try.prog w = .ok (.value (.bool false)) w := by
  rw [run_callFunc_extern Try.func126 (by kernel_rfl) (by kernel_rfl) (by kernel_rfl) (e := Extern.SlicesOverlaps.overlaps #[58, 58] #[4]) (by kernel_rfl),
    Lib.run_overlaps_apart w 58 4 65 Try.underlying58 5 Try.sizeOf65 a b la ca lb cb hne tA tB kA kB hsa hsb hkB hfa hfe]
  rfl

theorem row_cell {w : World} {g : Nat} {cur : List Value} {t : TypeId} (h : w.heap[g]? = some (.cells cur.toArray t (0, 0))) (o : Nat) : w.cell? ⟨g, o, none⟩ = cur[o]? := by
  simp [World.cell?, h]
theorem row_shape {w : World} {g : Nat} {cur : List Value} {t : TypeId} (h : w.heap[g]? = some (.cells cur.toArray t (0, 0))) : w.shape? g = some (t, cur.length) := by
  simp [World.shape?, h]
theorem row_frozen {w : World} {g : Nat} {cur : List Value} {t : TypeId} (h : w.heap[g]? = some (.cells cur.toArray t (0, 0))) (a : Addr) (e : a.block = g) : w.frozen? a = false := by
  subst e
  simp [World.frozen?, h]
theorem ins_cells {n i : Nat} (hi : i < n) (N : Nat) (h : N = (n - i) * 5) : N = Nat.min (n + 1 - i) (n + 1 - (i + 1)) * 5 := by
  rw [h]; congr 1; simp only [Nat.min_def]; split <;> omega

set_option maxRecDepth 100000 in
set_option maxHeartbeats 4000000 in
/-- in place -/
theorem insert_room (base n i g cap : Nat) (cur : List Value) (xs : List Value) (w : World) (hg : w.heap[g]? = some (.cells cur.toArray 65 (0, 0))) (hgb : base ≤ g) (hcs : cur.length = cap * 5) (htk : cur.take (n * 5) = xs) (hxl : xs.length = n * 5) (h1x : ∀ u ∈ xs, u.oneCell' = true)
    (hi : i < n) (hroom : n + 1 ≤ cap) (hcm : cap ≤ 9223372036854775807) (hn : n ≤ 1000000) (vb vc : Nat) (news : List Value) (hvg : vb ≠ g)
    (hl : news.length = 5) (hv : w.heap[vb]? = some (.cells news.toArray 65 (0, 0))) (h1 : ∀ u ∈ news, u.oneCell' = true) :
    Calls Try.prog 89 #[.slice (some ⟨g, 0, none⟩) n cap, .int .i64 i, .slice (some ⟨vb, 0, none⟩) 1 vc] w (InsOut base n i (.slice (some ⟨g, 0, none⟩) n cap) xs news w) := by
  have hov : ∀ lb cb, (callFunc 126 #[.slice (some ⟨vb, 0, none⟩) 1 vc, .slice (some ⟨g, (i + 1) * 5, none⟩) lb cb]).run Try.prog w = .ok (.value (.bool false)) w := fun lb cb =>
    callOverlaps w ⟨vb, 0, none⟩ ⟨g, (i + 1) * 5, none⟩ 1 vc lb cb hvg _ _ _ _ (row_shape hv) (row_shape hg) (by omega) (row_frozen hv _ rfl) (row_frozen hv _ rfl)
  have r0 := fun u => run_from (P := Try.prog) Try.underlying58 Try.sizeOf65 u (some ⟨g, 0, none⟩) n cap i (by omega)
  have r1 := fun u => run_to (P := Try.prog) Try.underlying58 Try.sizeOf65 u (some ⟨g, 0, none⟩) n cap (n + 1) (by omega)
  have r2 := fun u => run_from (P := Try.prog) Try.underlying58 Try.sizeOf65 u (some ⟨g, 0, none⟩) (n + 1) cap (i + 1) (by omega)
  have r3 := fun u => run_from (P := Try.prog) Try.underlying58 Try.sizeOf65 u (some ⟨g, 0, none⟩) (n + 1) cap i (by omega)
  have e2 : cutA (some ⟨g, 0, none⟩) cap (i + 1) 5 = some ⟨g, (i + 1) * 5, none⟩ := by unfold cutA; rw [if_neg (by omega)]; simp [add_addr]
  have e3 : cutA (some ⟨g, 0, none⟩) cap i 5 = some ⟨g, i * 5, none⟩ := by unfold cutA; rw [if_neg (by omega)]; simp [add_addr]
  rw [e2] at r2
  rw [e3] at r3
  simp only [Int.natCast_add, Int.natCast_one] at r1 r2
  have HX := Lib.hid hxl
  have H1 := Lib.hid h1
  have H1X := Lib.hid h1x
  have HG := Lib.hid hg
  have HV := Lib.hid hv
  have HTK := Lib.hid htk
  have HCS := Lib.hid hcs
  have HL := Lib.hid hl
  clear e2 e3 hxl h1 h1x hg hv htk hcs hl
  have i0 : (0 : Int) ≤ (i : Int) := Int.natCast_nonneg _
  have i1 : (i : Int) < (n : Int) := by omega
  have n1 : (n : Int) + 1 ≤ (cap : Int) := by omega
  go_enter Try.func89, Try.ntmps89
  go_wp2_with (simp only [hov])
  have hw1 : IntKind.i64.wrap ((i : Int) + 1) = (i : Int) + 1 := by rw [IntKind.wrap_i64]; omega
  have hx5 := HX.out
  have N1 : Hid ((xs.drop (i * 5)).length = Nat.min (n + 1 - i) (n - i) * 5) := Lib.hid (by rw [List.length_drop, hx5]; simp only [Nat.min_def]; split <;> omega)
  have S1 : Hid (∀ j v, (xs.drop (i * 5))[j]? = some v → w.drew.cell? ((⟨g, i * 5, none⟩ : Addr).add j) = some v) := Lib.hid (fun j v hj => by
    rw [add_addr]
    show w.cell? _ = _
    rw [row_cell HG.out]
    rw [List.getElem?_drop, ← HTK.out, List.getElem?_take] at hj
    split at hj
    · exact hj
    · cases hj)
  have F1 : Hid ((i + 1) * 5 + (xs.drop (i * 5)).length ≤ cur.length) := Lib.hid (by rw [List.length_drop, hx5, HCS.out]; omega)
  have O1 : Hid (∀ v ∈ xs.drop (i * 5), v.oneCell' = true) := Lib.hid (fun v hv => H1X.out v (List.mem_of_mem_drop hv))
  clear hx5
  go_region_law (refine step_copy_k rfl (.tmp 73) (.tmp 76) 58 58 rfl 65 5 Try.underlying58 sizeBd g ((i + 1) * 5) (n - i) (cap - (i + 1)) ⟨g, i * 5, none⟩ (n + 1 - i) (cap - i) (by simp [Act.eval, Act.put]) (by simp [Act.eval, Act.put]) cur 65 HG.out (xs.drop (i * 5)) N1.out S1.out F1.out O1.out ?_; intro w2 HG2 HR2)
  have N2 : Hid (news.length = Nat.min 1 (n + 1 - i) * 5) := Lib.hid (by rw [HL.out]; simp only [Nat.min_def]; split <;> omega)
  have S2 : Hid (∀ j v, news[j]? = some v → w2.cell? ((⟨vb, 0, none⟩ : Addr).add j) = some v) := Lib.hid (fun j v hj => by
    rw [add_addr, Nat.zero_add]
    have hv2 : w2.heap[vb]? = some (.cells news.toArray 65 (0, 0)) := (HR2.out.block vb (Array.getElem?_eq_some_iff.1 HV.out).1 (fun e => hvg (Option.some.inj e))).trans HV.out
    rw [row_cell hv2]; exact hj)
  have F2 : Hid (i * 5 + news.length ≤ (splice cur ((i + 1) * 5) (xs.drop (i * 5))).length) := Lib.hid (by rw [splice_len _ _ _ F1.out, HL.out, HCS.out]; omega)
  go_wp2_with (refine wpList_copy_k rfl (.tmp 80) (.tmp 81) 58 58 rfl 65 5 Try.underlying58 sizeBd g (i * 5) (n + 1 - i) (cap - i) ⟨vb, 0, none⟩ 1 vc rfl rfl (splice cur ((i + 1) * 5) (xs.drop (i * 5))) 65 HG2.out news N2.out S2.out F2.out H1.out ?_; intro w3 HG3 HR3)
  go_ret
  have hlen : (splice (splice cur ((i + 1) * 5) (xs.drop (i * 5))) (i * 5) news).length = cap * 5 := by rw [splice_len _ _ _ F2.out, splice_len _ _ _ F1.out, HCS.out]
  refine ⟨_, rfl, ⟨?_, .inr ⟨g, cap, _, rfl, hgb, HG3.out, hroom, ?_, by simpa using hlen, ?_⟩⟩, ?_⟩
  · have hx5 := HX.out
    simp only [List.length_append, List.length_take, List.length_drop, HL.out, hx5]; omega
  · unfold maxLen; omega
  · have := shift_cells cur xs news (n * 5) (i * 5) 5 HTK.out (by rw [HCS.out]; omega) (by omega) HL.out (by rw [HCS.out]; omega)
    rw [show i * 5 + 5 = (i + 1) * 5 by omega, show n * 5 + 5 = (n + 1) * 5 by omega] at this
    exact this
  · exact ⟨HR3.out.os.trans HR2.out.os, HR3.out.tape.trans HR2.out.tape, HR3.out.output.trans HR2.out.output, Nat.le_trans HR2.out.size HR3.out.size, fun k hk hne => (HR3.out.block k (Nat.lt_of_lt_of_le hk HR2.out.size) hne).trans (HR2.out.block k hk hne)⟩

set_option maxRecDepth 100000 in
set_option maxHeartbeats 4000000 in
/-- in a new row -/
theorem insert_grow (base n i g cap : Nat) (cur : List Value) (xs : List Value) (w : World) (hg : w.heap[g]? = some (.cells cur.toArray 65 (0, 0))) (hbase : base ≤ w.heap.size) (hcs : cur.length = cap * 5) (htk : cur.take (n * 5) = xs) (hxl : xs.length = n * 5) (h1x : ∀ u ∈ xs, u.oneCell' = true)
    (hi : i < n) (hnc : n ≤ cap) (hroom : cap < n + 1) (hn : n ≤ 1000000) (vb vc : Nat) (news : List Value)
    (hl : news.length = 5) (hv : w.heap[vb]? = some (.cells news.toArray 65 (0, 0))) (h1 : ∀ u ∈ news, u.oneCell' = true) :
    Calls Try.prog 89 #[.slice (some ⟨g, 0, none⟩) n cap, .int .i64 i, .slice (some ⟨vb, 0, none⟩) 1 vc] w (InsOut base n i (.slice (some ⟨g, 0, none⟩) n cap) xs news w) := by
  obtain ⟨i0', hi0, hz0, hz1, hz2⟩ := info_parts infoBd
  obtain ⟨G, hG⟩ : ∃ G, G = grownCap w (n + 1) cap 65 := ⟨_, rfl⟩
  have hGn : n + 1 ≤ G := by rw [hG]; exact grownCap_ge w _ _ _
  have hGm : G ≤ maxLen := by rw [hG]; exact grownCap_le_maxLen w (n + 1) cap _ (by unfold maxLen; omega)
  have hGm' : G ≤ 9223372036854775807 := by unfold maxLen at hGm; omega
  have hxi : (xs.take (i * 5)).length = i * 5 := by rw [List.length_take, hxl]; omega
  have hcell : ∀ j u, (xs.take (i * 5))[j]? = some u → w.cell? ⟨g, j, none⟩ = some u := fun j u hj => by
    rw [row_cell hg]
    rw [List.getElem?_take] at hj
    split at hj
    · rw [← htk, List.getElem?_take] at hj
      split at hj
      · exact hj
      · cases hj
    · cases hj
  have hold : (Builtin.firstCells i0'.size i (.slice (some ⟨g, 0, none⟩) i cap)).run Try.prog w.drew = .ok (xs.take (i * 5)).toArray w.drew := by
    rw [hz1]
    exact run_firstCells_some w.drew 5 i ⟨g, 0, none⟩ i cap (xs.take (i * 5)) hxi (fun j u hj => by rw [add_addr, Nat.zero_add]; exact hcell j u hj)
  have hik : i + (n + 1 - i) = n + 1 := by omega
  obtain ⟨Z, hZ⟩ : ∃ Z : List Value, Z = (Builtin.zeroCells (Value.agg #[.string ⟨#[]⟩, .int .i64 0, .string ⟨#[]⟩, .int .i64 0, .slice none 0 0]).cells (n + 1 - i)).toList ++ (Builtin.zeroCells (Value.agg #[.string ⟨#[]⟩, .int .i64 0, .string ⟨#[]⟩, .int .i64 0, .slice none 0 0]).cells (G - (n + 1))).toList := ⟨_, rfl⟩
  have hZl : Z.length = (G - i) * 5 := by
    rw [hZ, List.length_append, Array.length_toList, Array.length_toList, size_zeroCells, size_zeroCells]
    simp only [Value.cells, List.size_toArray, List.length_cons, List.length_nil]; omega
  have hrz : ∀ ty, (Builtin.append_ #[58, 3] ty #[.slice (some ⟨g, 0, none⟩) i cap, .int .i64 ((n : Int) + 1 - (i : Int))]).run Try.prog w =
      .ok (.slice (some ⟨w.heap.size, 0, none⟩) (n + 1) G) (w.drew.alloc (.cells (xs.take (i * 5) ++ Z).toArray 65)) := fun ty => by
    have h := Lib.run_append_grow_zeros (P := Try.prog) w 58 3 ty 65 i0' _ .i64 .i64 Try.underlying58 Try.underlying3 hi0 hz0 (some ⟨g, 0, none⟩) i cap (xs.take (i * 5)) hold (n + 1 - i) (by omega) (by omega) (by omega) (by omega) (by rw [hz2]; omega) (by rw [hz2, hik]; exact growslice_fits hroom (by omega))
    rw [hik, ← hG] at h
    rw [show (n : Int) + 1 - (i : Int) = ((n + 1 - i : Nat) : Int) by omega, h]
    congr 3
    rw [hZ]
    apply Array.ext'
    simp
  have r0 := fun u => run_from (P := Try.prog) Try.underlying58 Try.sizeOf65 u (some ⟨g, 0, none⟩) n cap i (by omega)
  have r1 := fun u => run_to (P := Try.prog) Try.underlying58 Try.sizeOf65 u (some ⟨g, 0, none⟩) n cap i (by omega)
  have r2 := fun u => run_from (P := Try.prog) Try.underlying58 Try.sizeOf65 u (some ⟨w.heap.size, 0, none⟩) (n + 1) G i (by omega)
  have r3 := fun u => run_from (P := Try.prog) Try.underlying58 Try.sizeOf65 u (some ⟨w.heap.size, 0, none⟩) (n + 1) G (i + 1) (by omega)
  have e0 : cutA (some ⟨g, 0, none⟩) cap i 5 = some ⟨g, i * 5, none⟩ := by unfold cutA; rw [if_neg (by omega)]; simp [add_addr]
  have e2 : cutA (some ⟨w.heap.size, 0, none⟩) G i 5 = some ⟨w.heap.size, i * 5, none⟩ := by unfold cutA; rw [if_neg (by omega)]; simp [add_addr]
  have e3 : cutA (some ⟨w.heap.size, 0, none⟩) G (i + 1) 5 = some ⟨w.heap.size, (i + 1) * 5, none⟩ := by unfold cutA; rw [if_neg (by omega)]; simp [add_addr]
  rw [e0] at r0
  rw [e2] at r2
  rw [e3] at r3
  simp only [Int.natCast_add, Int.natCast_one] at r3
  have hgs := (Array.getElem?_eq_some_iff.1 hg).1
  have hvs := (Array.getElem?_eq_some_iff.1 hv).1
  obtain ⟨w1, hw1⟩ : ∃ w1, w1 = w.drew.alloc (.cells (xs.take (i * 5) ++ Z).toArray 65) := ⟨_, rfl⟩
  rw [← hw1] at hrz
  have hgr1 : Hid (w.grownBy w1 none) := Lib.hid (by rw [hw1]; exact ⟨rfl, rfl, rfl, by simp, fun k hk _ => heap_alloc_old w.drew _ hk⟩)
  have HR : Hid (w1.heap[w.heap.size]? = some (.cells (xs.take (i * 5) ++ Z).toArray 65 (0, 0))) := Lib.hid (by rw [hw1]; exact heap_alloc_new w.drew _)
  have HRun := Lib.hid hrz
  have HX := Lib.hid hxl
  have H1 := Lib.hid h1
  have H1X := Lib.hid h1x
  have HG := Lib.hid hg
  have HV := Lib.hid hv
  have HTK := Lib.hid htk
  have HCS := Lib.hid hcs
  have HL := Lib.hid hl
  have HZL := Lib.hid hZl
  have hxi' := Lib.hid hxi
  clear e0 e2 e3 hxl h1 h1x hg hv htk hcs hl hw1 hZ hZl hG hold hcell hxi hrz hik hz0 hz1 hz2 hi0
  have j0 : (0 : Int) ≤ (i : Int) := Int.natCast_nonneg _
  have j1 : (i : Int) < (n : Int) := by omega
  have n1 : (cap : Int) < (n : Int) + 1 := by omega
  go_enter Try.func89, Try.ntmps89
  have N1 : Hid (news.length = Nat.min 1 (n + 1 - i) * 5) := Lib.hid (by rw [HL.out]; simp only [Nat.min_def]; split <;> omega)
  have S1 : Hid (∀ j v, news[j]? = some v → w1.cell? ((⟨vb, 0, none⟩ : Addr).add j) = some v) := Lib.hid (fun j v hj => by
    rw [add_addr, Nat.zero_add]
    have hv2 : w1.heap[vb]? = some (.cells news.toArray 65 (0, 0)) := (hgr1.out.block vb hvs (by simp)).trans HV.out
    rw [row_cell hv2]; exact hj)
  have F1 : Hid (i * 5 + news.length ≤ (xs.take (i * 5) ++ Z).length) := Lib.hid (by rw [List.length_append, hxi'.out, HZL.out, HL.out]; omega)
  go_wp2_with (first
    | (at_builtin; refine Lib.wpList_append_run _ rfl _ _ _ _ rfl _ _ rfl rfl _ _ (HRun.out _) ?_)
    | (refine wpList_copy_k rfl (.tmp 43) (.tmp 44) 58 58 rfl 65 5 Try.underlying58 sizeBd w.heap.size (i * 5) (n + 1 - i) (G - i) ⟨vb, 0, none⟩ 1 vc rfl rfl (xs.take (i * 5) ++ Z) 65 HR.out news N1.out S1.out F1.out H1.out ?_; intro w2 HG2 HR2))
  have hw1' : IntKind.i64.wrap ((i : Int) + 1) = (i : Int) + 1 := by rw [IntKind.wrap_i64]; omega
  have hx5 := HX.out
  have N2 : Hid ((xs.drop (i * 5)).length = Nat.min (n - i) (n - i) * 5) := Lib.hid (by rw [List.length_drop, hx5]; simp only [Nat.min_def]; split <;> omega)
  have S2 : Hid (∀ j v, (xs.drop (i * 5))[j]? = some v → w2.drew.cell? ((⟨g, i * 5, none⟩ : Addr).add j) = some v) := Lib.hid (fun j v hj => by
    rw [add_addr]
    show w2.cell? _ = _
    have hg2 : w2.heap[g]? = some (.cells cur.toArray 65 (0, 0)) := ((HR2.out.block g (Nat.lt_of_lt_of_le hgs hgr1.out.size) (fun e => by have := Option.some.inj e; omega)).trans (hgr1.out.block g hgs (by simp))).trans HG.out
    rw [row_cell hg2]
    rw [List.getElem?_drop, ← HTK.out, List.getElem?_take] at hj
    split at hj
    · exact hj
    · cases hj)
  have F2 : Hid ((i + 1) * 5 + (xs.drop (i * 5)).length ≤ (splice (xs.take (i * 5) ++ Z) (i * 5) news).length) := Lib.hid (by rw [splice_len _ _ _ F1.out, List.length_append, hxi'.out, HZL.out, List.length_drop, hx5]; omega)
  have O2 : Hid (∀ v ∈ xs.drop (i * 5), v.oneCell' = true) := Lib.hid (fun v hv => H1X.out v (List.mem_of_mem_drop hv))
  clear hx5
  go_region_law (refine step_copy_k rfl (.tmp 50) (.tmp 53) 58 58 rfl 65 5 Try.underlying58 sizeBd w.heap.size ((i + 1) * 5) (n - i) (G - (i + 1)) ⟨g, i * 5, none⟩ (n - i) (cap - i) (by simp [Act.eval, Act.put]) (by simp [Act.eval, Act.put]) (splice (xs.take (i * 5) ++ Z) (i * 5) news) 65 HG2.out (xs.drop (i * 5)) N2.out S2.out F2.out O2.out ?_; intro w3 HG3 HR3)
  go_wp2_with fail
  go_ret
  have hlen : (splice (splice (xs.take (i * 5) ++ Z) (i * 5) news) ((i + 1) * 5) (xs.drop (i * 5))).length = G * 5 := by rw [splice_len _ _ _ F2.out, splice_len _ _ _ F1.out, List.length_append, hxi'.out, HZL.out]; omega
  refine ⟨_, rfl, ⟨?_, .inr ⟨w.heap.size, G, _, rfl, hbase, HG3.out, hGn, hGm, by simpa using hlen, ?_⟩⟩, ?_⟩
  · have hx5 := HX.out
    simp only [List.length_append, List.length_take, List.length_drop, HL.out, hx5]; omega
  · have := fresh_cells xs news Z (n * 5) (i * 5) 5 HX.out (by omega) HL.out (by rw [HZL.out]; omega)
    rw [show i * 5 + 5 = (i + 1) * 5 by omega, show n * 5 + 5 = (n + 1) * 5 by omega] at this
    exact this
  · exact ⟨HR3.out.os.trans (HR2.out.os.trans hgr1.out.os), HR3.out.tape.trans (HR2.out.tape.trans hgr1.out.tape), HR3.out.output.trans (HR2.out.output.trans hgr1.out.output), Nat.le_trans hgr1.out.size (Nat.le_trans HR2.out.size HR3.out.size), fun k hk _ =>
      (HR3.out.block k (Nat.lt_of_lt_of_le hk (Nat.le_trans hgr1.out.size HR2.out.size)) (fun e => by have := Option.some.inj e; omega)).trans ((HR2.out.block k (Nat.lt_of_lt_of_le hk hgr1.out.size) (fun e => by have := Option.some.inj e; omega)).trans (hgr1.out.block k hk (by simp)))⟩

/-- Insert, at a row of the call's own -/
theorem insert_any (base n i : Nat) (v : Value) (xs : List Value) (w : World) (hown : w.ownsRow base 65 5 v n xs) (h1x : ∀ u ∈ xs, u.oneCell' = true) (hbase : base ≤ w.heap.size) (hi : i ≤ n) (hn : n ≤ 1000000) (vb vc : Nat) (news : List Value)
    (hvb : v.ownBlock ≠ some vb) (hl : news.length = 5) (hv : w.heap[vb]? = some (.cells news.toArray 65 (0, 0))) (h1 : ∀ u ∈ news, u.oneCell' = true) :
    Calls Try.prog 89 #[v, .int .i64 i, .slice (some ⟨vb, 0, none⟩) 1 vc] w (InsOut base n i v xs news w) := by
  rcases Nat.lt_or_ge i n with hlt | hge
  · rcases hown.2 with ⟨rfl, rfl⟩ | ⟨g, cap, cur, rfl, hgb, hg, hnc, hcm, hcs, htk⟩
    · omega
    · have hg' : w.heap[g]? = some (.cells cur.toList.toArray 65 (0, 0)) := by simpa using hg
      have hcs' : cur.toList.length = cap * 5 := by simpa using hcs
      by_cases hroom : n + 1 ≤ cap
      · exact insert_room base n i g cap cur.toList xs w hg' hgb hcs' htk hown.1 h1x hlt hroom (by unfold maxLen at hcm; omega) hn vb vc news (fun e => hvb (by rw [e]; rfl)) hl hv h1
      · exact insert_grow base n i g cap cur.toList xs w hg' hbase hcs' htk hown.1 h1x hlt hnc (by omega) hn vb vc news hl hv h1
  · obtain rfl : i = n := by omega
    exact insert_end base i v xs w hown hbase hn vb vc news hl (fun j u hj => by rw [row_cell hv]; exact hj) h1
end Go.Proofs.Ytjmfjeeddnmoaaa
