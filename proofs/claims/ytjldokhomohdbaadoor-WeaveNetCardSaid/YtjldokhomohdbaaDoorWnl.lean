/- WeaveNet: what both nets come to, and its walk. -/
import Derived.Test.YtjldokhomohdbaaDoorWng
import Derived.Test.YtjldokhomohdbaaDoorWpa
import Derived.Test.YtjldokhomohdbaaDoorWvx
import Derived.Deep.DeepCutAuto
namespace Go.Proofs.YtjldokhomohdbaaDoor
open Go.RowKit Go.Maps

theorem within5 (x : Int) (w : World) : Calls Tryd.prog 20 #[.int .i64 x, .int .i64 5] w fun e w' => ∃ f : Nat, f < 5 ∧ e = .returned (.int .i64 (f : Int)) ∧ w' = w := by
  refine (within_any x 5 (by decide) (by decide) w).mono fun e w' ⟨he, hw⟩ => ?_
  obtain ⟨b0, b1⟩ := win_bd x (n := ((5 : Nat) : Int)) (by omega)
  exact ⟨(winI x ((5 : Nat) : Int)).toNat, by omega, by rw [he]; congr 2; omega, hw⟩
def b5 (n : Int) : Bool := decide (1 ≤ n) && decide (n ≤ 5)
theorem between5_any (n : Int) (w : World) : Calls Tryd.prog 23 #[.int .i64 n, .int .i64 1, .int .i64 5] w fun e w' => e = .returned (.bool (b5 n)) ∧ w' = w := by
  have HS : Hid (b5 n = (decide (1 ≤ n) && decide (n ≤ 5))) := Lib.hid rfl
  by_cases h1 : 1 ≤ n
  · go_enter Tryd.func23, Tryd.ntmps23
    go_wp2_with fail
    go_ret
    exact ⟨ret_bool (by rw [HS.out]; simp [h1]), rfl⟩
  · have h1' : decide (1 ≤ n) = false := decide_eq_false h1
    go_enter Tryd.func23, Tryd.ntmps23
    go_wp2_with fail
    go_ret
    exact ⟨ret_bool (by rw [HS.out, h1', Bool.false_and]), rfl⟩

theorem own_frozen {w : World} {base : Nat} {e : TypeId} {size : Nat} {g n c : Nat} {xs : List Value} (h : w.ownsRow base e size (.slice (some ⟨g, 0, none⟩) n c) n xs) (j : Nat) : w.frozen? ⟨g, j, none⟩ = false := by
  rcases h.2 with ⟨h', _⟩ | ⟨g', cap', cur, h', hb, hg, _⟩
  · cases h'
  · injection h' with h1 _ _
    injection h1 with h1
    injection h1 with h1
    subst h1
    simp [World.frozen?, hg]
theorem own_some {w : World} {base : Nat} {e : TypeId} {size : Nat} {A : Option Addr} {n c : Nat} {xs : List Value} (h : w.ownsRow base e size (.slice A n c) n xs) (hn : 0 < n) : ∃ g, A = some ⟨g, 0, none⟩ ∧ base ≤ g := by
  rcases h.2 with ⟨_, h0⟩ | ⟨g', cap', cur, h', hb, _⟩
  · omega
  · injection h' with h1 _ _
    exact ⟨g', h1, hb⟩

set_option maxHeartbeats 1000000 in
theorem spoilNums_any (ns : List Int) (A : Option Addr) (c base : Nat) (w : World) (hl : ns.length ≤ 1000000) (h : w.ownsRow base 3 1 (.slice A ns.length c) ns.length (intCells ns)) :
    Calls Tryd.prog 25 #[.slice A ns.length c] w fun e w' => e = .returned (.tuple #[]) ∧ Chg (fun b => base ≤ b) w w' := by
  have hc0 : ∀ i, i < ns.length → ∃ g, A = some ⟨g, 0, none⟩ ∧ base ≤ g ∧ (∃ v, w.cell? ⟨g, i, none⟩ = some v) ∧ w.frozen? ⟨g, i, none⟩ = false := fun i hi => by
    obtain ⟨g, hA, hb⟩ := own_some h (by omega)
    rw [hA] at h
    refine ⟨g, hA, hb, ⟨.int .i64 ns[i], ?_⟩, own_frozen h i⟩
    rw [h.cellAt i (by omega)]
    simp [intCells, hi]
  obtain ⟨n, hn⟩ : ∃ n, n = ns.length := ⟨_, rfl⟩
  rw [← hn] at hc0 hl
  rw [← hn]
  clear hn h
  go_enter Tryd.func25, Tryd.ntmps25
  go_wp2_with fail
  go_loopw [2] (fun i wr => ∃ (k : Nat), k ≤ n ∧ i = .int .i64 k ∧ Chg (fun b => base ≤ b) w wr ∧ ∀ i, i < n → ∃ g, A = some ⟨g, 0, none⟩ ∧ base ≤ g ∧ (∃ v, wr.cell? ⟨g, i, none⟩ = some v) ∧ wr.frozen? ⟨g, i, none⟩ = false) (fun i _ => n - (intOf i).toNat)
  case atStart => exact ⟨0, Nat.zero_le _, rfl, Chg.refl _ _, hc0⟩
  case round =>
    obtain ⟨k, hk, rfl, hx, hc⟩ := hrel
    by_cases hlt : k < n
    · obtain ⟨g, rfl, hb, ⟨v, c0⟩, c1⟩ := hc k hlt
      have HC := Lib.hid hc
      have hki : (k : Int) < (n : Int) := by omega
      have hk0 : (0 : Int) ≤ (k : Int) := by omega
      clear hc hc0
      go_wp2_with fail
      go_roundw
      case rel =>
        refine ⟨k + 1, by omega, by go_num, hx.trans ?_, fun i hi => ?_⟩
        · exact ⟨by simp [World.setCell], by simp [World.setCell], by simp [World.setCell], by simp [World.setCell], fun j _ hj => Below.heap_setCell _ _ _ _ (fun e => hj (by rw [e]; exact hb))⟩
        · obtain ⟨g', e, hb', ⟨v', d0⟩, d1⟩ := HC.out i hi
          injection e with e; injection e with e; subst e
          refine ⟨g, rfl, hb, ?_, by simpa using d1⟩
          by_cases hik : i = k
          · subst hik
            obtain ⟨v2, h2⟩ : ∃ v2, wr.cell? ⟨g, i, none⟩ = some v2 := ⟨_, d0⟩
            exact ⟨_, World.cell?_setCell_same wr ⟨g, i, none⟩ (.int .i64 (-99)) h2⟩
          · exact ⟨v', by rw [World.cell?_setCell_other _ _ _ _ (fun e => by injection e with _ e; omega)]; exact d0⟩
      case measure => simp [intOf]; omega
    · have hki : ¬ ((k : Int) < (n : Int)) := by omega
      clear hc hc0
      go_wp2_with fail
      go_end0
      exact ⟨rfl, hx⟩

/-- what a net comes to -/
def Want (n : Int) (L X : List Int) (E : Int) : Prop :=
  (netB n L = false ∧ X = [] ∧ E = 1) ∨ (netB n L = true ∧ ∃ (N : Nat) (L' : List Nat), n = N ∧ L = toI L' ∧ N ≤ 5 ∧ 0 < N ∧ L'.length = N * N ∧ (∀ x, L'.getD x 0 < 8192) ∧
    ((∃ R, NInv N L' R ∧ Still N R ∧ NonZ N R ∧ X = toI R ∧ E = 0) ∨ (NoNet N L' ∧ X = [] ∧ E = 4)))
theorem Want.len {n : Int} {L X : List Int} {E : Int} (h : Want n L X E) : X.length ≤ 25 := by
  rcases h with ⟨_, rfl, _⟩ | ⟨_, N, L', _, _, h5, _, _, _, ⟨R, hR, _, _, rfl, _⟩ | ⟨_, rfl, _⟩⟩
  · simp
  · rw [toI_len, hR.len]
    exact Nat.mul_le_mul h5 h5
  · simp
def NetU (w : World) (n : Int) (L : List Int) (e : Ending) (w' : World) : Prop :=
  ∃ (X : List Int) (A : Option Addr) (c : Nat) (E : Int), e = .returned (.tuple #[.slice A X.length c, .int .i64 E]) ∧ w'.ownsRow w.heap.size 3 1 (.slice A X.length c) X.length (intCells X) ∧ Ext w w' ∧ Want n L X E
theorem netU_any (n : Int) (L : List Int) (A : Option Addr) (c : Nat) (w : World) (hl : L.length ≤ 1000000) (hI : IntsAt w L A) (hE : EndAt w) :
    Calls Tryd.prog 22 #[.int .i64 n, .slice A L.length c] w (NetU w n L) := by
  cases hb : netB n L with
  | false =>
    refine (Net_no n L A c w hl hI hb).mono fun e w' ⟨he, hw⟩ => ?_
    subst hw
    exact ⟨[], none, 0, 1, he, World.ownsRow_nil _ _ _ _, Ext.refl _, .inl ⟨hb, rfl, rfl⟩⟩
  | true =>
    obtain ⟨N, L', rfl, rfl, hN, hN0, hl', h8, h8m⟩ := net_nat hb
    have hll : (toI L').length = N * N := by rw [toI_len, hl']
    rw [hll]
    refine (Net_yes N L' A c w hN hN0 hl' h8 h8m hb hI hE).mono fun e w' h => ?_
    rcases h with ⟨R, v, hR, hS, hZ, he, hown, hx⟩ | ⟨hno, he, hx⟩
    · obtain ⟨A', c', rfl, _, _⟩ := owned_ints hown
      exact ⟨toI R, A', c', 0, he, hown, hx, .inr ⟨hb, N, L', rfl, rfl, hN, hN0, hl', h8, .inl ⟨R, hR, hS, hZ, rfl, rfl⟩⟩⟩
    · exact ⟨[], none, 0, 4, he, World.ownsRow_nil _ _ _ _, hx, .inr ⟨hb, N, L', rfl, rfl, hN, hN0, hl', h8, .inr ⟨hno, rfl, rfl⟩⟩⟩
def PageU (w : World) (X : List Int) (E : Int) (e : Ending) (w' : World) : Prop :=
  Ext w w' ∧ ((E = 0 ∧ ∃ A' c', e = .returned (.tuple #[.slice A' X.length c', .bool true]) ∧ IntsAt w' X A') ∨ (E = 4 ∧ X = [] ∧ e = .returned (.tuple #[.slice none 0 0, .bool false])))
theorem pageU (n : Int) (L X : List Int) (E : Int) (A : Option Addr) (c : Nat) (w : World) (hb : netB n L = true) (hw : Want n L X E) (hI : IntsAt w L A) :
    Calls Tryd.prog 24 #[tabV, .int .i64 n, .slice A L.length c] w (PageU w X E) := by
  rcases hw with ⟨h, _⟩ | ⟨_, N, L', rfl, rfl, hN, hN0, hl', h8, hw⟩
  · rw [hb] at h; cases h
  · have hll : (toI L').length = N * N := by rw [toI_len, hl']
    rw [hll]
    refine (rNet_any N L' A c w hN hN0 hl' h8 hI).mono fun e w' ⟨hx, R', hR', hS', hh⟩ => ⟨hx, ?_⟩
    rcases hw with ⟨R, hR, hS, hZ, rfl, rfl⟩ | ⟨hno, rfl, rfl⟩
    · have e : R' = R := still_same hS' hS hR'.wi hR.wi hR'.ke hR.ke hR'.len hR.len
      subst e
      rcases hh with ⟨⟨m, hm, h0⟩, _⟩ | ⟨_, v, he, hown⟩
      · exact absurd h0 (hZ m hm)
      · have hlR : (toI R').length = N * N := by rw [toI_len, hR'.len]
        rw [← hlR] at hown
        obtain ⟨A', c', rfl, _, hJ⟩ := owned_ints hown
        exact .inl ⟨rfl, A', c', he, hJ⟩
    · obtain ⟨i, j, hi, hj, h0⟩ := hno R' hS' hR'.wi
      rcases hh with ⟨_, he⟩ | ⟨hZ, _⟩
      · exact .inr ⟨rfl, rfl, he⟩
      · exact absurd h0 (hZ (i * N + j) (pos_lt hi hj))

/-! the walk -/
theorem run_to {P : Program} {t e : TypeId} {s : Nat} (hu : P.underlying t = some (.slice e)) (hz : ∀ w, (Go.sizeOf e).run P w = .ok s w) (u : World) (A : Option Addr) (n cap k : Nat) (hk : k ≤ cap) :
    (Instr.slice t (.slice A n cap) none (some (.int .i64 k)) none).run P u = .ok (.slice A k cap) u := by
  have he : P.elem t = e := by simp [Program.elem, hu]
  rw [run_slice_h u _ _ _ _ (by rw [he]; exact hu) .i64 k (by omega) (by omega), he, hz]
  have e : (A.map fun x => x.add (0 * s)) = A := by cases A <;> simp [Addr.add]
  simp only [Result.andThen, sliced, e, Nat.sub_zero, Int.toNat_natCast]
  split <;> rfl
theorem wrap_inc {q k : Nat} (h : q < k) (hk : k ≤ 1000) : RowKit.wrap64 ((q : Int) + 1) = (q : Int) + 1 := by unfold RowKit.wrap64; omega
def lenV : Value → Nat
  | .slice _ n _ => n
  | _ => 0
theorem lenV_own {w : World} {base : Nat} {e : TypeId} {size : Nat} {v : Value} {n : Nat} {xs : List Value} (h : w.ownsRow base e size v n xs) : lenV v = n := by
  rcases h.2 with ⟨rfl, h0⟩ | ⟨g, cap, cur, rfl, _⟩
  · exact h0.symm
  · rfl
theorem own_setI {u : World} {base g M cap : Nat} {R : List Int} (h : u.ownsRow base 3 1 (.slice (some ⟨g, 0, none⟩) M cap) M (intCells R)) (j : Nat) (v : Int) : (u.setCell ⟨g, j, none⟩ (.int .i64 v)).ownsRow base 3 1 (.slice (some ⟨g, 0, none⟩) M cap) M (intCells (R.set j v)) := by
  have e : (intCells R).set j (.int .i64 v) = intCells (R.set j v) := by unfold intCells; rw [List.map_set]
  rw [← e]
  exact (h.stored j _).1
theorem jm_wrap {j M : Nat} (hj : j < M) (h : M ≤ 5) : RowKit.wrap64 (RowKit.wrap64 ((j : Int) * (M : Int)) + (j : Int)) = ((j * M + j : Nat) : Int) := by
  rw [mul_wrap hj h]
  unfold RowKit.wrap64
  have := Nat.mul_le_mul (by omega : j ≤ 5) h
  omega
theorem all_step (G : Bool) (L : List Int) {j : Nat} (h : j < L.length) : (G && (L.take (j + 1)).all stB) = ((G && (L.take j).all stB) && stB L[j]) := by
  rw [List.take_succ_eq_append_getElem h, List.all_append, Bool.and_assoc]
  simp
theorem own_take {w : World} {base : Nat} {A : Option Addr} {n c k : Nat} {ns : List Int} (h : w.ownsRow base 3 1 (.slice A n c) n (intCells ns)) (hk : k ≤ n) (hn : 0 < n) : w.ownsRow base 3 1 (.slice A k c) k (intCells (ns.take k)) := by
  rcases h.2 with ⟨_, h0⟩ | ⟨g, cap, cur, e, hb, hg, hc, hm, hs, ht⟩
  · omega
  · injection e with e1 e2 e3
    subst e1 e3
    have hl := h.1
    refine ⟨by have := h.1; simp only [intCells, List.length_map, List.length_take] at this ⊢; omega, .inr ⟨g, c, cur, rfl, hb, hg, by omega, hm, hs, ?_⟩⟩
    unfold intCells at ht ⊢
    rw [List.map_take, ← ht, List.take_take]
    congr 1
    omega
theorem fw_one {f : Nat} (h : f < 5) : IntKind.i64.wrap (1 + (f : Int)) = (f : Int) + 1 := by rw [IntKind.wrap_i64] <;> omega
theorem sq_wrap {M : Nat} (h : M * M ≤ 25) : RowKit.wrap64 ((M : Int) * (M : Int)) = ((M * M : Nat) : Int) := by
  rw [← Int.natCast_mul]
  unfold RowKit.wrap64
  omega
theorem nn_bd {n : Int} (h : 1 ≤ n ∧ n ≤ 5) : ∃ N : Nat, n = (N : Int) ∧ 1 ≤ N ∧ N ≤ 5 ∧ N * N ≤ 25 ∧ N ≤ N * N := by
  refine ⟨n.toNat, by omega, by omega, by omega, ?_, ?_⟩
  · exact Nat.mul_le_mul (by omega : n.toNat ≤ 5) (by omega : n.toNat ≤ 5)
  · exact Nat.le_mul_of_pos_right _ (by omega)

set_option maxRecDepth 100000 in
set_option maxHeartbeats 8000000 in
theorem net_walk (ns : List Int) (A : Option Addr) (c : Nat) (ls : List (List Int)) (B : Option Addr) (d : Nat) (N : Int) (w : World) (h : In8 ns A c ls B d w) (_hN : (Lit.int .i64 N).wf = true) (hE : EndAt w) :
    Calls Tryd.prog 5 #[.agg (askCells ns.length A c ls.length B d N)] w fun e w' => e = .returned (.bool true) ∧ Ext w w' := by
  have KH := Lib.hid (fun u (k : Ext w u) => heavy_any ns.length A c ls B d N u h.nlen h.llen (h.rows.ext k))
  have KT := Lib.hid (fun u => Table_any u)
  have hEE := Lib.hid hE
  clear hE
  obtain ⟨W0, hW0⟩ : ∃ W0, W0 = w.alloc (.cells (askCells ns.length A c ls.length B d N) 25) := ⟨_, rfl⟩
  have hx0 : Ext w W0 := by rw [hW0]; exact (Ext.refl w).alloc _
  have q0 : W0.cell? ⟨w.heap.size, 0, none⟩ = some (.slice A ns.length c) := by rw [hW0]; go_simp
  have q1 : W0.cell? ⟨w.heap.size, 1, none⟩ = some (.slice B ls.length d) := by rw [hW0]; go_simp
  have q2 : W0.cell? ⟨w.heap.size, 2, none⟩ = some (.int .i64 N) := by rw [hW0]; go_simp
  have HW := Lib.hid hW0
  have HI := Lib.hid h
  clear hW0 h
  have HLS := Lib.hid (heavy_each (n := ns.length) (ls := ls))
  cases hh : heavyB ns.length ls with
  | true =>
    rw [hh] at KH
    go_enter Tryd.func5, Tryd.ntmps5
    go_upto_region 1 with (fail)
    rw [← HW.out]
    clear HW
    go_wp2_with fail
    refine (KH.out _ hx0).mono ?_
    rintro e w1 ⟨rfl, hx1⟩
    go_wp2_with fail
    go_ret
    exact ⟨rfl, hx0.trans hx1⟩
  | false =>
    rw [hh] at KH
    go_enter Tryd.func5, Tryd.ntmps5
    go_upto_region 1 with (fail)
    rw [← HW.out]
    obtain ⟨g, hg⟩ : ∃ g, g = w.heap.size := ⟨_, rfl⟩
    rw [← hg] at q0 q1 q2
    rw [← hg]
    clear HW hg
    go_wp2_with fail
    refine (KH.out _ hx0).mono ?_
    rintro e w1 ⟨rfl, hx1⟩
    replace q1 := hx1.cell q1
    replace q2 := hx1.cell q2
    have hx01 := hx0.trans hx1
    clear hx0 hx1 KH q0
    go_wp2_with fail
    refine (KT.out _).mono ?_
    rintro e w2 ⟨rfl, hx2⟩
    replace q2 := hx2.cell q2
    replace q1 := hx2.cell q1
    have hx02 := hx01.trans hx2
    clear hx01 hx2 KT
    have hZ : BlkT (w2.alloc (.cells Tryd.zeroCells39 39)) w2.heap.size (tabL 0) := by rw [zeros_tab]; exact BlkT.made w2 _
    have hth : (w2.alloc (.cells Tryd.zeroCells39 39)).there w2.heap.size 0 tabCs.toArray.size := by have := hZ.there; rw [tabL_len] at this; simpa [tabCs_len] using this
    have hrs := World.rangeAt_setCells_same (w2.alloc (.cells Tryd.zeroCells39 39)) w2.heap.size 0 tabCs (by simpa using hth)
    have hx23 := ext_setCells (w := w2) (b := w2.heap.size) tabCs 0 (w2.alloc (.cells Tryd.zeroCells39 39)) (Nat.le_refl _) ((Ext.refl w2).alloc _)
    have hi' : (Tryd.prog.info? 39).map (·.size) = some tabCs.toArray.size := by simpa [tabCs_len] using infoTab
    have h1 : tabCs.toArray.all (·.oneCell') = true := all_oneCell_toArray (fun v hv => by obtain ⟨i, _, rfl⟩ := List.mem_map.1 hv; rfl)
    go_wp2_with (refine wpList_store_mid (op := ⟨none, _, _, _, _, _⟩) rfl 39 (.tmp 3) (.tmp 21) rfl w2.heap.size 0 tabCs.toArray rfl rfl hth hi' h1 ?_)
    clear hZ hth hi' h1
    obtain ⟨gt, hgt⟩ : ∃ gt, gt = w2.heap.size := ⟨_, rfl⟩
    rw [← hgt] at hrs hx23
    rw [← hgt]
    generalize (w2.alloc (.cells Tryd.zeroCells39 39)).setCells gt 0 tabCs = w3 at hrs hx23 ⊢
    replace q2 := hx23.cell q2
    replace q1 := hx23.cell q1
    have hx03 := hx02.trans hx23
    have HX := Lib.hid hx03
    have HR := Lib.hid hrs
    have HLS2 := Lib.hid (HLS.out hh)
    have hRw := HI.out.rows.ext hx03
    have HE3 := Lib.hid (hEE.out.ext hx03)
    have hll := HI.out.llen
    have KN := Lib.hid (fun n u => num_any n u)
    clear hgt hx02 hx23 hrs hx03 HLS hh hEE
    go_loopw [4] (fun i wr => ∃ k : Nat, k ≤ ls.length ∧ i = .int .i64 k ∧ Ext w3 wr) (fun i _ => ls.length - (intOf i).toNat)
    case atStart => exact ⟨0, Nat.zero_le _, rfl, Ext.refl _⟩
    case round =>
      obtain ⟨k, hk, rfl, hx⟩ := hrel
      have p1 := hx.cell q1
      by_cases hlt : k < ls.length
      · have hki : (k : Int) < (ls.length : Int) := by omega
        have hk0 : (0 : Int) ≤ (k : Int) := by omega
        by_cases hk8 : (k : Int) < 8
        · obtain ⟨b, o, rfl⟩ := rows_some hRw (by omega)
          obtain ⟨A', c', c0, hc', hJ⟩ := row_at (hRw.ext hx) hlt
          have hl5 := HLS2.out _ (List.getElem_mem hlt)
          obtain ⟨wo, hwo⟩ : ∃ wo, wo = wr := ⟨_, rfl⟩
          rw [← hwo] at hx p1 c0 hJ
          rw [← hwo]
          have p2 := hx.cell q2
          generalize ls[k] = l at *
          have HXO := Lib.hid hx
          have HEO := Lib.hid (HE3.out.ext hx)
          have HRO := Lib.hid (rangeAt_ext HR.out hx)
          have K5 := Lib.hid (fun u => within5 N u)
          clear hwo hx q1 q2 hRw
          go_upto_region 7 with (fail)
          go_cut [5] (fun v wx => ∃ (g2 : Nat) (f : Nat), f < 5 ∧ v = .slice (some ⟨g2, 0, none⟩) 2 2 ∧ wx.cell? ⟨g2, 0, none⟩ = some (.int .i64 N) ∧ wx.cell? ⟨g2, 1, none⟩ = some (.int .i64 ((f : Int) + 1)) ∧ Ext wo wx)
          case first =>
            have hI := Ext.refl wo
            go_region_with ((with_reducible refine (K5.out _).mono ?_); rintro e wb ⟨f, hf, rfl, rfl⟩)
            all_goals
              go_wp2_with fail
              go_meet
              exact ⟨_, f, hf, rfl, by go_simp, by (go_simp; exact fw_one hf), (hI.alloc _).drew⟩
          case rest =>
            obtain ⟨g2, f, hf, rfl, n0, n1, hxc⟩ := hcut
            obtain ⟨wk, hwk⟩ : ∃ wk : World, wk = wc := ⟨_, rfl⟩
            rw [← hwk] at n0 n1 hxc
            rw [← hwk]
            have HXK := Lib.hid (HXO.out.trans hxc)
            have HEK := Lib.hid (HEO.out.ext hxc)
            have HRK := Lib.hid (rangeAt_ext HRO.out hxc)
            replace p1 := hxc.cell p1
            replace c0 := hxc.cell c0
            replace hJ := hJ.ext hxc
            have HK := Lib.hid hlt
            clear hwk hxc p2 K5
            go_wp2_with fail
            go_loopw [6] (fun i wr => ∃ m : Nat, m ≤ 2 ∧ i = .int .i64 m ∧ Ext wk wr) (fun i _ => 2 - (intOf i).toNat)
            case atStart => exact ⟨0, Nat.zero_le _, rfl, Ext.refl _⟩
            case round =>
              obtain ⟨m, hm, rfl, hx⟩ := hrel
              by_cases hm2 : m < 2
              · have hmi : (m : Int) < 2 := by omega
                have hm0 : (0 : Int) ≤ (m : Int) := by omega
                obtain ⟨n, hn, hnm⟩ : ∃ n : Int, wk.cell? ⟨g2, m, none⟩ = some (.int .i64 n) ∧ (m = 1 → 1 ≤ n ∧ n ≤ 5) := by
                  obtain rfl | rfl : m = 0 ∨ m = 1 := by omega
                  · exact ⟨N, n0, fun h => by omega⟩
                  · exact ⟨(f : Int) + 1, n1, fun _ => by omega⟩
                have e1 := hx.cell hn
                have e2 := hx.cell p1
                have e3 := hx.cell c0
                have KC := Lib.hid (copyNumbers_any l A' c' wr (by omega) (hJ.ext hx))
                have HX := Lib.hid hx
                have HNM := Lib.hid hnm
                have HM := Lib.hid hm2
                obtain ⟨i0, hi0, hz0, hz1, hz2⟩ := info_parts infoInt
                clear hx hnm hn n0 n1
                go_wp2_with fail
                refine KC.out.mono ?_
                rintro e wd ⟨v, rfl, hown, hxd⟩
                obtain ⟨wl, hwl⟩ : ∃ wl : World, wl = wr := ⟨_, rfl⟩
                rw [← hwl] at hown hxd HX
                clear hwl e1 e2 e3 KC
                go_upto_region 13 with (fail)
                obtain ⟨bb, hbb⟩ : ∃ bb : Bool, bb = decide (m = 1) := ⟨_, rfl⟩
                have HBB := Lib.hid hbb
                have HMM1 : Hid (((m : Int) == 1) = bb) := Lib.hid (by rw [hbb, Bool.eq_iff_iff]; simp; omega)
                clear hbb
                go_cut [55] (fun v wx => v = .bool bb ∧ wx = wd)
                case first =>
                  have hmm := HMM1.out
                  clear hown hxd
                  go_wp2_with fail
                  go_meet
                  exact ⟨by first | rfl | rw [hmm], rfl⟩
                case rest =>
                obtain ⟨rfl, hwc⟩ := hcut
                rw [hwc]
                clear hwc
                rename_i hKK
                refine hKK _ _ ?_
                clear hKK
                go_cut [8, 9] (fun v _ wx => ∃ L : List Int, L.length ≤ 500 ∧ wx.ownsRow wl.heap.size 3 1 v L.length (intCells L) ∧ Ext wl wx)
                case first =>
                  cases bb with
                  | true =>
                    obtain ⟨M, rfl, hM1, hM5, hM25, hMM⟩ := nn_bd (HNM.out (of_decide_eq_true HBB.out.symm))
                    have HM5 := Lib.hid (And.intro hM1 (And.intro hM5 hM25))
                    obtain ⟨Q, hQ⟩ : ∃ Q, Q = M * M := ⟨_, rfl⟩
                    have hmul : RowKit.wrap64 ((M : Int) * (M : Int)) = (Q : Int) := by rw [hQ]; exact sq_wrap hM25
                    rw [← hQ] at hM25 hMM
                    have HQ := Lib.hid hQ
                    have HL5 := Lib.hid hl5
                    have HMUL := Lib.hid hmul
                    have HQ25 := Lib.hid hM25
                    have HMM := Lib.hid hMM
                    clear hQ hmul hM25 hMM hM1 hM5 hl5 hc' hm hmi hm0 hk8 hk0 hki hll hk hm2
                    go_wp2_with fail
                    go_loopw [8] (fun v wr => ∃ L : List Int, L.length ≤ 500 ∧ wr.ownsRow wl.heap.size 3 1 v L.length (intCells L) ∧ Ext wl wr) (fun v _ => Q - lenV v)
                    case atStart => exact ⟨l, HL5.out, hown, hxd⟩
                    case round =>
                      obtain ⟨L, hL5, hownr, hx⟩ := hrel
                      obtain ⟨AL, cL, rfl, hcL, _⟩ := owned_ints hownr
                      by_cases hLQ : L.length < Q
                      · have hlq : (L.length : Int) < (Q : Int) := Int.ofNat_lt.2 hLQ
                        have hmul := HMUL.out
                        have hxs := hx.size
                        have HLQ := Lib.hid hLQ
                        have HXR := Lib.hid hx
                        have HOR := Lib.hid hownr
                        clear hx hown hxd hL5 hcL
                        go_wp2_with (at_builtin; refine wpList_app _ rfl _ _ 22 rfl wl.heap.size 3 i0 _ 1 8 Tryd.underlying22 hi0 hz0 hz1 hz2 rfl (by decide) _ L.length (intCells L) rfl (hownr.alloc _) (some ⟨wr.heap.size, 0, none⟩) 1 1 [.int .i64 8191] rfl (Src.box wr #[.int .i64 8191] 3 1 rfl) ?c2 ?c3 ?c4 ?c5 ?_)
                        case c2 => intro u hu; simp at hu; subst hu; rfl
                        case c3 => clear hmul hlq; have := HLQ.out; have := HQ25.out; simp only [maxLen]; omega
                        case c4 => clear hmul hlq; have := HLQ.out; have := HQ25.out; omega
                        case c5 => clear hmul hlq; simp; omega
                        intro v' w4 hown4 hgrow _
                        clear hmul hlq
                        have hx4 : Ext wl w4 := Below.grown (HXR.out.alloc _) hgrow (by simp; omega) (fun b hb => (HOR.out.lt b hb).1)
                        have hown5 : w4.ownsRow wl.heap.size 3 1 v' (L ++ [8191]).length (intCells (L ++ [8191])) := by rw [intCells_snoc, List.length_append]; exact hown4
                        have HLV := Lib.hid (lenV_own hown5)
                        have HF := Lib.hid (And.intro hown5 hx4)
                        clear hown4 hgrow hown5 hx4 hownr
                        go_wp2_with fail
                        go_roundw
                        case rel => exact ⟨L ++ [8191], by have := HLQ.out; have := HQ25.out; simp; omega, HF.out.1, HF.out.2⟩
                        case measure => have := HLQ.out; rw [HLV.out]; simp [lenV]; omega
                      · have hlq : ¬ ((L.length : Int) < (Q : Int)) := fun h => hLQ (Int.ofNat_lt.1 h)
                        have hQL : Q ≤ L.length := Nat.le_of_not_lt hLQ
                        have hQp : 0 < Q := Nat.lt_of_lt_of_le (Nat.lt_of_lt_of_le Nat.zero_lt_one HM5.out.1) HMM.out
                        obtain ⟨gl, rfl, hgl⟩ := own_some hownr (Nat.lt_of_lt_of_le hQp hQL)
                        have HT := Lib.hid (own_take hownr hQL (Nat.lt_of_lt_of_le hQp hQL))
                        have HLT : Hid ((L.take Q).length = Q) := Lib.hid (by rw [List.length_take]; exact Nat.min_eq_left hQL)
                        have r1 := fun (u : World) => run_to Tryd.underlying22 Tryd.sizeOf3 u (some ⟨gl, 0, none⟩) L.length cL Q (Nat.le_trans hQL hcL)
                        have HXR := Lib.hid hx
                        have HGL := Lib.hid hgl
                        have hQc : (Q : Int) ≤ (cL : Int) := Int.ofNat_le.2 (Nat.le_trans hQL hcL)
                        have hQ0 : (0 : Int) ≤ (Q : Int) := Int.natCast_nonneg _
                        have hmul := HMUL.out
                        clear hx hown hxd hL5 hownr hgl hcL hLQ hQL hQp
                        generalize L.take Q = R0 at HT HLT
                        go_wp2_with fail
                        go_loopw [9] (fun i wr => ∃ (j : Nat) (R : List Int), j ≤ M ∧ i = .int .i64 j ∧ R.length = Q ∧ wr.ownsRow wl.heap.size 3 1 (.slice (some ⟨gl, 0, none⟩) Q cL) Q (intCells R) ∧ Ext wl wr) (fun i _ => M - (intOf i).toNat)
                        case atStart => exact ⟨0, R0, Nat.zero_le _, rfl, HLT.out, HT.out, HXR.out⟩
                        case round =>
                          obtain ⟨j, R, hj, rfl, hR, hownj, hxj⟩ := hrel
                          clear hmul
                          by_cases hjM : j < M
                          · have hji : (j : Int) < (M : Int) := Int.ofNat_lt.2 hjM
                            have hwj := jm_wrap hjM HM5.out.2.1
                            have hjQ : j * M + j < Q := by rw [HQ.out]; exact pos_lt hjM hjM
                            obtain ⟨p, hp⟩ : ∃ p, p = j * M + j := ⟨_, rfl⟩
                            rw [← hp] at hwj hjQ
                            have hp0 : (0 : Int) ≤ (p : Int) := Int.natCast_nonneg _
                            have hpQ : (p : Int) < (Q : Int) := Int.ofNat_lt.2 hjQ
                            have t0 : ∃ v, wr.cell? ⟨gl, p, none⟩ = some v := by
                              rw [hownj.cellAt p (by rw [Nat.mul_one]; exact hjQ)]
                              exact ⟨_, by unfold intCells; rw [List.getElem?_map, List.getElem?_eq_getElem (by rw [hR]; exact hjQ)]; rfl⟩
                            obtain ⟨tv, t0⟩ := t0
                            have t1 := own_frozen hownj p
                            have HO := Lib.hid (own_setI hownj p 8191)
                            have HXJ := Lib.hid (hxj.setCell (by exact HGL.out : wl.heap.size ≤ (⟨gl, p, none⟩ : Addr).block) (.int .i64 8191))
                            have HRL : Hid ((R.set p 8191).length = Q) := Lib.hid (by rw [List.length_set, hR])
                            have HJ := Lib.hid hjM
                            have hj5 : j < 5 := Nat.lt_of_lt_of_le hjM HM5.out.2.1
                            clear hp hownj hxj hR hj
                            go_wp2_with fail
                            go_roundw
                            case rel => exact ⟨j + 1, R.set p 8191, HJ.out, by go_num, HRL.out, HO.out, HXJ.out⟩
                            case measure => have := HJ.out; clear hwj; simp [intOf]; omega
                          · have hji : ¬ ((j : Int) < (M : Int)) := fun h => hjM (Int.ofNat_lt.1 h)
                            have HF : Hid (R.length ≤ 500 ∧ wr.ownsRow wl.heap.size 3 1 (.slice (some ⟨gl, 0, none⟩) Q cL) R.length (intCells R) ∧ Ext wl wr) := Lib.hid ⟨by have := HQ25.out; omega, by rw [hR]; exact hownj, hxj⟩
                            clear hownj hxj
                            go_wp2_with fail
                            go_meet
                            exact ⟨R, HF.out⟩
                  | false =>
                    have HF := Lib.hid (And.intro hown hxd)
                    go_wp2_with fail
                    go_meet
                    exact ⟨l, by omega, HF.out.1, HF.out.2⟩
                case rest =>
                  obtain ⟨L, hL5, hownL, hx⟩ := hcut
                  obtain ⟨wm, hwm⟩ : ∃ wm : World, wm = wc := ⟨_, rfl⟩
                  rw [← hwm] at hownL hx
                  rw [← hwm]
                  obtain ⟨AL, cL, rfl, hcL, hJL⟩ := owned_ints hownL
                  have HXM := Lib.hid (HX.out.trans hx)
                  have KC2 := Lib.hid (copyNumbers_any L AL cL wm (by omega) hJL)
                  clear hwm hown hxd hownL hx
                  go_wp2_with fail
                  refine KC2.out.mono ?_
                  rintro e wn ⟨v, rfl, hown2, hxn⟩
                  obtain ⟨AI, cI, rfl, hcI, hJI⟩ := owned_ints hown2
                  have HXN := Lib.hid (HXM.out.trans hxn)
                  have KNET := Lib.hid (netU_any n L AI cI wn (by omega) hJI (HEK.out.ext HXN.out))
                  have HJL := Lib.hid (hJL.ext hxn)
                  have HJI := Lib.hid hJI
                  clear hown2 hxn hJI hJL KC2
                  go_wp2_with fail
                  refine KNET.out.mono ?_
                  rintro e wp ⟨X, AX, cX, E, rfl, hownX, hxp, hW⟩
                  have HWT := Lib.hid hW
                  have hX25 := hW.len
                  have HOX := Lib.hid hownX
                  have HXP := Lib.hid hxp
                  obtain ⟨G, hG⟩ : ∃ G : Bool, G = (b5 n && decide ((L.length : Int) = n * n)) := ⟨_, rfl⟩
                  have HG := Lib.hid hG
                  have KB := Lib.hid (fun u => between5_any n u)
                  clear hW hownX hxp KNET hG
                  go_upto_region 25 with (fail)
                  go_cut [15] (fun v wx => v = .bool G ∧ wx = wp)
                  case first =>
                    cases hb : b5 n with
                    | false =>
                      have HGF : Hid (G = false) := Lib.hid (by rw [HG.out, hb]; rfl)
                      rw [hb] at KB
                      clear hb
                      go_wp2_with fail
                      refine (KB.out _).mono ?_
                      rintro e wq ⟨rfl, hwq⟩
                      rw [hwq]
                      go_wp2_with fail
                      go_meet
                      exact ⟨by rw [HGF.out], rfl⟩
                    | true =>
                      obtain ⟨M, hMe, hM1, hM5, hM25, hMM⟩ := nn_bd (n := n) (by unfold b5 at hb; simpa using hb)
                      have hsq := sq_wrap hM25
                      rw [← hMe] at hsq
                      have HGT : Hid (G = ((L.length : Int) == n * n)) := Lib.hid (by rw [HG.out, hb, Bool.true_and]; rw [Bool.eq_iff_iff]; simp)
                      have hsq2 : RowKit.wrap64 (n * n) = n * n := by rw [hsq, Int.natCast_mul, ← hMe]
                      rw [hb] at KB
                      clear hb hMe hsq
                      go_wp2_with fail
                      refine (KB.out _).mono ?_
                      rintro e wq ⟨rfl, hwq⟩
                      rw [hwq]
                      go_wp2_with fail
                      go_meet
                      exact ⟨by rw [HGT.out], rfl⟩
                  case rest =>
                    obtain ⟨rfl, hwc⟩ := hcut
                    rw [hwc]
                    clear hwc KB
                    have HJLP := Lib.hid (HJL.out.ext HXP.out)
                    have HNB : Hid ((G && L.all stB) = netB n L) := Lib.hid (by rw [HG.out]; rfl)
                    have KS := Lib.hid (fun x u => lset_any x u)
                    have HM1 : Hid (m + 1 ≤ 2) := Lib.hid HM.out
                    have HL5 := Lib.hid hL5
                    have HX25 := Lib.hid hX25
                    clear hm hm0 hmi hm2 hk8 hk0 hki hll hk hl5 hc' hcL hcI hX25
                    go_upto_block 8 with (fail)
                    go_cut [15, 16] (fun v _ wx => v = .bool (netB n L) ∧ wx = wp)
                    case first =>
                      go_wp2_with fail
                      go_loopw [15, 16] (fun v i wr => ∃ j : Nat, j ≤ L.length ∧ i = .int .i64 j ∧ v = .bool (G && (L.take j).all stB) ∧ wr = wp) (fun _ i _ => L.length - (intOf i).toNat)
                      case atStart => exact ⟨0, Nat.zero_le _, rfl, by simp, rfl⟩
                      case round =>
                        obtain ⟨j, hj, rfl, rfl, hwr⟩ := hrel
                        by_cases hjl : j < L.length
                        · have hji : (j : Int) < (L.length : Int) := Int.ofNat_lt.2 hjl
                          have hj0 : (0 : Int) ≤ (j : Int) := Int.natCast_nonneg _
                          obtain ⟨bL, oL, rfl⟩ := ints_some HJLP.out (Nat.lt_of_le_of_lt (Nat.zero_le _) hjl)
                          have cj := int_at HJLP.out hjl
                          rw [← hwr] at cj
                          have HST := Lib.hid (all_step G L hjl)
                          have HWR := Lib.hid hwr
                          have HJL2 := Lib.hid hjl
                          have HLL := Lib.hid hL5
                          obtain ⟨gg, hgg⟩ : ∃ gg, gg = (G && (L.take j).all stB) := ⟨_, rfl⟩
                          rw [← hgg] at HST ⊢
                          generalize L[j] = y at *
                          have hwi := wrap_inc hjl (Nat.le_trans hL5 (by decide))
                          clear hgg hwr hL5
                          cases gg with
                          | true =>
                            go_wp2_with fail
                            refine (KS.out _ _).mono ?_
                            rintro e wq ⟨rfl, hwq⟩
                            rw [hwq]
                            clear hwq
                            go_wp2_with fail
                            go_roundw
                            case rel => exact ⟨j + 1, HJL2.out, by rw [hwi]; rfl, by rw [HST.out]; rfl, HWR.out⟩
                            case measure => rw [hwi]; exact meas3 HJL2.out
                          | false =>
                            go_wp2_with fail
                            go_roundw
                            case rel => exact ⟨j + 1, HJL2.out, by rw [hwi]; rfl, by rw [HST.out]; rfl, HWR.out⟩
                            case measure => rw [hwi]; exact meas3 HJL2.out
                        · have hji : ¬ ((j : Int) < (L.length : Int)) := fun h => hjl (Int.ofNat_lt.1 h)
                          have HE : Hid ((G && (L.take j).all stB) = netB n L) := Lib.hid (by rw [List.take_of_length_le (Nat.le_of_not_lt hjl)]; exact HNB.out)
                          rw [HE.out]
                          have HWR := Lib.hid hwr
                          clear hwr
                          go_wp2_with fail
                          go_meet
                          exact ⟨rfl, HWR.out⟩
                    case rest =>
                      obtain ⟨rfl, hwc⟩ := hcut
                      rw [hwc]
                      clear hwc
                      obtain ⟨nb, hnb⟩ : ∃ nb, nb = netB n L := ⟨_, rfl⟩
                      rw [← hnb]
                      have HNBB := Lib.hid hnb
                      have HRP := Lib.hid (rangeAt_ext HRK.out (HXN.out.trans HXP.out))
                      clear hnb KS HNB HG hL5
                      go_upto_region 30 with (fail)
                      go_cut [114] (fun v wx => v = .bool nb ∧ wx = wp)
                      case first =>
                        go_wp2_with fail
                        go_meet
                        exact ⟨rfl, rfl⟩
                      case rest =>
                      obtain ⟨rfl, hwc⟩ := hcut
                      rw [hwc]
                      clear hwc
                      rename_i hKK
                      refine hKK _ _ ?_
                      clear hKK
                      go_cut [13, 14, 17, 18] (fun a b _ _ wx => ∃ B' d', a = .int .i64 E ∧ b = .slice B' X.length d' ∧ IntsAt wx X B' ∧ Ext wp wx)
                      case first =>
                        cases nb with
                        | false =>
                          rcases HWT.out with ⟨_, hXe, hEe⟩ | ⟨h, _⟩
                          · have HE := Lib.hid (And.intro hXe hEe)
                            clear hXe hEe
                            go_wp2_with fail
                            go_meet
                            exact ⟨none, 0, by rw [HE.out.2], by rw [HE.out.1]; rfl, by rw [HE.out.1]; exact fun i hi => absurd hi (by simp), Ext.refl _⟩
                          · rw [← HNBB.out] at h; cases h
                        | true =>
                          have KP := Lib.hid (fun u (k : Ext wp u) => pageU n L X E AL cL u HNBB.out.symm HWT.out (HJLP.out.ext k))
                          have hrg := HRP.out
                          have hi : (Tryd.prog.info? 39).map (·.size) = some tabCs.length := by rw [tabCs_len]; exact infoTab
                          go_wp2_with (refine wpList_load_mid (op := ⟨some 116, _, _, _, _, _⟩) rfl 39 (.tmp 3) rfl gt 0 rfl tabCs _ hrg Tryd.underlying39 rfl hi ?_)
                          clear hrg hi
                          refine (KP.out _ (Ext.refl _)).mono ?_
                          rintro e wq ⟨hxq, h⟩
                          rcases h with ⟨hE, A2, c2, rfl, hJ2⟩ | ⟨hE, hX, rfl⟩
                          · have HF := Lib.hid (And.intro hE (And.intro hJ2 hxq))
                            clear hE hJ2 hxq
                            go_wp2_with fail
                            go_meet
                            exact ⟨A2, c2, by rw [HF.out.1], rfl, HF.out.2.1, HF.out.2.2⟩
                          · have HF := Lib.hid (And.intro hE (And.intro hX hxq))
                            clear hE hX hxq
                            go_wp2_with fail
                            go_meet
                            exact ⟨none, 0, by rw [HF.out.1], by rw [HF.out.2.1]; rfl, by rw [HF.out.2.1]; exact fun i hi => absurd hi (by simp), HF.out.2.2⟩
                      case rest =>
                        obtain ⟨B2, d2, rfl, rfl, hJ2, hx2⟩ := hcut
                        obtain ⟨wq, hwq⟩ : ∃ wq : World, wq = wc := ⟨_, rfl⟩
                        rw [← hwq] at hJ2 hx2
                        rw [← hwq]
                        have HXQ := Lib.hid (HXP.out.trans hx2)
                        have HOXQ := Lib.hid (ownsRow_ext HOX.out hx2)
                        have KE1 : Hid (Calls Tryd.prog 15 #[.slice AX X.length cX, .slice B2 X.length d2] wq fun e w' => e = .returned (.bool true) ∧ Ext wq w') := Lib.hid (by
                          obtain ⟨A9, c9, e9, _, hJ9⟩ := owned_ints HOXQ.out
                          injection e9 with e9 _ e10
                          subst e9 e10
                          have := eqInts_any X X AX B2 cX d2 wq (by have := HX25.out; omega) hJ9 hJ2
                          rwa [show (X == X) = true from beq_self_eq_true X] at this)
                        have KE2 : Hid (∀ u, Ext wn u → Calls Tryd.prog 15 #[.slice AI L.length cI, .slice AL L.length cL] u fun e w' => e = .returned (.bool true) ∧ Ext u w') := Lib.hid fun u k => by
                          have := eqInts_any L L AI AL cI cL u (by have := HL5.out; omega) (HJI.out.ext k) (HJL.out.ext k)
                          rwa [show (L == L) = true from beq_self_eq_true L] at this
                        have hEE : (E != E) = false := by simp
                        clear hwq hJ2 hx2
                        go_wp2_with fail
                        refine (KN.out _ _).mono ?_
                        rintro e wy ⟨rfl, hwy⟩
                        rw [hwy]
                        clear hwy
                        go_wp2_with fail
                        refine KE1.out.mono ?_
                        rintro e w5 ⟨rfl, hx5⟩
                        have hx5n := HXQ.out.trans hx5
                        have HO5 := Lib.hid (ownsRow_ext HOXQ.out hx5)
                        clear hx5
                        go_wp2_with fail
                        refine (KE2.out _ hx5n).mono ?_
                        rintro e w6 ⟨rfl, hx6⟩
                        have HX6 := Lib.hid (hx5n.trans hx6)
                        have KSP := Lib.hid (spoilNums_any X AX cX wn.heap.size w6 (by have := HX25.out; omega) (ownsRow_ext HO5.out hx6))
                        clear hx6 hx5n hEE KE1
                        go_wp2_with fail
                        refine KSP.out.mono ?_
                        rintro e w7 ⟨rfl, hC⟩
                        have hx7 : Ext wn w7 := Chg.ext_of HX6.out hC (fun b h => h)
                        clear hC
                        go_wp2_with fail
                        refine (KE2.out _ hx7).mono ?_
                        rintro e w8 ⟨rfl, hx8⟩
                        have HX8 := Lib.hid (HXN.out.trans (hx7.trans hx8))
                        have hwi := wrap_inc (k := 2) HM1.out (by decide)
                        have HWI := Lib.hid hwi
                        clear hx8 hx7
                        go_wp2_with fail
                        go_roundw
                        case rel => exact ⟨m + 1, HM1.out, by rw [HWI.out]; rfl, HX8.out⟩
                        case measure => rw [HWI.out]; exact meas3 HM1.out
              · have hmi : ¬ ((m : Int) < 2) := by omega
                have HF := Lib.hid (HXK.out.trans hx)
                clear hx
                go_wp2_with fail
                go_roundw
                case rel => exact ⟨k + 1, HK.out, by go_num, HF.out⟩
                case measure => have := HK.out; simp [intOf]; omega
        · have hk8' : decide ((k : Int) < 8) = false := decide_eq_false hk8
          have KW := Lib.hid (wakes_any wr (HE3.out.ext hx))
          have HXF := Lib.hid (HX.out.trans hx)
          go_wp2_with fail
          refine KW.out.mono ?_
          rintro e wz ⟨rfl, hxz⟩
          go_wp2_with fail
          go_ret
          exact ⟨rfl, HXF.out.trans hxz⟩
      · have hki : ¬ ((k : Int) < (ls.length : Int)) := by omega
        have hki' : decide ((k : Int) < (ls.length : Int)) = false := decide_eq_false hki
        have KW := Lib.hid (wakes_any wr (HE3.out.ext hx))
        have HXF := Lib.hid (HX.out.trans hx)
        go_wp2_with fail
        refine KW.out.mono ?_
        rintro e wz ⟨rfl, hxz⟩
        go_wp2_with fail
        go_ret
        exact ⟨rfl, HXF.out.trans hxz⟩
end Go.Proofs.YtjldokhomohdbaaDoor
