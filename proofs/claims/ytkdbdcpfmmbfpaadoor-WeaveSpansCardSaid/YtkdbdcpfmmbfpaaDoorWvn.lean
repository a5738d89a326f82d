/- almagestlaw8.row: what may come of one relation and each set of one or two. -/
import Derived.Test.YtkdbdcpfmmbfpaaDoorWvm
namespace Go.Proofs.YtkdbdcpfmmbfpaaDoor
open Go.RowKit Go.Maps

theorem rangeAt_ext {w w' : World} {b o : Nat} {cs : List Value} (h : w.rangeAt b o cs) (k : Ext w w') : w'.rangeAt b o cs := fun j v hv => k.cell (h j v hv)
/-- a whole array read in a region that draws its order -/
theorem quiet_load_mid {P : Program} {C : World → Prop} {a : Act} {o : Oper} {K : Act → Prop} (ty : TypeId) (x : Operand) (ho : o.op = .load ty x)
    (b f : Nat) (hx : a.eval x = .pointer (some ⟨b, f, none⟩)) (cs : List Value) (d : TypeDesc) (hc : ∀ w, C w → w.rangeAt b f cs)
    (hu : P.underlying ty = some d) (hd : d.isRow = true) (hi : (P.info? ty).map (·.size) = some cs.length) (hk : K (a.put o.dst (.agg cs.toArray))) : o.quiet P a C K :=
  ⟨_, fun w hw => by unfold Oper.quietAt execOp; simp only [ho, hx, Instr.loadAt, Instr.sureAddr, Sem.run_bind, Sem.run_pure, Result.andThen_ok, run_loadVar_mid w b f ty cs d (hc w hw) hu hd hi]; exact ⟨rfl, rfl⟩, hk⟩

/-- what came in, as the walks take it -/
structure In8 (ns : List Int) (A : Option Addr) (c : Nat) (ls : List (List Int)) (B : Option Addr) (d : Nat) (w : World) : Prop where
  ints : IntsAt w ns A
  nwf : ∀ n ∈ ns, (Lit.int .i64 n).wf = true
  nlen : ns.length * 8 ≤ 140737488351232
  ncap : ns.length ≤ c
  rows : RowsAt w ls B
  lwf : ∀ l ∈ ls, ∀ n ∈ l, (Lit.int .i64 n).wf = true
  llen : ls.length * 24 ≤ 140737488351232
  lcap : ls.length ≤ d
theorem and7 (N : Int) : ∃ m : Nat, m < 8 ∧ bits .and .i64 N 7 = (m : Int) := by
  refine ⟨(BitVec.ofInt 64 N &&& BitVec.ofInt 64 7).toNat, ?_, ?_⟩
  · rw [BitVec.toNat_and]
    exact Nat.lt_of_le_of_lt Nat.and_le_right (by decide)
  · show IntKind.i64.wrap ((BitVec.ofInt 64 N &&& BitVec.ofInt 64 7).toNat : Int) = _
    have h : (BitVec.ofInt 64 N &&& BitVec.ofInt 64 7).toNat < 8 := by
      rw [BitVec.toNat_and]
      exact Nat.lt_of_le_of_lt Nat.and_le_right (by decide)
    rw [IntKind.wrap_i64] <;> omega

theorem Then_nat (x y : Nat) (hx : x < 8192) (hy : y < 8192) (w : World) (hE : EndAt w) : Calls Tryd.prog 31 #[.int .i64 (x : Int), .int .i64 (y : Int)] w fun e w' => e = .returned (.tuple #[.int .i64 (thn x y : Int), .int .i64 0]) ∧ Ext w w' := by
  have h := Then_any x y w hE
  have h1 : stB (x : Int) = true := by simp [stB]; omega
  have h2 : stB (y : Int) = true := by simp [stB]; omega
  have e1 : thenV x y = (thn x y : Int) := by unfold thenV; rw [h1, h2]; simp
  have e2 : thenE x y = 0 := by unfold thenE; rw [h1, h2]; rfl
  rwa [e1, e2] at h
theorem rem13 {k j m : Nat} (hk : k < 13) (hj : j < 2) (hm : m < 8) : ∃ q : Nat, q < 13 ∧ (RowKit.wrap64 ((k : Int) + RowKit.wrap64 ((j : Int) * (1 + (m : Int))))).tmod 13 = (q : Int) := by
  have e : RowKit.wrap64 ((k : Int) + RowKit.wrap64 ((j : Int) * (1 + (m : Int)))) = ((k + j * (1 + m) : Nat) : Int) := by
    obtain rfl | rfl : j = 0 ∨ j = 1 := by omega
    · unfold RowKit.wrap64; simp; omega
    · unfold RowKit.wrap64; simp; omega
  rw [e]
  exact ⟨(k + j * (1 + m)) % 13, Nat.mod_lt _ (by omega), rfl⟩
set_option maxRecDepth 100000 in
set_option maxHeartbeats 4000000 in
theorem row_any (r : Nat) (hr : r < 13) (ns : List Int) (A : Option Addr) (c : Nat) (ls : List (List Int)) (B : Option Addr) (d : Nat) (N : Int) (w : World) (h : In8 ns A c ls B d w) (hE : EndAt w) :
    Calls Tryd.prog 40 #[.agg (askCells ns.length A c ls.length B d N), .int .i64 ((r : Int) + 1)] w fun e w' => e = .returned (.bool true) ∧ Ext w w' := by
  have KH := Lib.hid (fun u (k : Ext w u) => heavy_any ns.length A c ls B d N u h.nlen h.llen (h.rows.ext k))
  have KT := Lib.hid (fun u => Table_any u)
  have hEE := Lib.hid hE
  clear hE
  obtain ⟨W0, hW0⟩ : ∃ W0, W0 = w.alloc (.cells (askCells ns.length A c ls.length B d N) 25) := ⟨_, rfl⟩
  have hx0 : Ext w W0 := by rw [hW0]; exact (Ext.refl w).alloc _
  have q0 : W0.cell? ⟨w.heap.size, 0, none⟩ = some (.slice A ns.length c) := by rw [hW0]; go_simp
  have q1 : W0.cell? ⟨w.heap.size, 1, none⟩ = some (.slice B ls.length d) := by rw [hW0]; go_simp
  have q2 : W0.cell? ⟨w.heap.size, 2, none⟩ = some (.int .i64 N) := by rw [hW0]; go_simp
  have HW := Lib.hid hW0
  clear hW0 h
  cases hh : heavyB ns.length ls with
  | true =>
    rw [hh] at KH
    go_enter Tryd.func40, Tryd.ntmps40
    go_upto_region 1 with (fail)
    rw [← HW.out]
    clear HW
    go_wp2_with fail
    refine (KH.out _ hx0).mono ?_
    rintro e w1 ⟨rfl, hx1⟩
    go_wp2_with fail
    go_ret
    exact ⟨rfl, hx0.trans hx1⟩
  | false =>
    rw [hh] at KH
    go_enter Tryd.func40, Tryd.ntmps40
    go_upto_region 1 with (fail)
    rw [← HW.out]
    obtain ⟨g, hg⟩ : ∃ g, g = w.heap.size := ⟨_, rfl⟩
    rw [← hg] at q0 q1 q2
    rw [← hg]
    clear HW hg
    go_wp2_with fail
    refine (KH.out _ hx0).mono ?_
    rintro e w1 ⟨rfl, hx1⟩
    replace q2 := hx1.cell q2
    have hx01 := hx0.trans hx1
    clear hx0 hx1 q0 q1 KH
    go_wp2_with fail
    refine (KT.out _).mono ?_
    rintro e w2 ⟨rfl, hx2⟩
    replace q2 := hx2.cell q2
    have hx02 := hx01.trans hx2
    clear hx01 hx2 KT
    have hZ : BlkT (w2.alloc (.cells Tryd.zeroCells39 39)) w2.heap.size (tabL 0) := by rw [zeros_tab]; exact BlkT.made w2 _
    have hth : (w2.alloc (.cells Tryd.zeroCells39 39)).there w2.heap.size 0 tabCs.toArray.size := by have := hZ.there; rw [tabL_len] at this; simpa [tabCs_len] using this
    have hrs := World.rangeAt_setCells_same (w2.alloc (.cells Tryd.zeroCells39 39)) w2.heap.size 0 tabCs (by simpa using hth)
    have hx23 := ext_setCells (w := w2) (b := w2.heap.size) tabCs 0 (w2.alloc (.cells Tryd.zeroCells39 39)) (Nat.le_refl _) ((Ext.refl w2).alloc _)
    have hi' : (Tryd.prog.info? 39).map (·.size) = some tabCs.toArray.size := by simpa [tabCs_len] using infoTab
    have h1 : tabCs.toArray.all (·.oneCell') = true := all_oneCell_toArray (fun v hv => by obtain ⟨i, _, rfl⟩ := List.mem_map.1 hv; rfl)
    go_wp2_with (refine wpList_store_mid (op := ⟨none, _, _, _, _, _⟩) rfl 39 (.tmp 5) (.tmp 15) rfl w2.heap.size 0 tabCs.toArray rfl rfl hth hi' h1 ?_)
    clear hZ hth hi' h1
    obtain ⟨gt, hgt⟩ : ∃ gt, gt = w2.heap.size := ⟨_, rfl⟩
    rw [← hgt] at hrs hx23
    rw [← hgt]
    generalize (w2.alloc (.cells Tryd.zeroCells39 39)).setCells gt 0 tabCs = w3 at hrs hx23 ⊢
    replace q2 := hx23.cell q2
    have HX := Lib.hid (hx02.trans hx23)
    have HR := Lib.hid hrs
    clear hgt hx02 hx23 hrs
    go_loopw [6] (fun i wr => ∃ k : Nat, k ≤ 13 ∧ i = .int .i64 k ∧ Ext w3 wr) (fun i _ => 13 - (intOf i).toNat)
    case atStart => exact ⟨0, by omega, rfl, Ext.refl _⟩
    case round =>
      obtain ⟨k, hk, rfl, hx⟩ := hrel
      by_cases hlt : k < 13
      · have hk13 : (k : Int) < 13 := by omega
        obtain ⟨wo, hwo⟩ : ∃ wo, wo = wr := ⟨_, rfl⟩
        rw [← hwo] at hx
        rw [← hwo]
        clear hwo
        go_wp2_with fail
        go_loopw [7] (fun i wr => ∃ j : Nat, j ≤ 2 ∧ i = .int .i64 j ∧ Ext w3 wr) (fun i _ => 2 - (intOf i).toNat)
        case atStart => exact ⟨0, by omega, rfl, hx⟩
        case round =>
          obtain ⟨j, hj, rfl, hxj⟩ := hrel
          by_cases hlj : j < 2
          · have hj2 : (j : Int) < 2 := by omega
            replace q2 := hxj.cell q2
            have hRj := rangeAt_ext HR.out hxj
            have hEj := (hEE.out.ext HX.out).ext hxj
            obtain ⟨m, hm, hme⟩ := and7 N
            obtain ⟨q, hq, hqe⟩ := rem13 hlt hlj hm
            have hq0 : (0 : Int) ≤ (q : Int) := by omega
            have hq13 : (q : Int) < 13 := by omega
            have HXJ := Lib.hid hxj
            clear hx hxj
            go_upto_region 10 with (fail)
            go_region
            have eX : bits .or .i64 (RowKit.wrap64 (2 ^ k)) (RowKit.wrap64 (2 ^ q)) = ((2 ^ k ||| 2 ^ q : Nat) : Int) := by rw [two64 hlt, two64 hq, or64 _ _ (p16 hlt) (p16 hq)]
            rw [eX]
            have hX8 : 2 ^ k ||| 2 ^ q < 8192 := or_lt (two_lt hlt) (two_lt hq)
            clear eX hqe hq0 hq13 hme q2
            generalize 2 ^ k ||| 2 ^ q = X at hX8 ⊢
            have hr2 := two64 hr
            have hr8 := two_lt hr
            have hr0 : (0 : Int) ≤ (r : Int) := by omega
            have hr13 : (r : Int) < 13 := by omega
            obtain ⟨P, hP⟩ : ∃ P, P = 2 ^ r := ⟨_, rfl⟩
            rw [← hP] at hr2 hr8
            have KA := Lib.hid (fun u hu => Then_nat P X hr8 hX8 u hu)
            have KB := Lib.hid (fun u hu => Then_nat X P hX8 hr8 u hu)
            have KC := Lib.hid (fun u => rThen_any P X hr8 hX8 u)
            have KD := Lib.hid (fun u => rThen_any X P hX8 hr8 u)
            have KN : Hid (∀ u, Calls Tryd.prog 23 #[.int .i64 0] u fun e w' => e = .returned (.int .i64 0) ∧ Ext u w') := Lib.hid fun u => (num_any 0 u).mono fun _ _ ⟨e, k⟩ => ⟨e, k ▸ Ext.refl _⟩
            clear hr8 hX8 hP
            generalize thn P X = Y at KA KC
            generalize thn X P = Z at KB KD
            generalize (P : Int) = Pi at *
            generalize (X : Int) = Xi at *
            have HEE := Lib.hid hEj
            have HRR := Lib.hid hRj
            clear hEj hRj
            go_wp2_with fail
            refine (KA.out _ (HEE.out.ext (Ext.refl _).drew)).mono ?_
            rintro e w4 ⟨rfl, hx4⟩
            go_wp2_with fail
            refine (KB.out _ ((HEE.out.ext (Ext.refl _).drew).ext hx4)).mono ?_
            rintro e w5 ⟨rfl, hx5⟩
            have hx35 : Ext wr w5 := ((Ext.refl _).drew.trans hx4).trans hx5
            have hR5 := rangeAt_ext HRR.out hx35
            have HX5 := Lib.hid (HXJ.out.trans hx35)
            clear hx4 hx5 hx35 KA KB HEE HRR
            go_upto_region 13 with (fail)
            refine wp_region_ext (by kernel_rfl) (by kernel_rfl) ?_
            have hRR : ∀ u, (∃ p : ExtOf w5, u = p.to) → u.rangeAt gt 0 tabCs := by rintro u ⟨p, rfl⟩; exact rangeAt_ext hR5 p.is
            have hiT : (Tryd.prog.info? 39).map (·.size) = some tabCs.length := by rw [tabCs_len]; exact infoTab
            repeat (first
              | (go_big_quiet_want; refine quiet_load_mid 39 (.tmp 5) rfl gt 0 rfl tabCs _ hRR Tryd.underlying39 rfl hiT ?_; simp only [Act.put, List.setIfInBounds_toArray, List.set_cons_succ, List.set_cons_zero]; go_big_quiet_on)
              | go_big_quiet_step (first
                | (go_at_call 23; with_reducible exact of_ext (KN.out _))
                | (go_at_call 32; with_reducible exact of_ext (KC.out _))
                | (go_at_call 32; with_reducible exact of_ext (KD.out _))))
            refine wpQuiet_nil ?_
            refine ext_all ?_
            intro w6 hx6
            have HX6 := Lib.hid (HX5.out.trans hx6)
            clear hRR hR5 hx6 KC KD KN
            go_wp2_with fail
            go_roundw
            case rel => exact ⟨j + 1, by omega, by go_num, HX6.out⟩
            case measure => simp [intOf]; omega
          · have hge : ¬ ((j : Int) < 2) := by omega
            go_wp2_with fail
            go_roundw
            case rel => exact ⟨k + 1, by omega, by go_num, hxj⟩
            case measure => simp [intOf]; omega
      · have hge : ¬ ((k : Int) < 13) := by omega
        have KW := Lib.hid (wakes_any wr ((hEE.out.ext HX.out).ext hx))
        go_wp2_with fail
        refine KW.out.mono ?_
        rintro e w9 ⟨rfl, hx9⟩
        go_wp2_with fail
        go_ret
        exact ⟨rfl, (HX.out.trans hx).trans hx9⟩
end Go.Proofs.YtkdbdcpfmmbfpaaDoor
