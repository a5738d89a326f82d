/- LexTokens: the walk. -/
import Derived.Test.YtagkimcbllpnkaaDoorLza
import Derived.Test.YtagkimcbllpnkaaDoorLyf
import Derived.Laws.MakeOwn
import Derived.Laws.OwnMore
namespace Go.Proofs.YtagkimcbllpnkaaDoor
open Go.RowKit Go.Maps

theorem ClsAt.size {w : World} (h : ClsAt w) : w.heap.size ≠ 0 := by have := World.block_lt_of_cell? w _ (h 0 (by omega)); simp only at this; omega

theorem infoU8 : (Tryd.prog.info? 5).map (fun i => (i.zero, i.size, i.bytes)) = some (some (.int .u8 0), 1, 1) := by kernel_rfl
/-- a text that is too long -/
theorem big_text (u : World) : ∃ (M : Array Value) (z : ByteArray), z.size = 4001 ∧ (Instr.makeSlice 34 (.int .i64 4001) (.int .i64 4001)).run Tryd.prog u = .ok (.slice (some ⟨u.heap.size, 0, none⟩) 4001 4001) (u.alloc (.cells M 5)) ∧
    (convert 34 9 (.slice (some ⟨u.heap.size, 0, none⟩) 4001 4001)).run Tryd.prog (u.alloc (.cells M 5)) = .ok (.string z) (u.alloc (.cells M 5)) := by
  obtain ⟨i0, hi, hz0, hz1, hz2⟩ := info_parts infoU8
  obtain ⟨M, hM⟩ : ∃ M, M = madeCells (Value.int .u8 0).cells ((4001 : Int).toNat * i0.size) := ⟨_, rfl⟩
  obtain ⟨l, hl⟩ : ∃ l : List UInt8, l = List.replicate 4001 0 := ⟨_, rfl⟩
  have hll : l.length = 4001 := by rw [hl, List.length_replicate]
  have hmk := run_make (P := Tryd.prog) u 34 5 i0 (.int .u8 0) Tryd.underlying34 hi hz0 .i64 .i64 4001 4001 (by omega) (by omega) (by rw [hz2]; decide) (by decide)
  rw [← hM] at hmk
  have hMl : M.toList = List.replicate 4001 (Value.int .u8 0) := by
    rw [hM, hz1]
    exact toList_madeCells_one (.int .u8 0) _
  have hcv := conv_bytes l u.heap.size 0 4001 (u.alloc (.cells M 5)) (fun j hj => by
    have hh := heap_alloc_new u (.cells M 5)
    have h2 : ∀ x ∈ l, x = 0 := by rw [hl]; intro x hx; exact List.eq_of_mem_replicate hx
    have e0 : l[j] = 0 := h2 _ (List.getElem_mem hj)
    rw [e0, Nat.zero_add]
    simp only [World.cell?, hh]
    rw [← Array.getElem?_toList, hMl, List.getElem?_eq_getElem (by rw [List.length_replicate]; omega), List.getElem_replicate]
    rfl)
  rw [hll] at hcv
  exact ⟨M, ⟨l.toArray⟩, by simpa [ByteArray.size] using hll, hmk, hcv⟩

theorem toksL_len (n : Nat) : ∀ (m : Nat) (l : List UInt8) (ts : List Tok), l.length ≤ m → toksL n l = .inr ts → ts.length ≤ l.length + 1 := by
  intro m
  induction m with
  | zero =>
    intro l ts hl h
    have : l = [] := List.eq_nil_of_length_eq_zero (by omega)
    subst this
    rw [toksL_nil rfl] at h
    cases h
    simp
  | succ m ih =>
    intro l ts hl h
    have hle := passL_le l false
    match hp : passL false l with
    | [] => rw [toksL_nil hp] at h; cases h; simp
    | c :: r =>
      rw [hp] at hle
      match ht : tokL (c :: r) with
      | .inl e => rw [toksL_bad hp ht] at h; cases h
      | .inr (t, s) =>
        have hlt := tokL_lt ht
        rw [toksL_go hp ht] at h
        match hs : toksL n s with
        | .inl e => rw [hs] at h; cases h
        | .inr r' =>
          rw [hs] at h
          cases h
          have := ih s r' (by omega) hs
          simp only [List.length_cons] at *
          omega
theorem lexT_len (s : ByteArray) : (lexT s).length ≤ 4001 := by
  unfold lexT
  split
  · simp
  · rename_i h
    have hs : s.data.toList.length = s.size := by rw [Array.length_toList]; rfl
    match hT : toksL s.size s.data.toList with
    | .inl e => simp
    | .inr ts =>
      have := toksL_len s.size _ _ ts (Nat.le_refl _) hT
      simp only
      omega

set_option maxRecDepth 100000 in
set_option maxHeartbeats 4000000 in
theorem tokens_walk (ss : List ByteArray) (A : Option Addr) (c : Nat) (w : World) (hl : ss.length * 16 ≤ 140737488351232) (hS : StrsAt w ss A) (hC : ClsAt w) :
    Calls Tryd.prog 3 #[.agg #[.slice A ss.length c]] w fun e w' => e = .returned (.bool true) ∧ Ext w w' := by
  have hx0 : Ext w (w.alloc (.cells #[.slice A ss.length c] 24)) := (Ext.refl w).alloc _
  go_enter Tryd.func3, Tryd.ntmps3
  go_wp2_with fail
  refine (heavy_any ss A c _ hl (hS.ext hx0)).mono ?_
  rintro e1 w1 ⟨rfl, hx1⟩
  have hx01 := hx0.trans hx1
  have p0 : w1.cell? ⟨w.heap.size, 0, none⟩ = some (.slice A ss.length c) := hx1.cell (by go_simp)
  have hS1 := hS.ext hx01
  have hC1 := hC.ext hx01
  clear hx1 hx0
  cases hv : heavyB ss with
  | true =>
    go_wp2_with fail
    go_ret
    exact ⟨rfl, hx01⟩
  | false =>
    clear hv
    go_wp2_with fail
    go_loopw [3] (fun i wr => ∃ k : Nat, k ≤ ss.length ∧ i = .int .i64 k ∧ Ext w1 wr) (fun i _ => ss.length - (intOf i).toNat)
    case atStart => exact ⟨0, Nat.zero_le _, rfl, Ext.refl _⟩
    case round =>
      obtain ⟨i, hi, rfl, hxa⟩ := hrel
      have pa0 := hxa.cell p0
      by_cases hboth : i < ss.length ∧ i < 8
      · obtain ⟨hlt, h8⟩ := hboth
        have h8' : decide ((i : Int) < 8) = true := decide_eq_true (by omega)
        have i0 : (0 : Int) ≤ (i : Int) := Int.natCast_nonneg _
        have i1 : (i : Int) < (ss.length : Int) := by omega
        obtain ⟨b, o, rfl, cS, hsz⟩ := (hS1.ext hxa) i hlt
        have hCa := hC1.ext hxa
        have K1 := Lib.hid (Tokens_any ss[i] wr hCa hCa.size hsz)
        go_wp2_with fail
        refine K1.out.mono ?_
        rintro e w2 ⟨v, base, rfl, hown, _, hx2⟩
        obtain ⟨A1, c1, rfl, _, hT1⟩ := owned_toks hown
        have pb0 := hx2.cell pa0
        have cS2 := hx2.cell cS
        clear K1 hown
        have K2 := Lib.hid (rTokens_any ss[i] w2 hsz)
        go_wp2_with fail
        refine K2.out.mono ?_
        rintro e w3 ⟨v2, base2, rfl, hown2, _, hx3⟩
        obtain ⟨A2, c2, rfl, _, hT2⟩ := owned_toks hown2
        clear K2 hown2
        go_wp2_with fail
        refine (num_any _ _).mono ?_
        rintro e w4 ⟨rfl, rfl⟩
        have hlen := lexT_len ss[i]
        have hx23 := hx2.trans hx3
        have pc0 := hx3.cell pb0
        go_wp2_with fail
        refine (eqToks_any (lexT ss[i]) A1 A2 c1 c2 _ (by omega) (hT1.ext hx3) hT2).mono ?_
        rintro e w5 ⟨rfl, hx5⟩
        go_wp2_with fail
        go_roundw
        case rel => exact ⟨i + 1, by omega, by go_num, hxa.trans (hx23.trans hx5)⟩
        case measure => simp [intOf]; omega
      · have hCa := hC1.ext hxa
        obtain ⟨M, z, hz, hmk, hcv⟩ := big_text wr
        have hE : lexE z = 2 := by unfold lexE; rw [if_pos (by omega)]
        have hxm : Ext wr (wr.alloc (.cells M 5)) := (Ext.refl wr).alloc _
        have K1 := Tokens_any z (wr.alloc (.cells M 5)) (hCa.ext hxm) (hCa.ext hxm).size (by omega)
        rw [hE] at K1
        have K1 := Lib.hid K1
        by_cases hlt : i < ss.length
        · have h8' : decide ((i : Int) < 8) = false := decide_eq_false (by omega)
          have hl' : decide ((i : Int) < (ss.length : Int)) = true := decide_eq_true (by omega)
          clear hboth hE hz
          go_wp2_with fail
          refine K1.out.mono ?_
          rintro e w2 ⟨v, base, rfl, _, _, hx2⟩
          clear hmk hcv K1
          go_wp2_with fail
          refine (num_any _ _).mono ?_
          rintro e w4 ⟨rfl, rfl⟩
          have hxw := hxm.trans hx2
          go_wp2_with fail
          refine (wakes_any _ (hCa.ext hxw)).mono ?_
          rintro e w5 ⟨rfl, hx5⟩
          go_wp2_with fail
          go_ret
          exact ⟨rfl, hx01.trans (hxa.trans (hxw.trans hx5))⟩
        · have hl' : decide ((i : Int) < (ss.length : Int)) = false := decide_eq_false (by omega)
          clear hboth hE hz
          go_wp2_with fail
          refine K1.out.mono ?_
          rintro e w2 ⟨v, base, rfl, _, _, hx2⟩
          clear hmk hcv K1
          go_wp2_with fail
          refine (num_any _ _).mono ?_
          rintro e w4 ⟨rfl, rfl⟩
          have hxw := hxm.trans hx2
          go_wp2_with fail
          refine (wakes_any _ (hCa.ext hxw)).mono ?_
          rintro e w5 ⟨rfl, hx5⟩
          go_wp2_with fail
          go_ret
          exact ⟨rfl, hx01.trans (hxa.trans (hxw.trans hx5))⟩
end Go.Proofs.YtagkimcbllpnkaaDoor
