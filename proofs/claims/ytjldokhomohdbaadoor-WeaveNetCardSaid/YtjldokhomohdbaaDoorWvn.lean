/- almagestlaw8.row: what may come of one relation and each set of one or two. -/
import Derived.Test.YtjldokhomohdbaaDoorWvm
namespace Go.Proofs.YtjldokhomohdbaaDoor
open Go.RowKit Go.Maps

theorem rangeAt_ext {w w' : World} {b o : Nat} {cs : List Value} (h : w.rangeAt b o cs) (k : Ext w w') : w'.rangeAt b o cs := fun j v hv => k.cell (h j v hv)
/-- a whole array read in a region that draws its order -/
theorem quiet_load_mid {P : Program} {C : World → Prop} {a : Act} {o : Oper} {K : Act → Prop} (ty : TypeId) (x : Operand) (ho : o.op = .load ty x)
    (b f : Nat) (hx : a.eval x = .pointer (some ⟨b, f, none⟩)) (cs : List Value) (d : TypeDesc) (hc : ∀ w, C w → w.rangeAt b f cs)
    (hu : P.underlying ty = some d) (hd : d.isRow = true) (hi : (P.info? ty).map (·.size) = some cs.length) (hk : K (a.put o.dst (.agg cs.toArray))) : o.quiet P a C K :=
  ⟨_, fun w hw => by unfold Oper.quietAt execOp; simp only [ho, hx, Instr.loadAt, Instr.sureAddr, Sem.run_bind, Sem.run_pure, Result.andThen_ok, run_loadVar_mid w b f ty cs d (hc w hw) hu hd hi]; exact ⟨rfl, rfl⟩, hk⟩

/-- what came in, as the walks take it -/
structure In8 (ns : List Int) (A : Option Addr) (c : Nat) (ls : List (List Int)) (B : Option Addr) (d : Nat) (w : World) : Prop where
  ints : IntsAt w ns A
  nwf : ∀ n ∈ ns, (Lit.int .i64 n).wf = true
  nlen : ns.length * 8 ≤ 140737488351232
  ncap : ns.length ≤ c
  rows : RowsAt w ls B
  lwf : ∀ l ∈ ls, ∀ n ∈ l, (Lit.int .i64 n).wf = true
  llen : ls.length * 24 ≤ 140737488351232
  lcap : ls.length ≤ d
theorem and7 (N : Int) : ∃ m : Nat, m < 8 ∧ bits .and .i64 N 7 = (m : Int) := by
  refine ⟨(BitVec.ofInt 64 N &&& BitVec.ofInt 64 7).toNat, ?_, ?_⟩
  · rw [BitVec.toNat_and]
    exact Nat.lt_of_le_of_lt Nat.and_le_right (by decide)
  · show IntKind.i64.wrap ((BitVec.ofInt 64 N &&& BitVec.ofInt 64 7).toNat : Int) = _
    have h : (BitVec.ofInt 64 N &&& BitVec.ofInt 64 7).toNat < 8 := by
      rw [BitVec.toNat_and]
      exact Nat.lt_of_le_of_lt Nat.and_le_right (by decide)
    rw [IntKind.wrap_i64] <;> omega

theorem Then_nat (x y : Nat) (hx : x < 8192) (hy : y < 8192) (w : World) (hE : EndAt w) : Calls Tryd.prog 18 #[.int .i64 (x : Int), .int .i64 (y : Int)] w fun e w' => e = .returned (.tuple #[.int .i64 (thn x y : Int), .int .i64 0]) ∧ Ext w w' := by
  have h := Then_any x y w hE
  have h1 : stB (x : Int) = true := by simp [stB]; omega
  have h2 : stB (y : Int) = true := by simp [stB]; omega
  have e1 : thenV x y = (thn x y : Int) := by unfold thenV; rw [h1, h2]; simp
  have e2 : thenE x y = 0 := by unfold thenE; rw [h1, h2]; rfl
  rwa [e1, e2] at h
theorem rem13 {k j m : Nat} (hk : k < 13) (hj : j < 2) (hm : m < 8) : ∃ q : Nat, q < 13 ∧ (RowKit.wrap64 ((k : Int) + RowKit.wrap64 ((j : Int) * (1 + (m : Int))))).tmod 13 = (q : Int) := by
  have e : RowKit.wrap64 ((k : Int) + RowKit.wrap64 ((j : Int) * (1 + (m : Int)))) = ((k + j * (1 + m) : Nat) : Int) := by
    obtain rfl | rfl : j = 0 ∨ j = 1 := by omega
    · unfold RowKit.wrap64; simp; omega
    · unfold RowKit.wrap64; simp; omega
  rw [e]
  exact ⟨(k + j * (1 + m)) % 13, Nat.mod_lt _ (by omega), rfl⟩
end Go.Proofs.YtjldokhomohdbaaDoor
