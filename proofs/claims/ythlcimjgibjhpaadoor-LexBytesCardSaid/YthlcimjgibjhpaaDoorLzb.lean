/- LexBytes: the walk. -/
import Derived.Test.YthlcimjgibjhpaaDoorLzt
namespace Go.Proofs.YthlcimjgibjhpaaDoor
open Go.RowKit Go.Maps

/-- the ten texts about a byte -/
def byT (x : UInt8) : List ByteArray := [⟨#[x]⟩, ⟨#[97]⟩ ++ ⟨#[x]⟩, ⟨#[49]⟩ ++ ⟨#[x]⟩, ⟨#[88]⟩ ++ ⟨#[x]⟩ ++ ⟨#[121]⟩, ⟨#[60]⟩ ++ ⟨#[x]⟩, ⟨#[x]⟩ ++ ⟨#[45]⟩, ⟨#[61]⟩ ++ ⟨#[x]⟩ ++ ⟨#[61]⟩, ⟨#[92]⟩ ++ ⟨#[x]⟩, ⟨#[45]⟩ ++ ⟨#[x]⟩ ++ ⟨#[53]⟩, ⟨#[37]⟩ ++ ⟨#[x]⟩ ++ ⟨#[10, 122]⟩]
abbrev byO (x : UInt8) : Obj := .cells #[.string ⟨#[x]⟩, .string (⟨#[97]⟩ ++ ⟨#[x]⟩), .string (⟨#[49]⟩ ++ ⟨#[x]⟩), .string (⟨#[88]⟩ ++ ⟨#[x]⟩ ++ ⟨#[121]⟩), .string (⟨#[60]⟩ ++ ⟨#[x]⟩), .string (⟨#[x]⟩ ++ ⟨#[45]⟩), .string (⟨#[61]⟩ ++ ⟨#[x]⟩ ++ ⟨#[61]⟩), .string (⟨#[92]⟩ ++ ⟨#[x]⟩), .string (⟨#[45]⟩ ++ ⟨#[x]⟩ ++ ⟨#[53]⟩), .string (⟨#[37]⟩ ++ ⟨#[x]⟩ ++ ⟨#[10, 122]⟩)] 9
theorem byT_size (x : UInt8) : ∀ t ∈ byT x, t.size ≤ 4 := by
  have h1 : ∀ a : UInt8, (⟨#[a]⟩ : ByteArray).size = 1 := fun _ => rfl
  have h2 : ∀ a b : UInt8, (⟨#[a, b]⟩ : ByteArray).size = 2 := fun _ _ => rfl
  intro t ht
  simp only [byT, List.mem_cons, List.not_mem_nil, or_false] at ht
  rcases ht with rfl | rfl | rfl | rfl | rfl | rfl | rfl | rfl | rfl | rfl <;> simp only [ByteArray.size_append, h1, h2] <;> omega
theorem byT_at (x : UInt8) (w : World) : StrsAt (w.alloc (byO x)) (byT x) (some ⟨w.heap.size, 0, none⟩) := by
  intro i hi
  refine ⟨w.heap.size, 0, rfl, ?_, by have := byT_size x _ (List.getElem_mem hi); omega⟩
  have hh := heap_alloc_new w (byO x)
  simp only [World.cell?, hh, Nat.zero_add]
  have : i = 0 ∨ i = 1 ∨ i = 2 ∨ i = 3 ∨ i = 4 ∨ i = 5 ∨ i = 6 ∨ i = 7 ∨ i = 8 ∨ i = 9 := by have : i < 10 := hi; omega
  rcases this with rfl | rfl | rfl | rfl | rfl | rfl | rfl | rfl | rfl | rfl <;> rfl

set_option maxRecDepth 100000 in
set_option maxHeartbeats 4000000 in
theorem bytes_walk (ss : List ByteArray) (A : Option Addr) (c : Nat) (w : World) (hC : ClsAt w) :
    Calls Tryd.prog 4 #[.agg #[.slice A ss.length c]] w fun e w' => e = .returned (.bool true) ∧ Ext w w' := by
  have hx0 : Ext w (w.alloc (.cells #[.slice A ss.length c] 24)) := (Ext.refl w).alloc _
  have p0 : (w.alloc (.cells #[.slice A ss.length c] 24)).cell? ⟨w.heap.size, 0, none⟩ = some (.slice A ss.length c) := by go_simp
  have hC1 := hC.ext hx0
  go_enter Tryd.func4, Tryd.ntmps4
  go_wp2_with fail
  generalize w.alloc (.cells #[.slice A ss.length c] 24) = w1 at hx0 p0 hC1 ⊢
  go_loopw [3] (fun i wr => ∃ k : Nat, k ≤ 256 ∧ i = .int .i64 k ∧ Ext w1 wr) (fun i _ => 256 - (intOf i).toNat)
  case atStart => exact ⟨0, Nat.zero_le _, rfl, Ext.refl _⟩
  case round =>
    obtain ⟨q, hq, rfl, hxa⟩ := hrel
    obtain ⟨wa, rfl⟩ : ∃ wa : World, wa = wr := ⟨_, rfl⟩
    by_cases hlt : q < 256
    · have hl' : decide ((q : Int) < 256) = true := decide_eq_true (by omega)
      obtain ⟨x, hx⟩ : ∃ x : UInt8, x = UInt8.ofNat q := ⟨_, rfl⟩
      have hxq : x.toNat = q := by rw [hx]; simp; omega
      have hw8 : IntKind.u8.wrap (q : Int) = ((x.toNat : Nat) : Int) := by rw [IntKind.wrap_u8, hxq]; omega
      have hcv := conv_bytes [x] wa.heap.size 0 1 (wa.alloc (.cells #[.int .u8 (x.toNat : Nat)] 5)) (fun j hj => by
        have : j = 0 := by simpa using hj
        subst this; go_simp)
      simp only [List.length_cons, List.length_nil, Nat.zero_add] at hcv
      clear hx hxq
      go_wp2_with fail
      obtain ⟨w5, hw5⟩ : ∃ w5, w5 = (wa.alloc (.cells #[.int .u8 (x.toNat : Nat)] 5)).alloc (byO x) := ⟨_, rfl⟩
      have hx5 : Ext wa w5 := by rw [hw5]; exact ((Ext.refl wa).alloc _).alloc _
      have hS5 : StrsAt w5 (byT x) (some ⟨wa.heap.size + 1, 0, none⟩) := by
        rw [hw5]
        have := byT_at x (wa.alloc (.cells #[.int .u8 (x.toNat : Nat)] 5))
        rw [heap_size_alloc] at this
        exact this
      have hC5 := hC1.ext (hxa.trans hx5)
      rw [← hw5]
      clear hw5 hcv hw8
      go_loopw [6] (fun i wr => ∃ k : Nat, k ≤ 10 ∧ i = .int .i64 k ∧ Ext w5 wr) (fun i _ => 10 - (intOf i).toNat)
      case atStart => exact ⟨0, Nat.zero_le _, rfl, Ext.refl _⟩
      case round =>
        obtain ⟨i, hi, rfl, hxb⟩ := hrel
        by_cases hli : i < 10
        · have hl2 : decide ((i : Int) < 10) = true := decide_eq_true (by omega)
          have i0 : (0 : Int) ≤ (i : Int) := Int.natCast_nonneg _
          have i1 : (i : Int) < 10 := by omega
          obtain ⟨b, o, e, cS, hsz⟩ := (hS5.ext hxb) i hli
          injection e with e
          injection e with e1 e2
          subst e1 e2
          rw [Nat.zero_add] at cS
          generalize (byT x)[i] = s at cS hsz
          have hCb := hC5.ext hxb
          have K1 := Lib.hid (Tokens_any s wr hCb hCb.size hsz)
          go_wp2_with fail
          refine K1.out.mono ?_
          rintro e w6 ⟨v, base, rfl, hown, _, hx6⟩
          obtain ⟨A1, c1, rfl, _, hT1⟩ := owned_toks hown
          have cS2 := hx6.cell cS
          clear K1 hown
          have K2 := Lib.hid (rTokens_any s w6 hsz)
          go_wp2_with fail
          refine K2.out.mono ?_
          rintro e w7 ⟨v2, base2, rfl, hown2, _, hx7⟩
          obtain ⟨A2, c2, rfl, _, hT2⟩ := owned_toks hown2
          clear K2 hown2
          go_wp2_with fail
          refine (num_any _ _).mono ?_
          rintro e w8 ⟨rfl, rfl⟩
          have hlen := lexT_len s
          have hx67 := hx6.trans hx7
          go_wp2_with fail
          refine (eqToks_any (lexT s) A1 A2 c1 c2 _ (by omega) (hT1.ext hx7) hT2).mono ?_
          rintro e w8 ⟨rfl, hx8⟩
          go_wp2_with fail
          go_roundw
          case rel => exact ⟨i + 1, by omega, by go_num, hxb.trans (hx67.trans hx8)⟩
          case measure => simp [intOf]; omega
        · have hl2 : decide ((i : Int) < 10) = false := decide_eq_false (by omega)
          go_wp2_with fail
          go_roundw
          case rel => exact ⟨q + 1, by omega, by go_num, hxa.trans (hx5.trans hxb)⟩
          case measure => simp [intOf]; omega
    · have hl' : decide ((q : Int) < 256) = false := decide_eq_false (by omega)
      have pa0 := hxa.cell p0
      go_wp2_with fail
      refine (wakes_any _ (hC1.ext hxa)).mono ?_
      rintro e w5 ⟨rfl, hx5⟩
      go_wp2_with fail
      go_ret
      exact ⟨rfl, hx0.trans (hxa.trans hx5)⟩
end Go.Proofs.YthlcimjgibjhpaaDoor
