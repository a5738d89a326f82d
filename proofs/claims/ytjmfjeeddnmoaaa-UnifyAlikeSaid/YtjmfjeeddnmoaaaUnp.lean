/- term.unpack: a label's name again. -/
import Derived.Test.YtjmfjeeddnmoaaaGat
import Derived.Test.YtjmfjeeddnmoaaaOpen
import Derived.OwnWalk
import Derived.Deep.AppendLies
import Derived.Maps.AppendAt
import Derived.Laws.BytesArg
import Derived.Laws.IdiomStrings
namespace Go.Proofs.Ytjmfjeeddnmoaaa
open Go.RowKit

/-- the byte at a place, 0 behind the end -/
def byteAt (l : List UInt8) (k : Nat) : Nat := match l[k]? with | some b => b.toNat | none => 0
theorem nm_byte : ∀ (m : Nat) (l : List UInt8) (k : Nat), k < m → nm m l / 256 ^ (m - 1 - k) % 256 = byteAt l k
  | 0, _, _, h => by omega
  | m + 1, [], k, _ => by simp [nm, byteAt]
  | m + 1, b :: l, 0, _ => by
    have h1 := nm_lt m l
    have h2 := byte_lt b
    simp only [nm, byteAt, Nat.add_sub_cancel, Nat.sub_zero, List.getElem?_cons_zero]
    rw [Nat.mul_comm, Nat.mul_add_div (Nat.pow_pos (by omega)), Nat.div_eq_of_lt h1, Nat.add_zero, Nat.mod_eq_of_lt h2]
  | m + 1, b :: l, k + 1, h => by
    have ih := nm_byte m l k (by omega)
    have e : m + 1 - 1 - (k + 1) = m - 1 - k := by omega
    simp only [nm, e]
    have e2 : b.toNat * 256 ^ m = 256 ^ (m - 1 - k) * (256 * (b.toNat * 256 ^ k)) := by
      have : m = (m - 1 - k) + 1 + k := by omega
      conv => lhs; rw [this]
      rw [Nat.pow_add, Nat.pow_add, Nat.pow_one]
      ac_rfl
    rw [e2, Nat.mul_add_div (Nat.pow_pos (by omega)), Nat.mul_add_mod, ih]
    simp [byteAt]

theorem byte_of (X e : Nat) : ((X : Int) / 2 ^ (8 * e) % 256) = ((X / 256 ^ e % 256 : Nat) : Int) := by
  have h : (256 : Nat) ^ e = 2 ^ (8 * e) := by rw [Nat.pow_mul]
  rw [h, Int.natCast_emod, Int.natCast_ediv, Int.natCast_pow]
  rfl
theorem low_byte (l : List UInt8) (k : Nat) (h : k < 8) : (((nm 8 l : Nat) : Int) / 2 ^ (8 * (7 - k % 8)) % 256) = (byteAt l k : Int) := by
  rw [byte_of, show 7 - k % 8 = 8 - 1 - k by omega, nm_byte 8 l k h]
theorem high_byte (l : List UInt8) (k : Nat) (h8 : 8 ≤ k) (h : k < 16) : (((nm 8 (l.drop 8) : Nat) : Int) / 2 ^ (8 * (7 - k % 8)) % 256) = (byteAt l k : Int) := by
  rw [byte_of, show 7 - k % 8 = 8 - 1 - (k - 8) by omega, nm_byte 8 _ (k - 8) (by omega)]
  simp [byteAt, show 8 + (k - 8) = k by omega]
theorem byteAt_in (s : ByteArray) (k : Nat) (h : k < s.size) : byteAt s.data.toList k = s[k].toNat := by
  have e : s.data.toList.length = s.size := by rw [Array.length_toList]; rfl
  unfold byteAt
  rw [List.getElem?_eq_getElem (by omega)]
  rfl
theorem byteAt_out (s : ByteArray) (k : Nat) (h : s.size ≤ k) : byteAt s.data.toList k = 0 := by
  have e : s.data.toList.length = s.size := by rw [Array.length_toList]; rfl
  unfold byteAt
  rw [List.getElem?_eq_none (by omega)]

/-- bytes as values -/
def byteVs (l : List UInt8) : List Value := l.map fun c => Value.int .u8 c.toNat
theorem byteVs_one (l : List UInt8) : ∀ u ∈ byteVs l, u.oneCell' = true := by
  intro u hu
  obtain ⟨c, _, rfl⟩ := List.mem_map.1 hu
  rfl
/-- string(b), b a row of the call's own -/
theorem conv_own {w : World} {base : Nat} {v : Value} {n : Nat} {l : List UInt8} (h : w.ownsRow base 5 1 v n (byteVs l)) : (convert 154 9 v).run Try.prog w = .ok (.string ⟨l.toArray⟩) w := by
  have hn : l.length = n := by have := h.1; simpa [byteVs] using this
  subst hn
  rcases h.2 with ⟨rfl, h0⟩ | ⟨g, cap, cur, rfl, _, _, hc, _⟩
  · rw [run_convert_bytes_nil w _ _ Try.underlying154 Try.underlying5 0 0 _ Try.underlying9, List.eq_nil_of_length_eq_zero h0]
    rfl
  · refine run_convert_bytes_back w _ _ _ _ cap l Try.underlying154 Try.underlying5 Try.underlying9 fun j hj => ?_
    rw [add_addr, Nat.zero_add, h.cellAt j (by omega)]
    simp [byteVs, hj]

theorem infoU8 : (Try.prog.info? 5).map (fun i => (i.zero, i.size, i.bytes)) = some (some (.int .u8 0), 1, 1) := by kernel_rfl
theorem Pair.grown {w w' : World} {g : Nat} {x y : Int} {r : Option Nat} (h : Pair w g x y) (k : w.grownBy w' r) (hg : g < w.heap.size) (hne : some g ≠ r) : Pair w' g x y := by
  have e := k.block g hg hne
  exact ⟨(World.cell?_of_block (w := w) e).trans h.1, (World.cell?_of_block (w := w) e).trans h.2.1, (World.frozen?_of_block (w := w) e).trans h.2.2.1, (World.frozen?_of_block (w := w) e).trans h.2.2.2⟩

theorem byte_mem (s : ByteArray) (k : Nat) (h : k < s.size) : s[k] ∈ s.data.toList := by
  have e : s.data.toList.length = s.size := by rw [Array.length_toList]; rfl
  exact List.getElem_mem (l := s.data.toList) (n := k) (by omega)
/-- one byte more -/
theorem unpack_own {w wr w4 : World} {v v' : Value} {s : ByteArray} {k : Nat} {x y : Int} {q : Nat} (hlt : k < s.size) (hown : wr.ownsRow (w.heap.size + 1) 5 1 v k (byteVs (s.data.toList.take k))) (hx : Ext w wr) (hsz : w.heap.size < wr.heap.size) (HP : Pair wr w.heap.size x y) {o : Obj}
    (hown4 : w4.ownsRow (w.heap.size + 1) 5 1 v' (k + 1) (byteVs (s.data.toList.take k) ++ byteVs [s[k]])) (hg : ((wr.drewN q).alloc o).grownBy w4 v.ownBlock) :
    w4.ownsRow (w.heap.size + 1) 5 1 v' (k + 1) (byteVs (s.data.toList.take (k + 1))) ∧ Ext w w4 ∧ w.heap.size < w4.heap.size ∧ Hid (Pair w4 w.heap.size x y) := by
  have hs := hg.size
  refine ⟨?_, ?_, ?_, Lib.hid ?_⟩
  · rw [take_snoc s k hlt]
    simpa [byteVs] using hown4
  · exact Below.grown ((hx.drewN q).alloc o) hg (by have := hx.size; simp; omega) (fun b hb => by have := (hown.lt b hb).1; omega)
  · simp at hs; omega
  · have hP : Pair ((wr.drewN q).alloc o) w.heap.size x y := HP.ext (((Ext.refl _).drewN q).alloc o) hsz
    exact hP.grown hg (by simp; omega) (fun e => by have := (hown.lt _ e.symm).1; omega)

set_option maxRecDepth 100000 in
set_option maxHeartbeats 2000000 in
theorem unpack_any (s : ByteArray) (w : World) (hs : s.size ≤ 16) (hg : ∀ b ∈ s.data.toList, 0 < b.toNat) :
    Calls Try.prog 113 #[.agg #[.int .u64 (nm 8 s.data.toList : Nat), .int .u64 (nm 8 (s.data.toList.drop 8) : Nat)]] w fun e w' => e = .returned (.string s) ∧ Ext w w' := by
  obtain ⟨i0, hi0, hz0, hz1, hz2⟩ := info_parts infoU8
  have HG := Lib.hid hg
  clear hg
  have hend : ∀ k, s.size ≤ k → Hid ((⟨(s.data.toList.take k).toArray⟩ : ByteArray) = s) := fun k h => Lib.hid (by
    have e : s.data.toList.length = s.size := by rw [Array.length_toList]; rfl
    rw [List.take_of_length_le (by omega)])
  go_enter Try.func113, Try.ntmps113
  go_wp2_with fail
  go_loopw [3, 6] (fun v i wr => ∃ (k : Nat), k ≤ s.size ∧ i = .int .i64 k ∧ wr.ownsRow (w.heap.size + 1) 5 1 v k (byteVs (s.data.toList.take k)) ∧ Ext w wr ∧ w.heap.size < wr.heap.size ∧ Hid (Pair wr w.heap.size (nm 8 s.data.toList : Nat) (nm 8 (s.data.toList.drop 8) : Nat))) (fun _ i _ => s.size - (intOf i).toNat)
  case atStart => exact ⟨0, Nat.zero_le _, rfl, World.ownsRow_nil _ _ _ _, (Ext.refl w).alloc _, by simp, Lib.hid ⟨by go_simp, by go_simp, by go_simp, by go_simp⟩⟩
  case round =>
    obtain ⟨k, hk, rfl, hown, hx, hsz, HP⟩ := hrel
    by_cases h16 : k < 16
    · obtain ⟨p0, p1, f0, f1⟩ := HP.out
      by_cases h8 : k < 8
      · have hk8 : (k : Int) / 8 = 0 := by omega
        have HB := Lib.hid (low_byte s.data.toList k h8)
        have hwr0 : IntKind.i64.wrap 0 = 0 := by decide
        by_cases hlt : k < s.size
        · have HV := Lib.hid (byteAt_in s k hlt)
          have hne : (((s[k].toNat : Nat) : Int) == 0) = false := by
            have := HG.out s[k] (byte_mem s k hlt)
            simp; omega
          go_wp2_with fail
          go_quiet ((go_at_call 138; exact Calls.quiet_of_same (shiftOf_any k _ (by omega))))
          rw [HB.out, HV.out]
          go_wp2_with (at_builtin; refine wpList_append_own_at _ rfl _ _ 154 rfl (w.heap.size + 1) 5 i0 _ 1 1 Try.underlying154 hi0 hz0 hz1 hz2 rfl (by decide) _ k (byteVs (s.data.toList.take k)) rfl (hown.alloc _) ⟨wr.heap.size, 0, none⟩ 1 1 (byteVs [s[k]]) rfl rfl ?c1 ?c2 ?c3 ?c4 ?c5 ?_)
          case c1 => exact World.news_of_block (cs := #[.int .u8 s[k].toNat]) (t := 5) (fr := (0, 0)) (heap_alloc_new _ _)
          case c2 => exact byteVs_one _
          case c3 => simp only [maxLen]; omega
          case c4 => omega
          case c5 => simp; omega
          intro v' w4 hown4 hgrow _ _
          obtain ⟨g1, g2, g3, g4⟩ := unpack_own hlt hown hx hsz HP.out hown4 hgrow
          clear hown4 hgrow hown HP HB HV
          go_wp2_with fail
          go_roundw
          case rel => exact ⟨k + 1, by omega, by go_num, g1, g2, g3, g4⟩
          case measure => simp [intOf]; omega
        · have HV := Lib.hid (byteAt_out s k (by omega))
          have HE := hend k (by omega)
          have hcv : ∀ n, (convert 154 9 u3).run Try.prog (wr.drewN n) = .ok (.string s) (wr.drewN n) := fun n => by have := conv_own (w := wr.drewN n) hown; rwa [HE.out] at this
          go_wp2_with fail
          go_quiet ((go_at_call 138; exact Calls.quiet_of_same (shiftOf_any k _ (by omega))))
          rw [HB.out, HV.out]
          go_wp2_with fail
          go_ret
          exact ⟨rfl, hx.drewN _⟩
      · have hk8 : (k : Int) / 8 = 1 := by omega
        have HB := Lib.hid (high_byte s.data.toList k (by omega) h16)
        have hwr0 : IntKind.i64.wrap 1 = 1 := by decide
        by_cases hlt : k < s.size
        · have HV := Lib.hid (byteAt_in s k hlt)
          have hne : (((s[k].toNat : Nat) : Int) == 0) = false := by
            have := HG.out s[k] (byte_mem s k hlt)
            simp; omega
          go_wp2_with fail
          go_quiet ((go_at_call 138; exact Calls.quiet_of_same (shiftOf_any k _ (by omega))))
          rw [HB.out, HV.out]
          go_wp2_with (at_builtin; refine wpList_append_own_at _ rfl _ _ 154 rfl (w.heap.size + 1) 5 i0 _ 1 1 Try.underlying154 hi0 hz0 hz1 hz2 rfl (by decide) _ k (byteVs (s.data.toList.take k)) rfl (hown.alloc _) ⟨wr.heap.size, 0, none⟩ 1 1 (byteVs [s[k]]) rfl rfl ?c1 ?c2 ?c3 ?c4 ?c5 ?_)
          case c1 => exact World.news_of_block (cs := #[.int .u8 s[k].toNat]) (t := 5) (fr := (0, 0)) (heap_alloc_new _ _)
          case c2 => exact byteVs_one _
          case c3 => simp only [maxLen]; omega
          case c4 => omega
          case c5 => simp; omega
          intro v' w4 hown4 hgrow _ _
          obtain ⟨g1, g2, g3, g4⟩ := unpack_own hlt hown hx hsz HP.out hown4 hgrow
          clear hown4 hgrow hown HP HB HV
          go_wp2_with fail
          go_roundw
          case rel => exact ⟨k + 1, by omega, by go_num, g1, g2, g3, g4⟩
          case measure => simp [intOf]; omega
        · have HV := Lib.hid (byteAt_out s k (by omega))
          have HE := hend k (by omega)
          have hcv : ∀ n, (convert 154 9 u3).run Try.prog (wr.drewN n) = .ok (.string s) (wr.drewN n) := fun n => by have := conv_own (w := wr.drewN n) hown; rwa [HE.out] at this
          go_wp2_with fail
          go_quiet ((go_at_call 138; exact Calls.quiet_of_same (shiftOf_any k _ (by omega))))
          rw [HB.out, HV.out]
          go_wp2_with fail
          go_ret
          exact ⟨rfl, hx.drewN _⟩
    · have HE := hend k (by omega)
      have hcv : (convert 154 9 u3).run Try.prog wr = .ok (.string s) wr := by have := conv_own hown; rwa [HE.out] at this
      go_wp2_with fail
      go_ret
      exact ⟨rfl, hx⟩
end Go.Proofs.Ytjmfjeeddnmoaaa
