/- Joined: Cpr, Ron, Onl, Rjp, Rat, Rbp, Rbs, Rst, Rap, Rjn, Spb, Joc. -/
import Derived.Test.YtjmfjeeddnmoaaaMA
import Derived.Test.YtjmfjeeddnmoaaaMK
import Derived.Test.YtjmfjeeddnmoaaaRva
import Derived.Test.YtjmfjeeddnmoaaaMC
import Derived.Test.YtjmfjeeddnmoaaaRren
import Derived.Test.YtjmfjeeddnmoaaaRnm
import Derived.Test.YtjmfjeeddnmoaaaSpoil

/- almagestref0.CopyBind, CopyBinds: the same in new memory. -/
namespace Go.Proofs.Ytjmfjeeddnmoaaa
open Go.RowKit

set_option maxRecDepth 100000 in
set_option maxHeartbeats 2000000 in
theorem copyBind_any (x : Bd) (A : Option Addr) (c : Nat) (w : World) (h : TmAt w x.tm A c) :
    Calls Try.prog 83 #[x.val A c] w (CopiedB x w) := by
  have hxi : Ext w (((w.alloc (.cells #[.string x.name, .int .i64 x.tm.kind, .string x.tm.name, .int .i64 x.tm.n, .slice A x.tm.args.length c] 65)).alloc (.cells #[.string ⟨#[]⟩, .int .i64 0, .string ⟨#[]⟩, .int .i64 0, .slice none 0 0] 65)).alloc (.cells #[.string x.name, .int .i64 x.tm.kind, .string x.tm.name, .int .i64 x.tm.n, .slice A x.tm.args.length c] 65)) := (((Ext.refl w).alloc _).alloc _).alloc _
  go_enter Try.func83, Try.ntmps83
  go_wp2_with fail
  refine (copy_all x.tm.high x.tm A c _ (Nat.le_refl _) (h.ext hxi)).mono ?_
  rintro e w1 ⟨A', c', rfl, hO, hx1⟩
  have hx := hxi.trans hx1
  have x0 : w1.cell? ⟨w.heap.size + 1 + 1, 0, none⟩ = some (.string x.name) := hx1.cell (by go_simp)
  have x1 : w1.cell? ⟨w.heap.size + 1 + 1, 1, none⟩ = some (.int .i64 x.tm.kind) := hx1.cell (by go_simp)
  have x2 : w1.cell? ⟨w.heap.size + 1 + 1, 2, none⟩ = some (.string x.tm.name) := hx1.cell (by go_simp)
  have x3 : w1.cell? ⟨w.heap.size + 1 + 1, 3, none⟩ = some (.int .i64 x.tm.n) := hx1.cell (by go_simp)
  have x4 : w1.cell? ⟨w.heap.size + 1 + 1, 4, none⟩ = some (.slice A x.tm.args.length c) := hx1.cell (by go_simp)
  have r0 : w1.cell? ⟨w.heap.size + 1, 0, none⟩ = some (.string ⟨#[]⟩) := hx1.cell (by go_simp)
  have r1 : w1.cell? ⟨w.heap.size + 1, 1, none⟩ = some (.int .i64 0) := hx1.cell (by go_simp)
  have r2 : w1.cell? ⟨w.heap.size + 1, 2, none⟩ = some (.string ⟨#[]⟩) := hx1.cell (by go_simp)
  have r3 : w1.cell? ⟨w.heap.size + 1, 3, none⟩ = some (.int .i64 0) := hx1.cell (by go_simp)
  have r4 : w1.cell? ⟨w.heap.size + 1, 4, none⟩ = some (.slice none 0 0) := hx1.cell (by go_simp)
  have fz : ∀ b j, b < w.heap.size + 1 + 1 + 1 → w.heap.size ≤ b → w1.frozen? ⟨b, j, none⟩ = false := fun b j hb hb' => by
    rw [Below.frozen hx1 (p := ⟨b, j, none⟩) (by simpa using hb)]
    have e : b = w.heap.size ∨ b = w.heap.size + 1 ∨ b = w.heap.size + 1 + 1 := by omega
    rcases e with rfl | rfl | rfl <;> go_simp
  have g1 := fz (w.heap.size + 1 + 1) 1 (by omega) (by omega)
  have g2 := fz (w.heap.size + 1 + 1) 2 (by omega) (by omega)
  have g3 := fz (w.heap.size + 1 + 1) 3 (by omega) (by omega)
  have g4 := fz (w.heap.size + 1 + 1) 4 (by omega) (by omega)
  have f0 := fz (w.heap.size + 1) 0 (by omega) (by omega)
  have f1 := fz (w.heap.size + 1) 1 (by omega) (by omega)
  have f2 := fz (w.heap.size + 1) 2 (by omega) (by omega)
  have f3 := fz (w.heap.size + 1) 3 (by omega) (by omega)
  have f4 := fz (w.heap.size + 1) 4 (by omega) (by omega)
  have hsz : w.heap.size + 1 + 1 + 1 ≤ w1.heap.size := by have := hx1.size; simpa using this
  have HOwn : Hid (TmOwn w1 x.tm A' c' (fun b => w.heap.size + 1 + 1 + 1 ≤ b ∧ b < w1.heap.size)) := Lib.hid (hO.weak fun b hb => ⟨by have := hb.1; simpa using this, hb.2⟩)
  clear fz hO hx1 hxi
  go_wp2_with fail
  refine bodyPost_ret (v := x.val A' c') (by simp [results, Try.results83, go_sem, *]) rfl ⟨A', c', rfl, ?_, ?_⟩
  · exact TmOwn.answer5 (w := set4 w1 (w.heap.size + 1 + 1) 1 _ _ _ _) (lo := w.heap.size + 1 + 1 + 1) (r := w.heap.size + 1) (HOwn.out.keep fun b hb _ => set4_block _ _ _ _ _ _ _ _ (by omega)) _ _ _ _ _ (by omega) (by omega) (by rw [set4_size])
  · exact Chg.ext_of (Chg.ext_of hx (set4_chg w1 (w.heap.size + 1 + 1) 1 _ _ _ _ (F := fun x => x = w.heap.size + 1 + 1) rfl) (fun b hb => by omega)) (set5_chg _ (w.heap.size + 1) 0 _ _ _ _ _ (F := fun x => x = w.heap.size + 1) rfl) (fun b hb => by omega)

/-- copies of binds -/
def CopiedBs (bs : List Bd) (w : World) (e : Ending) (w' : World) : Prop :=
  ∃ A c, e = .returned (.slice A bs.length c) ∧ bs.length ≤ c ∧ BdsAt w' bs A ∧ Ext w w'

set_option maxRecDepth 100000 in
set_option maxHeartbeats 2000000 in
theorem copyBinds_mg (bs : List Bd) (A : Option Addr) (c : Nat) (w : World) (hl : bs.length ≤ 1000000) (h : BdsAt w bs A) :
    Calls Try.prog 38 #[.slice A bs.length c] w fun e w' => ∃ v, e = .returned v ∧ MgS w w' v bs := by
  obtain ⟨i0, hi0, hz0, hz1, hz2⟩ := info_parts infoBd
  go_enter Try.func38, Try.ntmps38
  go_wp2_with fail
  go_loopw [3, 4] (fun v i wr => ∃ k : Nat, k ≤ bs.length ∧ i = .int .i64 k ∧ Hid (MgS w wr v (bs.take k))) (fun _ i _ => bs.length - (intOf i).toNat)
  case atStart => exact ⟨0, Nat.zero_le _, rfl, Lib.hid ⟨[], fun _ _ => False, by simp, World.ownsRow_nil _ _ _ _, ⟨fun i hi => absurd hi (by simp), fun i hi => absurd hi (by simp), fun i j hi => absurd hi (by simp), Ext.refl _⟩, fun z hz => absurd hz (by simp)⟩⟩
  case round =>
    obtain ⟨k, hk, rfl, HM⟩ := hrel
    have hx := HM.out.ext_
    by_cases hlt : k < bs.length
    · obtain ⟨b, o, C, e, rfl, c0, c1, c2, c3, c4, hT, hn⟩ := (h.ext hx) k hlt
      obtain ⟨zs, G, hzs, hM⟩ := HM.out
      have hzl : zs.length = k := by have := congrArg List.length hzs; simp at this; omega
      have HTK := Lib.hid (List.take_succ_eq_append_getElem hlt)
      generalize hxk : bs[k] = x at *
      have i0' : (0 : Int) ≤ (k : Int) := Int.natCast_nonneg _
      have i1' : (k : Int) < (bs.length : Int) := by omega
      have hown := hM.own
      have HMa := Lib.hid hM
      have HZ := Lib.hid hzs
      have HZL := Lib.hid hzl
      clear hM hzs hzl hxk HM h
      go_wp2_with fail
      refine (copyBind_any x C e _ hT).mono ?_
      rintro e1 w1 ⟨A', c', rfl, hO, hx1⟩
      have hown1 := ownsRow_ext hown hx1
      have hsz := hx.size
      have hsz1 := hx1.size
      have hn1 : zs.length + 1 ≤ 1000000 := by have := HZL.out; omega
      go_wp2_with (at_builtin; refine wpList_app _ rfl _ _ 58 rfl w.heap.size 65 i0 _ 5 72 Try.underlying58 hi0 hz0 hz1 hz2 rfl (by decide) _ zs.length (browCells zs) rfl (hown1.alloc _) (some ⟨w1.heap.size, 0, none⟩) 1 1 (BLain.cells (x, A', c')) rfl (Src.box w1 #[.string x.name, .int .i64 x.tm.kind, .string x.tm.name, .int .i64 x.tm.n, .slice A' x.tm.args.length c'] 65 5 rfl) (BLain.one _) ?c3 ?c4 ?c5 ?_)
      case c3 => simp only [maxLen]; omega
      case c4 => omega
      case c5 => simp; omega
      intro v7 w7 ho7 hg7 hat7
      have HS7 := HMa.out.step hn hO hx1 ho7 hg7 (by simpa using hat7)
      rw [HZ.out, ← HTK.out] at HS7
      have HS8 := Lib.hid HS7
      clear HS7 ho7 hg7 hat7 hown1 hown
      go_wp2_with fail
      go_roundw
      case rel => exact ⟨k + 1, by omega, by go_num, HS8⟩
      case measure => simp [intOf]; omega
    · have hm := HM.out
      rw [List.take_of_length_le (by omega)] at hm
      have HB := Lib.hid hm
      clear hm HM
      go_wp2_with fail
      go_ret
      exact ⟨_, rfl, HB.out⟩
theorem copyBinds_any (bs : List Bd) (A : Option Addr) (c : Nat) (w : World) (hl : bs.length ≤ 1000000) (h : BdsAt w bs A) :
    Calls Try.prog 38 #[.slice A bs.length c] w (CopiedBs bs w) :=
  (copyBinds_mg bs A c w hl h).mono fun _ _ ⟨_, he, hm⟩ => by
    obtain ⟨A', c', B, d, G, rfl, hc, hO⟩ := hm.done
    exact ⟨A', c', he, hc, hO.at_, hm.ext_⟩
end Go.Proofs.Ytjmfjeeddnmoaaa

/- almagestref0.Has; almagestref1.Only: the binds of some names. -/
namespace Go.Proofs.Ytjmfjeeddnmoaaa
open Go.RowKit

/-- is a text among these -/
def hasB (ss : List ByteArray) (s : ByteArray) : Bool := ss.any fun x => x.toList == s.toList

set_option maxHeartbeats 1000000 in
theorem has_any (ss : List ByteArray) (s : ByteArray) (A : Option Addr) (c : Nat) (w : World) (hl : ss.length * 16 ≤ 140737488351232) (h : StrsAt w ss A) :
    Calls Try.prog 101 #[.slice A ss.length c, .string s] w fun e w' => e = .returned (.bool (hasB ss s)) ∧ Ext w w' := by
  go_enter Try.func101, Try.ntmps101
  go_wp2_with fail
  go_loopw [5] (fun i wr => ∃ k : Nat, k ≤ ss.length ∧ i = .int .i64 k ∧ Hid (hasB (ss.drop k) s = hasB ss s) ∧ Ext w wr) (fun i _ => ss.length - (intOf i).toNat)
  case atStart => exact ⟨0, Nat.zero_le _, rfl, Lib.hid (by rw [List.drop_zero]), Ext.refl _⟩
  case round =>
    obtain ⟨k, hk, rfl, H, hx⟩ := hrel
    by_cases hlt : k < ss.length
    · obtain ⟨b, o, rfl, c0, _⟩ := (h.ext hx) k hlt
      have k0 : (0 : Int) ≤ (k : Int) := Int.natCast_nonneg _
      have k1 : (k : Int) < (ss.length : Int) := by omega
      have H2 : Hid (((ss[k].toList == s.toList) || hasB (ss.drop (k + 1)) s) = hasB ss s) := by
        have := H.out
        rw [List.drop_eq_getElem_cons hlt] at this
        exact Lib.hid this
      clear H
      clear h
      by_cases hn : (ss[k].toList == s.toList) = true
      · have H3 : Hid (hasB ss s = true) := Lib.hid (by rw [← H2.out, hn]; rfl)
        clear H2
        go_wp2_with fail
        go_ret
        exact ⟨by rw [H3.out]; rfl, hx⟩
      · have hn' : (ss[k].toList == s.toList) = false := by simpa using hn
        have H3 : Hid (hasB (ss.drop (k + 1)) s = hasB ss s) := Lib.hid (by rw [← H2.out, hn']; rfl)
        clear H2 hn
        go_wp2_with fail
        go_roundw
        case rel => exact ⟨k + 1, by omega, by go_num, H3, hx⟩
        case measure => simp [intOf]; omega
    · have H3 : Hid (hasB ss s = false) := Lib.hid (by have := H.out; rw [List.drop_eq_nil_of_le (by omega)] at this; rw [← this]; rfl)
      clear H
      go_wp2_with fail
      go_ret
      exact ⟨by rw [H3.out]; rfl, hx⟩

/-- the binds of these names -/
def onlyB (bs : List Bd) (ss : List ByteArray) : List Bd := bs.filter fun x => hasB ss x.name

set_option maxRecDepth 100000 in
set_option maxHeartbeats 2000000 in
theorem rOnly_any (bs : List Bd) (ss : List ByteArray) (A S : Option Addr) (c d : Nat) (w : World) (hl : bs.length ≤ 1000000) (h : BdsAt w bs A) (hm : ss.length * 16 ≤ 140737488351232) (hs : StrsAt w ss S) :
    Calls Try.prog 56 #[.slice A bs.length c, .slice S ss.length d] w (CopiedBs (onlyB bs ss) w) := by
  obtain ⟨i0, hi0, hz0, hz1, hz2⟩ := info_parts infoBd
  go_enter Try.func56, Try.ntmps56
  go_wp2_with fail
  go_loopw [5, 6] (fun v i wr => ∃ k : Nat, k ≤ bs.length ∧ i = .int .i64 k ∧ Hid (MgS w wr v (onlyB (bs.take k) ss))) (fun _ i _ => bs.length - (intOf i).toNat)
  case atStart => exact ⟨0, Nat.zero_le _, rfl, Lib.hid ⟨[], fun _ _ => False, by simp [onlyB], World.ownsRow_nil _ _ _ _, ⟨fun i hi => absurd hi (by simp), fun i hi => absurd hi (by simp), fun i j hi => absurd hi (by simp), Ext.refl _⟩, fun z hz => absurd hz (by simp)⟩⟩
  case round =>
    obtain ⟨k, hk, rfl, HM⟩ := hrel
    have hx := HM.out.ext_
    by_cases hlt : k < bs.length
    · obtain ⟨b, o, C, e, rfl, c0, c1, c2, c3, c4, hT, hn⟩ := (h.ext hx) k hlt
      have hoL : (onlyB (bs.take k) ss).length ≤ k := by
        unfold onlyB
        exact Nat.le_trans (List.length_filter_le _ _) (by rw [List.length_take]; omega)
      have HTK : Hid (onlyB (bs.take (k + 1)) ss = onlyB (bs.take k) ss ++ (if hasB ss bs[k].name then [bs[k]] else [])) := Lib.hid (by
        unfold onlyB
        rw [List.take_succ_eq_append_getElem hlt, List.filter_append]
        congr 1
        rw [List.filter_cons]
        simp only [List.filter_nil])
      generalize hxk : bs[k] = x at *
      have i0' : (0 : Int) ≤ (k : Int) := Int.natCast_nonneg _
      have i1' : (k : Int) < (bs.length : Int) := by omega
      clear hxk h
      go_wp2_with fail
      refine (has_any ss x.name S d _ hm (hs.ext hx)).mono ?_
      rintro e0 w0 ⟨rfl, hx0⟩
      have hx00 := hx.trans hx0
      have HM0 : Hid (MgS w w0 u5 (onlyB (bs.take k) ss)) := Lib.hid (HM.out.ext hx0)
      have hT0 := hT.ext hx0
      have c0' := hx0.cell c0
      have c1' := hx0.cell c1
      have c2' := hx0.cell c2
      have c3' := hx0.cell c3
      have c4' := hx0.cell c4
      clear HM c0 c1 c2 c3 c4 hT
      cases hb : hasB ss x.name with
      | false =>
        have HS8 : Hid (MgS w w0 u5 (onlyB (bs.take (k + 1)) ss)) := Lib.hid (by rw [HTK.out, hb]; simpa using HM0.out)
        clear hb HTK HM0
        go_wp2_with fail
        go_roundw
        case rel => exact ⟨k + 1, by omega, by go_num, HS8⟩
        case measure => simp [intOf]; omega
      | true =>
        have HTK2 : Hid (onlyB (bs.take (k + 1)) ss = onlyB (bs.take k) ss ++ [x]) := Lib.hid (by rw [HTK.out, hb]; rfl)
        obtain ⟨zs, G, hzs, hM⟩ := HM0.out
        have hzl : zs.length ≤ k := by have := congrArg List.length hzs; simp at this; omega
        have hown := hM.own
        have HMa := Lib.hid hM
        have HZ := Lib.hid hzs
        clear hM hzs HM0 hb HTK
        go_wp2_with fail
        refine (copyBind_any x C e _ hT0).mono ?_
        rintro e1 w1 ⟨A', c', rfl, hO, hx1⟩
        have hown1 := ownsRow_ext hown hx1
        have hsz := hx00.size
        have hsz1 := hx1.size
        have hn1 : zs.length + 1 ≤ 1000000 := by omega
        go_wp2_with (at_builtin; refine wpList_app _ rfl _ _ 58 rfl w.heap.size 65 i0 _ 5 72 Try.underlying58 hi0 hz0 hz1 hz2 rfl (by decide) _ zs.length (browCells zs) rfl (hown1.alloc _) (some ⟨w1.heap.size, 0, none⟩) 1 1 (BLain.cells (x, A', c')) rfl (Src.box w1 #[.string x.name, .int .i64 x.tm.kind, .string x.tm.name, .int .i64 x.tm.n, .slice A' x.tm.args.length c'] 65 5 rfl) (BLain.one _) ?c3 ?c4 ?c5 ?_)
        case c3 => simp only [maxLen]; omega
        case c4 => omega
        case c5 => simp; omega
        intro v7 w7 ho7 hg7 hat7
        have HS7 := HMa.out.step hn hO hx1 ho7 hg7 (by simpa using hat7)
        rw [HZ.out, ← HTK2.out] at HS7
        have HS8 := Lib.hid HS7
        clear HS7 ho7 hg7 hat7 hown1 hown
        go_wp2_with fail
        go_roundw
        case rel => exact ⟨k + 1, by omega, by go_num, HS8⟩
        case measure => simp [intOf]; omega
    · have hm := HM.out
      rw [List.take_of_length_le (by omega)] at hm
      obtain ⟨A', c', B, d, G, rfl, hc, hO⟩ := hm.done
      have HB := Lib.hid hO.at_
      clear hO hm HM
      go_wp2_with fail
      go_ret
      exact ⟨A', c', rfl, hc, HB.out, hx⟩
end Go.Proofs.Ytjmfjeeddnmoaaa

/- bind.Only: the binds of some names. -/
namespace Go.Proofs.Ytjmfjeeddnmoaaa
open Go.RowKit

theorem or32 (a b : Nat) (ha : a < 4294967296) (hb : b < 4294967296) : bits .or .u32 (a : Int) (b : Int) = ((a ||| b : Nat) : Int) := by
  have hx : a ||| b < 2 ^ 32 := Nat.or_lt_two_pow (by omega) (by omega)
  have h1 : (BitVec.ofInt 32 (a : Int)).toNat = a := by
    rw [BitVec.ofInt_natCast, BitVec.toNat_ofNat]; exact Nat.mod_eq_of_lt (by omega)
  have h2 : (BitVec.ofInt 32 (b : Int)).toNat = b := by
    rw [BitVec.ofInt_natCast, BitVec.toNat_ofNat]; exact Nat.mod_eq_of_lt (by omega)
  show IntKind.u32.wrap ((BitVec.ofInt 32 (a : Int) ||| BitVec.ofInt 32 (b : Int)).toNat : Int) = _
  rw [BitVec.toNat_or, h1, h2, IntKind.wrap_u32]
  omega
theorem and32 (a b : Nat) (ha : a < 4294967296) (hb : b < 4294967296) : bits .and .u32 (a : Int) (b : Int) = ((a &&& b : Nat) : Int) := by
  have hx : a &&& b < 2 ^ 32 := Nat.and_lt_two_pow _ (by omega)
  have h1 : (BitVec.ofInt 32 (a : Int)).toNat = a := by
    rw [BitVec.ofInt_natCast, BitVec.toNat_ofNat]; exact Nat.mod_eq_of_lt (by omega)
  have h2 : (BitVec.ofInt 32 (b : Int)).toNat = b := by
    rw [BitVec.ofInt_natCast, BitVec.toNat_ofNat]; exact Nat.mod_eq_of_lt (by omega)
  show IntKind.u32.wrap ((BitVec.ofInt 32 (a : Int) &&& BitVec.ofInt 32 (b : Int)).toNat : Int) = _
  rw [BitVec.toNat_and, h1, h2, IntKind.wrap_u32]
  omega
theorem pow_lt {q : Nat} (hq : q < 16) : 2 ^ q < 4294967296 := Nat.lt_of_lt_of_le (Nat.pow_lt_pow_right (by omega) hq) (by decide)
/-- a bit more -/
theorem or_bit {m q : Nat} (hm : m < 4294967296) (hq : q < 16) : bits .or .u32 (m : Int) ((2 : Int) ^ q % 4294967296) = ((m ||| 2 ^ q : Nat) : Int) := by
  have hp := pow_lt hq
  have e : (2 : Int) ^ q % 4294967296 = ((2 ^ q : Nat) : Int) := by
    rw [Int.natCast_pow]
    have : ((2 ^ q : Nat) : Int) < 4294967296 := by omega
    rw [Int.natCast_pow] at this
    exact Int.emod_eq_of_lt (Int.pow_nonneg (by decide)) this
  rw [e]
  exact or32 m (2 ^ q) hm hp
/-- is a bit set -/
theorem and_bit {m i : Nat} (hm : m < 4294967296) : (bits .and .u32 ((m / 2 ^ i : Nat) : Int) 1 == 1) = m.testBit i := by
  have h1 : m / 2 ^ i < 4294967296 := Nat.lt_of_le_of_lt (Nat.div_le_self _ _) hm
  have := and32 (m / 2 ^ i) 1 h1 (by omega)
  rw [show ((1 : Nat) : Int) = 1 from rfl] at this
  rw [this, Nat.and_one_is_mod, Nat.testBit_eq_decide_div_mod_eq]
  rw [Bool.eq_iff_iff, beq_iff_eq, decide_eq_true_iff]
  omega

/-- which places have been asked for: bit i of a word -/
def AskM (bs : List Bd) (ss : List ByteArray) (m : Nat) : Prop := m < 4294967296 ∧ ∀ i (h : i < bs.length), m.testBit i = hasB ss bs[i].name

theorem hasB_snoc (ss : List ByteArray) (s t : ByteArray) : hasB (ss ++ [s]) t = (hasB ss t || (s.toList == t.toList)) := by simp [hasB]
theorem AskM.put {bs : List Bd} {ss : List ByteArray} {m q : Nat} {s : ByteArray} (h : AskM bs ss m) (hr : RiseB bs) (hq : q < bs.length) (h16 : bs.length ≤ 16) (hn : bs[q].name = s) : AskM bs (ss ++ [s]) (m ||| 2 ^ q) := by
  refine ⟨by have := Nat.or_lt_two_pow (x := m) (y := 2 ^ q) (n := 32) (by have := h.1; omega) (by have := pow_lt (show q < 16 by omega); omega); omega, fun i hi => ?_⟩
  rw [Nat.testBit_or, h.2 i hi, hasB_snoc, Nat.testBit_two_pow]
  congr 1
  rw [Bool.eq_iff_iff, decide_eq_true_iff, beq_iff_eq]
  constructor
  · intro e; subst e; rw [hn]
  · intro e
    rw [Lib.toList_data, Lib.toList_data] at e
    exact (RiseB.inj hr hi hq (by rw [hn]; exact (name_ext e).symm)).symm
theorem AskM.skip {bs : List Bd} {ss : List ByteArray} {m : Nat} {s : ByteArray} (h : AskM bs ss m) (hn : ∀ i (h : i < bs.length), bs[i].name ≠ s) : AskM bs (ss ++ [s]) m := by
  refine ⟨h.1, fun i hi => ?_⟩
  rw [h.2 i hi, hasB_snoc]
  have : (s.toList == bs[i].name.toList) = false := by
    rw [Bool.eq_false_iff]
    intro e
    rw [beq_iff_eq, Lib.toList_data, Lib.toList_data] at e
    exact hn i hi (name_ext e).symm
  rw [this, Bool.or_false]

set_option maxRecDepth 100000 in
set_option maxHeartbeats 2000000 in
theorem Only_yes (bs : List Bd) (ss : List ByteArray) (A S : Option Addr) (c d : Nat) (w : World) (hb0 : bindsB bs = true) (hl : bs.length ≤ 16) (hr : RiseB bs) (hsh : Short bs) (h : BdsAt w bs A) (hm : ss.length * 16 ≤ 140737488351232) (hs : StrsAt w ss S) :
    Calls Try.prog 55 #[.slice A bs.length c, .slice S ss.length d] w fun e w' => ∃ A' c', e = .returned (.tuple #[.slice A' (onlyB bs ss).length c', .int .i64 0]) ∧ (onlyB bs ss).length ≤ c' ∧ BdsAt w' (onlyB bs ss) A' ∧ Ext w w' := by
  obtain ⟨i0, hi0, hz0, hz1, hz2⟩ := info_parts infoBd
  go_enter Try.func55, Try.ntmps55
  go_wp2_with fail
  refine (bcheck_yes hb0 A c _ (by omega) h).mono ?_
  rintro e w1 ⟨rfl, hx1⟩
  go_wp2_with fail
  refine (placesOf_any bs A c w1 (h.ext hx1) hsh (by omega)).mono ?_
  rintro e w2 ⟨pb, rfl, hP, hpb, hx2⟩
  have hx12 := hx1.trans hx2
  go_wp2_with fail
  go_loopw [6, 22] (fun a i wr => ∃ (k m : Nat), k ≤ ss.length ∧ a = .int .u32 m ∧ i = .int .i64 k ∧ Hid (AskM bs (ss.take k) m) ∧ Ext w2 wr) (fun _ i _ => ss.length - (intOf i).toNat)
  case atStart => exact ⟨0, 0, Nat.zero_le _, rfl, rfl, Lib.hid ⟨by omega, fun i hi => by simp [hasB]⟩, Ext.refl _⟩
  case round =>
    obtain ⟨k, m, hk, rfl, rfl, HA, hxr⟩ := hrel
    by_cases hlt : k < ss.length
    · obtain ⟨b, o, rfl, cs, hsz⟩ := ((hs.ext hx12).ext hxr) k hlt
      have k0 : (0 : Int) ≤ (k : Int) := Int.natCast_nonneg _
      have k1 : (k : Int) < (ss.length : Int) := by omega
      have HTK : ss.take (k + 1) = ss.take k ++ [ss[k]] := List.take_succ_eq_append_getElem hlt
      cases hp : plc bs bs.length ss[k] with
      | none =>
        have hF := find_any bs pb ss[k] wr (hP.ext hxr) hsh hsz
        have e1 : plI bs ss[k] = 0 := by unfold plI; rw [hp]; rfl
        have e2 : plB bs ss[k] = false := by unfold plB; rw [hp]; rfl
        rw [e1, e2] at hF
        have HF := Lib.hid hF
        have HA2 : Hid (AskM bs (ss.take (k + 1)) m) := Lib.hid (by rw [HTK]; exact HA.out.skip (fun i hi => by have := plc_none hp i hi; simpa [List.getElem?_eq_getElem hi] using this))
        clear hp hF e1 e2 HTK HA
        go_wp2_with fail
        refine HF.out.mono ?_
        rintro e w3 ⟨rfl, hx3⟩
        go_wp2_with fail
        go_roundw
        case rel => exact ⟨k + 1, m, by omega, rfl, by go_num, HA2, hxr.trans hx3⟩
        case measure => simp [intOf]; omega
      | some q =>
        obtain ⟨hq1, hq2⟩ := plc_some hp
        have hF := find_any bs pb ss[k] wr (hP.ext hxr) hsh hsz
        have e1 : plI bs ss[k] = (q : Int) := by unfold plI; rw [hp]; rfl
        have e2 : plB bs ss[k] = true := by unfold plB; rw [hp]; rfl
        rw [e1, e2] at hF
        have HF := Lib.hid hF
        have HA2 : Hid (AskM bs (ss.take (k + 1)) (m ||| 2 ^ q)) := Lib.hid (by rw [HTK]; exact HA.out.put hr hq1 hl (by simpa [List.getElem?_eq_getElem hq1] using hq2))
        have HB := or_bit HA.out.1 (show q < 16 by omega)
        clear hp hF e1 e2 HTK HA
        go_wp2_with fail
        refine HF.out.mono ?_
        rintro e w3 ⟨rfl, hx3⟩
        go_wp2_with fail
        go_roundw
        case rel => exact ⟨k + 1, m ||| 2 ^ q, by omega, by first | rfl | rw [HB], by go_num, HA2, hxr.trans hx3⟩
        case measure => simp [intOf]; omega
    · have hkk : k = ss.length := by omega
      have HA2 : Hid (AskM bs ss m) := Lib.hid (by have := HA.out; rwa [List.take_of_length_le (by omega)] at this)
      clear HA
      subst hkk
      have hx := hx12.trans hxr
      go_wp2_with fail
      go_loopw [12, 41] (fun v i wz => ∃ k : Nat, k ≤ bs.length ∧ i = .int .i64 k ∧ Hid (MgS w wz v (onlyB (bs.take k) ss))) (fun _ i _ => bs.length - (intOf i).toNat)
      case atStart => exact ⟨0, Nat.zero_le _, rfl, Lib.hid ⟨[], fun _ _ => False, by simp [onlyB], World.ownsRow_nil _ _ _ _, ⟨fun i hi => absurd hi (by simp), fun i hi => absurd hi (by simp), fun i j hi => absurd hi (by simp), hx⟩, fun z hz => absurd hz (by simp)⟩⟩
      case round =>
        obtain ⟨k, hk, rfl, HM⟩ := hrel
        have hxz := HM.out.ext_
        by_cases hlt : k < bs.length
        · obtain ⟨b, o, C, e, rfl, c0, c1, c2, c3, c4, hT, hn⟩ := (h.ext hxz) k hlt
          have hoL : (onlyB (bs.take k) ss).length ≤ k := by
            unfold onlyB
            exact Nat.le_trans (List.length_filter_le _ _) (by rw [List.length_take]; omega)
          have HTK : Hid (onlyB (bs.take (k + 1)) ss = onlyB (bs.take k) ss ++ (if hasB ss bs[k].name then [bs[k]] else [])) := Lib.hid (by
            unfold onlyB
            rw [List.take_succ_eq_append_getElem hlt, List.filter_append]
            congr 1
            rw [List.filter_cons]
            simp only [List.filter_nil])
          have HBIT : (bits .and .u32 ((m : Int) / 2 ^ k) 1 == 1) = hasB ss bs[k].name := by
            have := and_bit (i := k) HA2.out.1
            rw [HA2.out.2 k hlt] at this
            rw [← this]
            first | done | (rw [Int.natCast_ediv, Int.natCast_pow]; first | done | rfl)
          generalize hxk : bs[k] = x at *
          have i0' : (0 : Int) ≤ (k : Int) := Int.natCast_nonneg _
          have i1' : (k : Int) < (bs.length : Int) := by omega
          clear h
          cases hb : hasB ss x.name with
          | false =>
            rw [hb] at HBIT
            have HS : Hid (∀ wx, Ext wr wx → MgS w wx u12 (onlyB (bs.take (k + 1)) ss)) := Lib.hid (fun wx hxx => by rw [HTK.out, hb]; simpa using HM.out.ext hxx)
            clear hb HTK HM
            go_wp2_with fail
            go_roundw
            case rel => exact ⟨k + 1, by omega, by go_num, Lib.hid (HS.out _ ((Ext.refl _).alloc _))⟩
            case measure => simp [intOf]; omega
          | true =>
            rw [hb] at HBIT
            have HTK2 : Hid (onlyB (bs.take (k + 1)) ss = onlyB (bs.take k) ss ++ [x]) := Lib.hid (by rw [HTK.out, hb]; rfl)
            clear hb HTK
            obtain ⟨wi, hwi⟩ : ∃ wi, wi = wr.alloc (.cells #[.string x.name, .int .i64 x.tm.kind, .string x.tm.name, .int .i64 x.tm.n, .slice C x.tm.args.length e] 65) := ⟨_, rfl⟩
            have hxi : Ext wr wi := by rw [hwi]; exact (Ext.refl wr).alloc _
            obtain ⟨zs, G, hzs, hM⟩ := HM.out.ext hxi
            have hzl : zs.length ≤ k := by have := congrArg List.length hzs; simp at this; omega
            have hown := hM.own
            have HMa := Lib.hid hM
            have HZ := Lib.hid hzs
            have hTi := hT.ext hxi
            have hsi := (hxz.trans hxi).size
            have hax := binds_all hb0 k hlt
            clear hM hzs HM
            go_wp2_with fail
            rw [← hwi]
            refine (copiedBind_any x C e wi (by rw [← hxk]; exact hax) hTi).mono ?_
            rintro e1 w1' ⟨A', c', rfl, hO, hx1'⟩
            have hown1 := ownsRow_ext hown hx1'
            have hsz1 := hx1'.size
            have hn1 : zs.length + 1 ≤ 1000000 := by omega
            go_wp2_with (at_builtin; refine wpList_app _ rfl _ _ 58 rfl w.heap.size 65 i0 _ 5 72 Try.underlying58 hi0 hz0 hz1 hz2 rfl (by decide) _ zs.length (browCells zs) rfl (hown1.alloc _) (some ⟨w1'.heap.size, 0, none⟩) 1 1 (BLain.cells (x, A', c')) rfl (Src.box w1' #[.string x.name, .int .i64 x.tm.kind, .string x.tm.name, .int .i64 x.tm.n, .slice A' x.tm.args.length c'] 65 5 rfl) (BLain.one _) ?c3 ?c4 ?c5 ?_)
            case c3 => simp only [maxLen]; omega
            case c4 => omega
            case c5 => simp; omega
            intro v7 w7 ho7 hg7 hat7
            have HS7 := HMa.out.step hn hO hx1' ho7 hg7 (by simpa using hat7)
            rw [HZ.out, ← HTK2.out] at HS7
            have HS8 := Lib.hid HS7
            clear HS7 ho7 hg7 hat7 hown1 hown
            go_wp2_with fail
            go_roundw
            case rel => exact ⟨k + 1, by omega, by go_num, HS8⟩
            case measure => simp [intOf]; omega
        · have hm := HM.out
          rw [List.take_of_length_le (by omega)] at hm
          obtain ⟨A', c', B, d, G, rfl, hc, hO⟩ := hm.done
          have HB := Lib.hid hO.at_
          clear hO hm HM
          go_wp2_with fail
          go_ret2
          exact ⟨A', c', rfl, hc, HB.out, hxz⟩

/-- what bind.Only tells -/
def OnlyOut (bs : List Bd) (ss : List ByteArray) (w : World) (e : Ending) (w' : World) : Prop :=
  Ext w w' ∧ ((bindsB bs = false ∧ e = .returned (.tuple #[.slice none 0 0, .int .i64 1])) ∨
    (bindsB bs = true ∧ ∃ A c, e = .returned (.tuple #[.slice A (onlyB bs ss).length c, .int .i64 0]) ∧ (onlyB bs ss).length ≤ c ∧ BdsAt w' (onlyB bs ss) A))
theorem Only_any (bs : List Bd) (ss : List ByteArray) (A S : Option Addr) (c d : Nat) (w : World) (hl : bs.length ≤ 1000000) (h : BdsAt w bs A) (hm : ss.length * 16 ≤ 140737488351232) (hs : StrsAt w ss S) :
    Calls Try.prog 55 #[.slice A bs.length c, .slice S ss.length d] w (OnlyOut bs ss w) := by
  by_cases hb : bindsB bs = true
  · exact (Only_yes bs ss A S c d w hb (binds_ok hb).1 (okL_rise (binds_ok hb).2.1) (binds_short hb) h hm hs).mono fun _ _ ⟨A', c', he, hc, hA, hx⟩ => ⟨hx, .inr ⟨hb, A', c', he, hc, hA⟩⟩
  · have hb' : bindsB bs = false := by simpa using hb
    have HB := Lib.hid hb'
    clear hb hb'
    go_enter Try.func55, Try.ntmps55
    go_wp2_with fail
    refine (bcheck_no HB.out A c _ hl h).mono ?_
    rintro e w1 ⟨rfl, hx1⟩
    go_wp2_with fail
    go_ret2
    exact ⟨hx1, .inl ⟨HB.out, rfl⟩⟩
end Go.Proofs.Ytjmfjeeddnmoaaa

/- The page's Join, pure: one bind after the other put in is mergeL. -/
namespace Go.Proofs.Ytjmfjeeddnmoaaa
open Go.RowKit

theorem cmpS_cases (a b : ByteArray) : cmpS a b = -1 ∨ cmpS a b = 0 ∨ cmpS a b = 1 := by have := cmpS_bd a b; omega
theorem ltN_iff (a b : ByteArray) : ltN a b = true ↔ cmpS a b = -1 := by
  rw [ltN_cmp, decide_eq_true_eq]; have := cmpS_cases a b; omega
/-- one bind put in among others -/
def insP : List Bd → Bd → Option (List Bd)
  | [], y => some [y]
  | x :: xs, y => if cmpS x.name y.name = -1 then (insP xs y).map (x :: ·) else if cmpS x.name y.name = 1 then some (y :: x :: xs) else if cmpT x.tm y.tm = 0 then some (x :: xs) else none
/-- these put in among those, one after the other -/
def joinP : List Bd → List Bd → Option (List Bd)
  | xs, [] => some xs
  | xs, y :: ys => (insP xs y).bind fun zs => joinP zs ys
theorem joinP_low {x : Bd} : ∀ (ys xs : List Bd), (∀ y ∈ ys, cmpS x.name y.name = -1) → joinP (x :: xs) ys = (joinP xs ys).map (x :: ·)
  | [], xs, _ => rfl
  | y :: ys, xs, h => by
    rw [joinP, insP, if_pos (h y (by simp)), joinP]
    cases hi : insP xs y with
    | none => rfl
    | some zs => exact joinP_low ys zs fun z hz => h z (by simp [hz])
abbrev RiseL (bs : List Bd) : Prop := bs.Pairwise fun x y => cmpS x.name y.name = -1
theorem riseL_of {bs : List Bd} (h : RiseB bs) : RiseL bs := by
  rw [RiseL, List.pairwise_iff_getElem]
  intro i j hi hj hij
  exact (ltN_iff _ _).1 (h i j hj hij)
theorem RiseL.toB {bs : List Bd} (h : RiseL bs) : RiseB bs := by
  rw [RiseL, List.pairwise_iff_getElem] at h
  intro i j hj hij
  exact (ltN_iff _ _).2 (h i j (by omega) hj hij)
theorem cmp_trans1 {a b c : ByteArray} (h : cmpS a b = -1) (k : cmpS b c = -1) : cmpS a c = -1 := by
  have := @cmpS_trans a b c (by omega) (by omega)
  have := cmpS_cases a c
  omega
theorem cmp_flip1 {a b : ByteArray} (h : cmpS a b = 1) : cmpS b a = -1 := by rw [cmpS_flip, h]
theorem joinP_merge : ∀ (xs ys : List Bd), RiseL ys → joinP xs ys = mergeL xs ys
  | [], [], _ => rfl
  | [], y :: ys, h => by
    rw [joinP, insP, Option.bind_some, joinP_low ys [] (fun z hz => List.rel_of_pairwise_cons h hz), joinP_merge [] ys (List.Pairwise.of_cons h)]
    rfl
  | x :: xs, [], _ => by rw [joinP, mergeL_nil]
  | x :: xs, y :: ys, h => by
    have hy : ∀ z ∈ ys, cmpS y.name z.name = -1 := fun z hz => List.rel_of_pairwise_cons h hz
    rw [mergeL_cons]
    rcases cmpS_cases x.name y.name with hc | hc | hc
    · rw [if_pos hc, joinP_low (y :: ys) xs (fun z hz => by
        rcases List.mem_cons.1 hz with e | e
        · rw [e]; exact hc
        · exact cmp_trans1 hc (hy z e)), joinP_merge xs (y :: ys) h]
    · have he : x.name = y.name := (cmpS_eq _ _).1 hc
      rw [if_neg (by omega), if_neg (by omega), joinP, insP, if_neg (by omega), if_neg (by omega)]
      by_cases ht : cmpT x.tm y.tm = 0
      · rw [if_pos ht, if_pos ht, Option.bind_some, joinP_low ys xs (fun z hz => by rw [he]; exact hy z hz), joinP_merge xs ys (List.Pairwise.of_cons h)]
      · rw [if_neg ht, if_neg ht]; rfl
    · rw [if_neg (by omega), if_pos hc, joinP, insP, if_neg (by omega), if_pos hc, Option.bind_some, joinP_low ys (x :: xs) hy, joinP_merge (x :: xs) ys (List.Pairwise.of_cons h)]
termination_by xs ys => xs.length + ys.length

/-- how many names are lower -/
def lowK : List Bd → ByteArray → Nat
  | [], _ => 0
  | x :: xs, s => if ltN x.name s = true then lowK xs s + 1 else 0
theorem lowK_le : ∀ (xs : List Bd) (s : ByteArray), lowK xs s ≤ xs.length
  | [], _ => Nat.le_refl _
  | x :: xs, s => by
    rw [lowK]; split
    · have := lowK_le xs s; simp; omega
    · exact Nat.zero_le _
theorem lowK_lt : ∀ (xs : List Bd) (s : ByteArray) (k : Nat) (h : k < xs.length), k < lowK xs s → ltN xs[k].name s = true
  | [], _, _, h, _ => by simp at h
  | x :: xs, s, k, h, hk => by
    rw [lowK] at hk
    split at hk
    · rename_i hx
      cases k with
      | zero => exact hx
      | succ k => exact lowK_lt xs s k (by simpa using h) (by omega)
    · omega
theorem lowK_at : ∀ (xs : List Bd) (s : ByteArray) (h : lowK xs s < xs.length), ltN (xs[lowK xs s]'h).name s = false
  | [], _, h => by simp at h
  | x :: xs, s, h => by
    by_cases hx : ltN x.name s = true
    · have e : lowK (x :: xs) s = lowK xs s + 1 := by rw [lowK, if_pos hx]
      have h' : lowK xs s < xs.length := by rw [e] at h; simpa using h
      have := lowK_at xs s h'
      simp only [e, List.getElem_cons_succ]
      exact this
    · have e : lowK (x :: xs) s = 0 := by rw [lowK, if_neg hx]
      simp only [e, List.getElem_cons_zero]
      simpa using hx
/-- a name that stands nowhere: put in behind the lower ones -/
theorem insP_new (y : Bd) : ∀ xs : List Bd, (∀ x ∈ xs, x.name ≠ y.name) → insP xs y = some (xs.take (lowK xs y.name) ++ y :: xs.drop (lowK xs y.name))
  | [], _ => rfl
  | x :: xs, h => by
    rw [insP, lowK]
    rcases cmpS_cases x.name y.name with hc | hc | hc
    · rw [if_pos hc, if_pos ((ltN_iff _ _).2 hc), insP_new y xs fun z hz => h z (by simp [hz])]; rfl
    · exact absurd ((cmpS_eq _ _).1 hc) (h x (by simp))
    · rw [if_neg (by omega), if_pos hc, if_neg (fun e => by have := (ltN_iff _ _).1 e; omega)]; rfl
/-- a name that stands there: the terms must be the same -/
theorem insP_old (y : Bd) : ∀ (xs : List Bd) (i : Nat) (h : i < xs.length), RiseL xs → xs[i].name = y.name → insP xs y = if cmpT xs[i].tm y.tm = 0 then some xs else none
  | [], _, h, _, _ => by simp at h
  | x :: xs, 0, _, _, he => by
    have hc : cmpS x.name y.name = 0 := (cmpS_eq _ _).2 he
    rw [insP, if_neg (by omega), if_neg (by omega)]; rfl
  | x :: xs, i + 1, h, hr, he => by
    have hi : i < xs.length := by simpa using h
    have he' : xs[i].name = y.name := he
    have hc : cmpS x.name y.name = -1 := by rw [← he']; exact List.rel_of_pairwise_cons hr (List.getElem_mem hi)
    rw [insP, if_pos hc, insP_old y xs i hi (List.Pairwise.of_cons hr) he']
    show Option.map _ (if cmpT xs[i].tm y.tm = 0 then some xs else none) = if cmpT xs[i].tm y.tm = 0 then _ else _
    split <;> rfl
theorem insP_mem {y : Bd} : ∀ {xs zs : List Bd}, insP xs y = some zs → ∀ z ∈ zs, z = y ∨ z ∈ xs
  | [], zs, h, z, hz => by
    rw [insP] at h; obtain rfl := Option.some.inj h
    exact .inl (List.mem_singleton.1 hz)
  | x :: xs, zs, h, z, hz => by
    rw [insP] at h
    split at h
    · cases hi : insP xs y with
      | none => rw [hi] at h; cases h
      | some us =>
        rw [hi] at h
        obtain rfl := Option.some.inj h
        rcases List.mem_cons.1 hz with e | e
        · exact .inr (by simp [e])
        · rcases insP_mem hi z e with e | e
          · exact .inl e
          · exact .inr (by simp [e])
    · split at h
      · obtain rfl := Option.some.inj h
        rcases List.mem_cons.1 hz with e | e
        · exact .inl e
        · exact .inr e
      · split at h
        · obtain rfl := Option.some.inj h
          exact .inr hz
        · cases h
theorem insP_rise {y : Bd} : ∀ {xs zs : List Bd}, RiseL xs → insP xs y = some zs → RiseL zs
  | [], zs, _, h => by
    rw [insP] at h; obtain rfl := Option.some.inj h
    exact List.pairwise_singleton _ _
  | x :: xs, zs, hr, h => by
    rw [insP] at h
    split at h
    · rename_i hc
      cases hi : insP xs y with
      | none => rw [hi] at h; cases h
      | some us =>
        rw [hi] at h
        obtain rfl := Option.some.inj h
        refine List.pairwise_cons.2 ⟨fun z hz => ?_, insP_rise (List.Pairwise.of_cons hr) hi⟩
        rcases insP_mem hi z hz with e | e
        · rw [e]; exact hc
        · exact List.rel_of_pairwise_cons hr e
    · split at h
      · rename_i hc
        obtain rfl := Option.some.inj h
        refine List.pairwise_cons.2 ⟨fun z hz => ?_, hr⟩
        rcases List.mem_cons.1 hz with e | e
        · rw [e]; exact cmp_flip1 hc
        · exact cmp_trans1 (cmp_flip1 hc) (List.rel_of_pairwise_cons hr e)
      · split at h
        · obtain rfl := Option.some.inj h
          exact hr
        · cases h
theorem insP_len {y : Bd} : ∀ {xs zs : List Bd}, insP xs y = some zs → zs.length ≤ xs.length + 1
  | [], zs, h => by rw [insP] at h; obtain rfl := Option.some.inj h; simp
  | x :: xs, zs, h => by
    rw [insP] at h
    split at h
    · cases hi : insP xs y with
      | none => rw [hi] at h; cases h
      | some us =>
        rw [hi] at h
        obtain rfl := Option.some.inj h
        have := insP_len hi
        simpa using this
    · split at h
      · obtain rfl := Option.some.inj h; simp
      · split at h
        · obtain rfl := Option.some.inj h; simp
        · cases h
end Go.Proofs.Ytjmfjeeddnmoaaa

/- almagestref1.At, Fixed: where a name stands; whether all terms are ground. -/
namespace Go.Proofs.Ytjmfjeeddnmoaaa
open Go.RowKit

def atI (s : ByteArray) : List Bd → Nat → Int
  | [], _ => -1
  | x :: r, k => if (x.name.toList == s.toList) = true then (k : Int) else atI s r (k + 1)
theorem ret_i {a b : Int} (h : a = b) : Ending.returned (Value.int .i64 a) = Ending.returned (Value.int .i64 b) := by rw [h]
def atB (bs : List Bd) (s : ByteArray) : Int := atI s bs 0

set_option maxRecDepth 100000 in
set_option maxHeartbeats 1000000 in
theorem At_any (bs : List Bd) (s : ByteArray) (A : Option Addr) (c : Nat) (w : World) (hl : bs.length ≤ 1000000) (h : BdsAt w bs A) :
    Calls Try.prog 43 #[.slice A bs.length c, .string s] w fun e w' => e = .returned (.int .i64 (atB bs s)) ∧ Ext w w' := by
  go_enter Try.func43, Try.ntmps43
  go_wp2_with fail
  go_loopw [5] (fun i wr => ∃ k : Nat, k ≤ bs.length ∧ i = .int .i64 k ∧ Hid (atI s (bs.drop k) k = atB bs s) ∧ Ext w wr) (fun i _ => bs.length - (intOf i).toNat)
  case atStart => exact ⟨0, Nat.zero_le _, rfl, Lib.hid rfl, Ext.refl _⟩
  case round =>
    obtain ⟨k, hk, rfl, HE, hx⟩ := hrel
    obtain ⟨wa, rfl⟩ : ∃ wa : World, wa = wr := ⟨_, rfl⟩
    by_cases hlt : k < bs.length
    · obtain ⟨b, o, C, e, rfl, c0, c1, c2, c3, c4, hT, _⟩ := (h.ext hx) k hlt
      have hE := HE.out
      rw [List.drop_eq_getElem_cons hlt, atI] at hE
      clear HE h
      have i0 : (0 : Int) ≤ (k : Int) := Int.natCast_nonneg _
      have i1 : (k : Int) < (bs.length : Int) := by omega
      by_cases hn : (bs[k].name.toList == s.toList) = true
      · rw [if_pos hn] at hE
        have HE := Lib.hid hE
        clear hE
        go_wp2_with fail
        go_ret
        exact ⟨ret_i HE.out, hx⟩
      · rw [if_neg hn] at hE
        have HE := Lib.hid hE
        have hn' := not_true hn
        clear hE hn
        go_wp2_with fail
        go_roundw
        case rel => exact ⟨k + 1, by omega, by go_num, HE, hx⟩
        case measure => simp [intOf]; omega
    · have hE := HE.out
      rw [List.drop_eq_nil_of_le (by omega), atI] at hE
      have HE := Lib.hid hE
      clear hE
      go_wp2_with fail
      go_ret
      exact ⟨ret_i HE.out, hx⟩

set_option maxRecDepth 100000 in
set_option maxHeartbeats 1000000 in
theorem Fixed_any (bs : List Bd) (A : Option Addr) (c : Nat) (w : World) (hl : bs.length ≤ 1000000) (hm : ∀ i (hi : i < bs.length), mayB bs[i].tm = true) (h : BdsAt w bs A) :
    Calls Try.prog 53 #[.slice A bs.length c] w fun e w' => e = .returned (.bool (grL bs)) ∧ Ext w w' := by
  have HM := Lib.hid hm
  clear hm
  go_enter Try.func53, Try.ntmps53
  go_wp2_with fail
  go_loopw [3] (fun i wr => ∃ k : Nat, k ≤ bs.length ∧ i = .int .i64 k ∧ Hid (grL (bs.drop k) = grL bs) ∧ Ext w wr) (fun i _ => bs.length - (intOf i).toNat)
  case atStart => exact ⟨0, Nat.zero_le _, rfl, Lib.hid rfl, Ext.refl _⟩
  case round =>
    obtain ⟨k, hk, rfl, HE, hx⟩ := hrel
    obtain ⟨wa, rfl⟩ : ∃ wa : World, wa = wr := ⟨_, rfl⟩
    by_cases hlt : k < bs.length
    · obtain ⟨b, o, C, e, rfl, c0, c1, c2, c3, c4, hT, _⟩ := (h.ext hx) k hlt
      have hE := HE.out
      rw [List.drop_eq_getElem_cons hlt, grL, List.all_cons] at hE
      have hmk := HM.out k hlt
      clear HE h
      have i0 : (0 : Int) ≤ (k : Int) := Int.natCast_nonneg _
      have i1 : (k : Int) < (bs.length : Int) := by omega
      by_cases hn : groundT bs[k].tm = true
      · rw [hn, Bool.true_and] at hE
        have HE := Lib.hid hE
        have HN := Lib.hid hn
        clear hE hn
        go_wp2_with (go_at_call 22; refine (rGround_any _ _ _ _ hT hmk).mono ?_; rintro e1 w1 ⟨rfl, hx1⟩; rw [HN.out])
        go_roundw
        case rel => exact ⟨k + 1, by omega, by go_num, HE, hx.trans hx1⟩
        case measure => simp [intOf]; omega
      · have hn' := not_true hn
        rw [hn', Bool.false_and] at hE
        have HE := Lib.hid hE
        have HN := Lib.hid hn'
        clear hE hn hn'
        go_wp2_with (go_at_call 22; refine (rGround_any _ _ _ _ hT hmk).mono ?_; rintro e1 w1 ⟨rfl, hx1⟩; rw [HN.out])
        go_ret
        exact ⟨ret_bool HE.out, hx.trans hx1⟩
    · have hE := HE.out
      rw [List.drop_eq_nil_of_le (by omega)] at hE
      have HE := Lib.hid (show true = grL bs from hE)
      clear hE
      go_wp2_with fail
      go_ret
      exact ⟨ret_bool HE.out, hx⟩
end Go.Proofs.Ytjmfjeeddnmoaaa

/- The page's Binds tells what examine tells (pure). -/
namespace Go.Proofs.Ytjmfjeeddnmoaaa
open Go.RowKit

theorem varB_word (s : ByteArray) : varB s = wordB s 65 90 := by
  unfold varB
  rw [may_ref]
  by_cases h : wordB s 65 90 = true
  · rw [h]; simp [sizeR, varTm, plainB, h]
  · have h' := not_true h
    rw [h']; simp [sizeR, varTm, plainB, h']
theorem atI_nn (s : ByteArray) : ∀ (bs : List Bd) (k : Nat), decide (0 ≤ atI s bs k) = bs.any (fun x => x.name.toList == s.toList)
  | [], k => by rw [atI]; rfl
  | x :: r, k => by
    rw [atI, List.any_cons]
    by_cases h : (x.name.toList == s.toList) = true
    · rw [if_pos h, h, Bool.true_or]; simp
    · rw [if_neg h, not_true h, Bool.false_or, atI_nn s r (k + 1)]
theorem plB_at (bs : List Bd) (s : ByteArray) : decide (0 ≤ atB bs s) = plB bs s := by
  unfold atB
  rw [atI_nn, Bool.eq_iff_iff, plB_iff, List.any_eq_true]
  exact ⟨fun ⟨x, h, e⟩ => ⟨x, h, beq_name.1 e⟩, fun ⟨x, h, e⟩ => ⟨x, h, beq_name.2 e⟩⟩
theorem ment_occ (bs : List Bd) (hh : Nat) : ∀ t : Tm, t.high ≤ hh → allP t → mentT bs t = (occ t).any (plB bs) := by
  have step : ∀ hh : Nat, (∀ t : Tm, t.high ≤ hh → allP t → mentT bs t = (occ t).any (plB bs)) → ∀ ts : List Tm, highs ts ≤ hh → allPs ts → mentL bs ts = (occL ts).any (plB bs) := by
    intro hh h ts
    induction ts with
    | nil => intro _ _; rfl
    | cons t ts ih =>
      intro hn hp
      simp only [highs] at hn
      rw [mentL, occL, List.any_append, h t (by omega) hp.1, ih (by omega) hp.2]
  induction hh with
  | zero => intro t h; have := high_pos t; omega
  | succ hh ih =>
    intro t ht hp
    rw [mentT_eq, occ_eq]
    obtain ⟨k, s, n, l⟩ := t
    obtain ⟨hp1, hp2⟩ := hp
    simp only [Tm.high] at ht
    by_cases hk : k = 1
    · obtain ⟨g, e⟩ := good_of_plain hp1 hk
      simp only at g e
      subst e
      simp [hk, occL]
    · have hk' : ¬ (k == 1) = true := by simpa using hk
      simp only [hk, if_false, if_neg hk', List.nil_append]
      exact step hh ih l (by omega) hp2
theorem ment_vars (bs : List Bd) {t : Tm} (h : mayB t = true) : mentT bs t = (varsT t).any (plB bs) := by
  obtain ⟨_, _, h3⟩ := vars_of t.high t (Nat.le_refl _) (may_all h)
  rw [ment_occ bs t.high t (Nat.le_refl _) (may_all h), Bool.eq_iff_iff, List.any_eq_true, List.any_eq_true]
  exact ⟨fun ⟨x, hx, e⟩ => ⟨x, (h3 x).2 hx, e⟩, fun ⟨x, hx, e⟩ => ⟨x, (h3 x).1 hx, e⟩⟩
/-- has any term a variable of those? -/
def crossV (bs : List Bd) : List Bd → Bool
  | [] => false
  | x :: xs => (varsT x.tm).any (plB bs) || crossV bs xs
theorem cross_vars (bs : List Bd) : ∀ xs : List Bd, (∀ x ∈ xs, mayB x.tm = true) → crossL bs xs = crossV bs xs
  | [], _ => rfl
  | x :: xs, h => by rw [crossL, crossV, ment_vars bs (h x (by simp)), cross_vars bs xs (fun y hy => h y (by simp [hy]))]
theorem okL_mem {bs : List Bd} (h : okL none bs = true) : ∀ x ∈ bs, mayB x.tm = true := fun x hx => by
  obtain ⟨i, hi, rfl⟩ := List.getElem_of_mem hx
  exact (okL_may none bs h i hi).1
theorem bindsB_page {bs : List Bd} (h16 : bs.length ≤ 16) (h : okL none bs = true) : bindsB bs = !crossV bs bs := by
  have e := cross_vars bs bs (okL_mem h)
  unfold bindsB
  rw [h, e]
  by_cases hg : grL bs = true
  · have : crossL bs bs = false := crossL_of fun x hx => ment_ground bs _ (by unfold grL at hg; rw [List.all_eq_true] at hg; exact hg x hx)
    rw [hg, ← e, this]; simp [h16]
  · rw [not_true hg]; simp [h16]
end Go.Proofs.Ytjmfjeeddnmoaaa

/- almagestref1.Binds: the walk. -/
namespace Go.Proofs.Ytjmfjeeddnmoaaa
open Go.RowKit

theorem rvar_is {s : ByteArray} {v : Bool} {w : World} (hs : s.size ≤ 140737488351232) (hv : varB s = v) : Calls Try.prog 84 #[.string s] w fun e w' => e = .returned (.bool v) ∧ Ext w w' :=
  (Var_any s w (by unfold maxLen; omega)).mono fun _ _ ⟨he, hx⟩ => ⟨by rw [he, ← varB_word, hv], hx ▸ Ext.refl _⟩
theorem rterm_is {t : Tm} {A : Option Addr} {c : Nat} {v : Bool} {w : World} (h : TmAt w t A c) (hh : t.high ≤ 1000000) (hv : mayB t = v) : Calls Try.prog 19 #[t.val A c] w fun e w' => e = .returned (.bool v) ∧ Ext w w' :=
  (rTerm_any t A c w h hh).mono fun _ _ ⟨he, hx⟩ => ⟨by rw [he, hv], hx⟩
theorem okF (bs : List Bd) (h : okL none bs = false) : false = bindsB bs := (bindsB_no h).symm

set_option maxRecDepth 100000 in
set_option maxHeartbeats 4000000 in
theorem rBinds_any (bs : List Bd) (A : Option Addr) (c : Nat) (w : World) (ll : bs.length ≤ 1000000) (hh : ∀ i (h : i < bs.length), bs[i].tm.high ≤ 1000000) (h : BdsAt w bs A) :
    Calls Try.prog 39 #[.slice A bs.length c] w fun e w' => e = .returned (.bool (bindsB bs)) ∧ Ext w w' := by
  have HH := Lib.hid hh
  clear hh
  by_cases h16 : bs.length ≤ 16
  · have H16 : decide ((16 : Int) < (bs.length : Int)) = false := decide_eq_false (by omega)
    go_enter Try.func39, Try.ntmps39
    go_wp2_with fail
    go_loopw [3] (fun i wr => ∃ k : Nat, k ≤ bs.length ∧ i = .int .i64 k ∧ Hid (okL (ahead bs k) (bs.drop k) = okL none bs) ∧ Ext w wr) (fun i _ => bs.length - (intOf i).toNat)
    case atStart => exact ⟨0, Nat.zero_le _, rfl, Lib.hid rfl, Ext.refl _⟩
    case round =>
      obtain ⟨k, hk, rfl, HO, hx⟩ := hrel
      obtain ⟨wa, rfl⟩ : ∃ wa : World, wa = wr := ⟨_, rfl⟩
      by_cases hlt : k < bs.length
      · have HO2 : Hid (((mayB bs[k].tm && varB bs[k].name && upB (ahead bs k) bs[k].name) && okL (ahead bs (k + 1)) (bs.drop (k + 1))) = okL none bs) := Lib.hid ((okL_step hlt).symm.trans HO.out)
        clear HO
        obtain ⟨b, o, B, e, rfl, c0, c1, c2, c3, c4, hT, hn⟩ := (h.ext hx) k hlt
        have hhk := HH.out k hlt
        have k0 : (0 : Int) ≤ (k : Int) := Int.natCast_nonneg _
        have k1 : (k : Int) < (bs.length : Int) := by omega
        go_wp2_with fail
        have N0 : ∀ p : ExtOf wa, p.to.cell? ⟨b, o + k * 5, none⟩ = some (.string bs[k].name) := ext_cell c0
        have N2 : ∀ p : ExtOf wa, p.to.cell? ⟨b, o + k * 5 + 1, none⟩ = some (.int .i64 bs[k].tm.kind) := ext_cell c1
        have N3 : ∀ p : ExtOf wa, p.to.cell? ⟨b, o + k * 5 + 2, none⟩ = some (.string bs[k].tm.name) := ext_cell c2
        have N4 : ∀ p : ExtOf wa, p.to.cell? ⟨b, o + k * 5 + 3, none⟩ = some (.int .i64 bs[k].tm.n) := ext_cell c3
        have N5 : ∀ p : ExtOf wa, p.to.cell? ⟨b, o + k * 5 + 4, none⟩ = some (.slice B bs[k].tm.args.length e) := ext_cell c4
        by_cases hv : varB bs[k].name = true
        · have V := Lib.hid hv
          clear hv
          cases k with
          | zero =>
            simp only [Nat.zero_mul, Nat.add_zero] at N0 N2 N3 N4 N5
            by_cases hm : mayB bs[0].tm = true
            · have R : Hid (∀ p : ExtOf wa, Calls Try.prog 19 #[bs[0].tm.val B e] p.to fun e w' => e = .returned (.bool true) ∧ Ext p.to w') := Lib.hid fun p => rterm_is (hT.ext p.is) hhk hm
              have HO3 : Hid (okL (ahead bs 1) (bs.drop 1) = okL none bs) := Lib.hid (by have := HO2.out; rw [hm, V.out] at this; exact this)
              clear hm hT
              refine wp_region_ext (by kernel_rfl) (by kernel_rfl) ?_
              repeat (go_big_quiet_step (first | (go_at_call 84; exact of_ext (rvar_is hn V.out)) | (go_at_call 19; exact of_ext (R.out _))))
              refine wpQuiet_nil ?_
              refine ext_all ?_
              intro w2 hx2
              clear N0 N2 N3 N4 N5 c0 c1 c2 c3 c4 HO2
              go_wp2_with fail
              go_roundw
              case rel => exact ⟨1, by omega, by go_num, HO3, hx.trans hx2⟩
              case measure => simp [intOf]; omega
            · have hm' := not_true hm
              have R : Hid (∀ p : ExtOf wa, Calls Try.prog 19 #[bs[0].tm.val B e] p.to fun e w' => e = .returned (.bool false) ∧ Ext p.to w') := Lib.hid fun p => rterm_is (hT.ext p.is) hhk hm'
              have HNo : Hid (okL none bs = false) := Lib.hid (by rw [← HO2.out, hm']; simp)
              clear hm hm' hT
              refine wp_region_ext (by kernel_rfl) (by kernel_rfl) ?_
              repeat (go_big_quiet_step (first | (go_at_call 84; exact of_ext (rvar_is hn V.out)) | (go_at_call 19; exact of_ext (R.out _))))
              refine wpQuiet_nil ?_
              refine ext_all ?_
              intro w2 hx2
              clear N0 N2 N3 N4 N5 c0 c1 c2 c3 c4 HO2
              go_wp2_with fail
              go_ret
              exact ⟨ret_bool (okF bs HNo.out), hx.trans hx2⟩
          | succ j =>
            have hj : j < bs.length := by omega
            obtain ⟨b', o', B', e', eA, q0, _, _, _, _, _, _⟩ := h j hj
            obtain ⟨rfl, rfl⟩ : b = b' ∧ o = o' := by injection eA with e; injection e with e1 e2; exact ⟨e1, e2⟩
            have N1 : ∀ p : ExtOf wa, p.to.cell? ⟨b, o + j * 5, none⟩ = some (.string bs[j].name) := ext_cell (hx.cell q0)
            clear eA q0
            have j0 : (0 : Int) ≤ (j : Int) := Int.natCast_nonneg _
            have j1 : (j : Int) < (bs.length : Int) := by omega
            have hup := ahead_succ hj
            by_cases hu : Op.bytesLess bs[j].name.toList bs[j + 1].name.toList = true
            · have U := Lib.hid hu
              by_cases hm : mayB bs[j + 1].tm = true
              · have R : Hid (∀ p : ExtOf wa, Calls Try.prog 19 #[bs[j + 1].tm.val B e] p.to fun e w' => e = .returned (.bool true) ∧ Ext p.to w') := Lib.hid fun p => rterm_is (hT.ext p.is) hhk hm
                have HO3 : Hid (okL (ahead bs (j + 1 + 1)) (bs.drop (j + 1 + 1)) = okL none bs) := Lib.hid (by have := HO2.out; rw [hm, V.out, hup, upB, hu] at this; exact this)
                clear hm hT
                refine wp_region_ext (by kernel_rfl) (by kernel_rfl) ?_
                repeat (go_big_quiet_step (first | (go_at_call 84; exact of_ext (rvar_is hn V.out)) | (go_at_call 19; exact of_ext (R.out _))))
                refine wpQuiet_nil ?_
                refine ext_all ?_
                intro w2 hx2
                clear N0 N2 N3 N4 N5 c0 c1 c2 c3 c4 N1 HO2 hu hup
                go_wp2_with fail
                go_roundw
                case rel => exact ⟨j + 1 + 1, by omega, by go_num, HO3, hx.trans hx2⟩
                case measure => simp [intOf]; omega
              · have hm' := not_true hm
                have R : Hid (∀ p : ExtOf wa, Calls Try.prog 19 #[bs[j + 1].tm.val B e] p.to fun e w' => e = .returned (.bool false) ∧ Ext p.to w') := Lib.hid fun p => rterm_is (hT.ext p.is) hhk hm'
                have HNo : Hid (okL none bs = false) := Lib.hid (by rw [← HO2.out, hm']; simp)
                clear hm hm' hT
                refine wp_region_ext (by kernel_rfl) (by kernel_rfl) ?_
                repeat (go_big_quiet_step (first | (go_at_call 84; exact of_ext (rvar_is hn V.out)) | (go_at_call 19; exact of_ext (R.out _))))
                refine wpQuiet_nil ?_
                refine ext_all ?_
                intro w2 hx2
                clear N0 N2 N3 N4 N5 c0 c1 c2 c3 c4 N1 HO2 hu hup
                go_wp2_with fail
                go_ret
                exact ⟨ret_bool (okF bs HNo.out), hx.trans hx2⟩
            · have hu' := not_true hu
              have HNo : Hid (okL none bs = false) := Lib.hid (by rw [← HO2.out, hup, upB, hu']; simp)
              clear hu hT
              refine wp_region_ext (by kernel_rfl) (by kernel_rfl) ?_
              repeat (go_big_quiet_step ((go_at_call 84; exact of_ext (rvar_is hn V.out))))
              refine wpQuiet_nil ?_
              refine ext_all ?_
              intro w2 hx2
              clear N0 N2 N3 N4 N5 c0 c1 c2 c3 c4 N1 HO2 hu' hup
              go_wp2_with fail
              go_ret
              exact ⟨ret_bool (okF bs HNo.out), hx.trans hx2⟩
        · have hv' := not_true hv
          have V := Lib.hid hv'
          have HNo : Hid (okL none bs = false) := Lib.hid (by rw [← HO2.out, hv']; simp)
          clear hv hv' hT
          refine wp_region_ext (by kernel_rfl) (by kernel_rfl) ?_
          repeat (go_big_quiet_step ((go_at_call 84; exact of_ext (rvar_is hn V.out))))
          refine wpQuiet_nil ?_
          refine ext_all ?_
          intro w2 hx2
          clear N0 N2 N3 N4 N5 c0 c1 c2 c3 c4 HO2
          go_wp2_with fail
          go_ret
          exact ⟨ret_bool (okF bs HNo.out), hx.trans hx2⟩
      · have ho : Hid (okL none bs = true) := Lib.hid (by have := HO.out; rw [List.drop_eq_nil_of_le (by omega)] at this; exact this.symm)
        have HB : Hid (bindsB bs = !crossV bs bs) := Lib.hid (bindsB_page h16 ho.out)
        have HM : Hid (∀ i (hi : i < bs.length), mayB bs[i].tm = true) := Lib.hid fun i hi => (okL_may none bs ho.out i hi).1
        clear HO
        have hwa := h.ext hx
        clear h
        go_wp2_with fail
        go_loopw [4] (fun i wr => ∃ m : Nat, m ≤ bs.length ∧ i = .int .i64 m ∧ Hid (crossV bs (bs.drop m) = crossV bs bs) ∧ Ext wa wr) (fun i _ => bs.length - (intOf i).toNat)
        case atStart => exact ⟨0, Nat.zero_le _, rfl, Lib.hid rfl, Ext.refl _⟩
        case round =>
          obtain ⟨m, hmm, rfl, HC, hxa⟩ := hrel
          obtain ⟨wb, rfl⟩ : ∃ wb : World, wb = wr := ⟨_, rfl⟩
          by_cases hml : m < bs.length
          · obtain ⟨b, o, B, e, rfl, c0, c1, c2, c3, c4, hT, hn⟩ := (hwa.ext hxa) m hml
            have hmay := HM.out m hml
            have hhm := HH.out m hml
            have hC := HC.out
            rw [List.drop_eq_getElem_cons hml, crossV] at hC
            have HC2 := Lib.hid hC
            have hoc := may_occ hmay
            have ZV : Hid (∀ s ∈ varsT bs[m].tm, s.size ≤ 140737488351232) := Lib.hid fun s hs => hT.names s ((vars_sub bs[m].tm.high bs[m].tm (Nat.le_refl _)).1 s hs)
            have ZL : (varsT bs[m].tm).length ≤ 1000000 := by have := (vars_sub bs[m].tm.high bs[m].tm (Nat.le_refl _)).2; omega
            clear HC hC hmay
            go_wp2_with fail
            refine (rVars_any bs[m].tm.high bs[m].tm B e _ (Nat.le_refl _) (by omega) hT).mono ?_
            rintro e1 w1 ⟨v1, rfl, hown1, hx1⟩
            obtain ⟨AV, cv, rfl, hSV, hcv, _⟩ := owned_strs2 hown1 ZV.out
            have hxb := hxa.trans hx1
            have hw1 := hwa.ext hxb
            clear hown1 c0 c1 c2 c3 c4 hT
            generalize hvs : varsT bs[m].tm = vs at *
            clear hvs
            go_wp2_with fail
            go_loopw [6] (fun i wr => ∃ q : Nat, q ≤ vs.length ∧ i = .int .i64 q ∧ Hid ((vs.drop q).any (plB bs) = vs.any (plB bs)) ∧ Ext w1 wr) (fun i _ => vs.length - (intOf i).toNat)
            case atStart => exact ⟨0, Nat.zero_le _, rfl, Lib.hid rfl, Ext.refl _⟩
            case round =>
              obtain ⟨q, hq, rfl, HV, hxc⟩ := hrel
              obtain ⟨wc, rfl⟩ : ∃ wc : World, wc = wr := ⟨_, rfl⟩
              by_cases hql : q < vs.length
              · obtain ⟨b3, o3, rfl, d0, hz⟩ := (hSV.ext hxc) q hql
                have hV := HV.out
                rw [List.drop_eq_getElem_cons hql, List.any_cons, ← plB_at] at hV
                have q0 : (0 : Int) ≤ (q : Int) := Int.natCast_nonneg _
                have q1 : (q : Int) < (vs.length : Int) := by omega
                have hwc := hw1.ext hxc
                clear HV
                by_cases hn : decide (0 ≤ atB bs vs[q]) = true
                · rw [hn, Bool.true_or] at hV
                  have HNo : Hid (false = bindsB bs) := Lib.hid (by rw [HB.out, ← HC2.out, ← hV]; rfl)
                  have hge := of_decide_eq_true hn
                  clear hV
                  go_wp2_with (go_at_call 43; refine (At_any bs vs[q] _ c _ ll hwc).mono ?_; rintro e2 w2 ⟨rfl, hx2⟩)
                  go_ret
                  exact ⟨ret_bool HNo.out, ((hx.trans hxb).trans hxc).trans hx2⟩
                · have hn' := not_true hn
                  rw [hn', Bool.false_or] at hV
                  have HV2 := Lib.hid hV
                  clear hV hn
                  go_wp2_with (go_at_call 43; refine (At_any bs vs[q] _ c _ ll hwc).mono ?_; rintro e2 w2 ⟨rfl, hx2⟩)
                  go_roundw
                  case rel => exact ⟨q + 1, by omega, by go_num, HV2, hxc.trans hx2⟩
                  case measure => simp [intOf]; omega
              · have hV := HV.out
                rw [List.drop_eq_nil_of_le (by omega), List.any_nil] at hV
                have HC3 : Hid (crossV bs (bs.drop (m + 1)) = crossV bs bs) := Lib.hid (by rw [← HC2.out, ← hV, Bool.false_or])
                clear hV HV
                go_wp2_with fail
                go_roundw
                case rel => exact ⟨m + 1, by omega, by go_num, HC3, hxb.trans hxc⟩
                case measure => simp [intOf]; omega
          · have hC := HC.out
            rw [List.drop_eq_nil_of_le (by omega), crossV] at hC
            have HY : Hid (true = bindsB bs) := Lib.hid (by rw [HB.out, ← hC]; rfl)
            clear hC HC
            go_wp2_with fail
            go_ret
            exact ⟨ret_bool HY.out, hx.trans hxa⟩
  · have HNo : Hid (false = bindsB bs) := Lib.hid (by unfold bindsB; simp; omega)
    have H16 : decide ((16 : Int) < (bs.length : Int)) = true := decide_eq_true (by omega)
    go_enter Try.func39, Try.ntmps39
    go_wp2_with fail
    go_ret
    exact ⟨ret_bool HNo.out, Ext.refl _⟩
end Go.Proofs.Ytjmfjeeddnmoaaa

/- almagestref1.Settable. -/
namespace Go.Proofs.Ytjmfjeeddnmoaaa
open Go.RowKit

theorem plB_any (bs : List Bd) (s : ByteArray) : plB bs s = bs.any (fun x => x.name.toList == s.toList) := by rw [← plB_at]; unfold atB; rw [atI_nn]
/-- may it be set? (of binds and a term that may be) -/
def settB (bs : List Bd) (s : ByteArray) (t : Tm) : Bool := varB s && !plB bs s && !mentT (⟨s, t⟩ :: bs) t
theorem setB_sett (bs : List Bd) (s : ByteArray) (t : Tm) : setB bs s t = (bindsB bs && mayB t && settB bs s t) := by
  unfold setB settB
  cases bindsB bs <;> cases mayB t <;> cases varB s <;> simp
/-- is it one of them, or the one? -/
def hitB (bs : List Bd) (s : ByteArray) (v : ByteArray) : Bool := (v.toList == s.toList) || plB bs v
theorem sett_vars (bs : List Bd) (s : ByteArray) {t : Tm} (h : mayB t = true) : settB bs s t = (varB s && !plB bs s && !(varsT t).any (hitB bs s)) := by
  unfold settB
  have e : plB (⟨s, t⟩ :: bs) = hitB bs s := by
    funext v
    unfold hitB
    rw [plB_any, plB_any, List.any_cons]
    congr 1
    rw [Bool.eq_iff_iff, beq_name, beq_name]
    exact ⟨fun h => h.symm, fun h => h.symm⟩
  rw [ment_vars _ h, e]

set_option maxRecDepth 100000 in
set_option maxHeartbeats 4000000 in
theorem Settable_any (bs : List Bd) (s : ByteArray) (t : Tm) (A B : Option Addr) (c d : Nat) (w : World) (ll : bs.length ≤ 1000000) (hs : s.size ≤ 140737488351232) (hm : mayB t = true) (h : BdsAt w bs A) (hT : TmAt w t B d) :
    Calls Try.prog 45 #[.slice A bs.length c, .string s, t.val B d] w fun e w' => e = .returned (.bool (settB bs s t)) ∧ Ext w w' := by
  have HS := Lib.hid (sett_vars bs s hm)
  have hoc := may_occ hm
  have ZV : Hid (∀ s ∈ varsT t, s.size ≤ 140737488351232) := Lib.hid fun s hs => hT.names s ((vars_sub t.high t (Nat.le_refl _)).1 s hs)
  have ZL : (varsT t).length ≤ 1000000 := by have := (vars_sub t.high t (Nat.le_refl _)).2; omega
  have hx0 : Ext w (w.alloc (.cells #[.int .i64 t.kind, .string t.name, .int .i64 t.n, .slice B t.args.length d] 28)) := (Ext.refl w).alloc _
  have hb0 := h.ext hx0
  have hT0 := hT.ext hx0
  clear hm h hT
  by_cases hv : varB s = true
  · by_cases hp : decide (0 ≤ atB bs s) = true
    · have HNo : Hid (false = settB bs s t) := Lib.hid (by rw [HS.out, hv, ← plB_at, hp]; rfl)
      have HV := Lib.hid hv
      clear hv
      go_enter Try.func45, Try.ntmps45
      go_wp2_with (first
        | (go_at_call 84; refine (rvar_is hs HV.out).mono ?_; rintro e1 w1 ⟨rfl, hx1⟩)
        | (go_at_call 43; refine (At_any bs s A c _ ll (hb0.ext hx1)).mono ?_; rintro e2 w2 ⟨rfl, hx2⟩))
      go_ret
      exact ⟨ret_bool HNo.out, (hx0.trans hx1).trans hx2⟩
    · have hp' := not_true hp
      have HE : Hid ((!(varsT t).any (hitB bs s)) = settB bs s t) := Lib.hid (by rw [HS.out, hv, ← plB_at, hp']; rfl)
      have HV := Lib.hid hv
      clear hv hp
      go_enter Try.func45, Try.ntmps45
      go_wp2_with (first
        | (go_at_call 84; refine (rvar_is hs HV.out).mono ?_; rintro e1 w1 ⟨rfl, hx1⟩; have t0 : w1.cell? ⟨w.heap.size, 0, none⟩ = some (.int .i64 t.kind) := hx1.cell (by go_simp); have t1 : w1.cell? ⟨w.heap.size, 1, none⟩ = some (.string t.name) := hx1.cell (by go_simp); have t2 : w1.cell? ⟨w.heap.size, 2, none⟩ = some (.int .i64 t.n) := hx1.cell (by go_simp); have t3 : w1.cell? ⟨w.heap.size, 3, none⟩ = some (.slice B t.args.length d) := hx1.cell (by go_simp))
        | (go_at_call 43; refine (At_any bs s A c _ ll (hb0.ext hx1)).mono ?_; rintro e2 w2 ⟨rfl, hx2⟩; have u0 := hx2.cell t0; have u1 := hx2.cell t1; have u2 := hx2.cell t2; have u3 := hx2.cell t3)
        | (go_at_call 24; refine (rVars_any t.high t B d _ (Nat.le_refl _) (by omega) (hT0.ext (hx1.trans hx2))).mono ?_; rintro e3 w3 ⟨v3, rfl, hown3, hx3⟩; obtain ⟨AV, cv, rfl, hSV, hcv, _⟩ := owned_strs2 hown3 ZV.out))
      have hxb := ((hx0.trans hx1).trans hx2).trans hx3
      have hw3 := hb0.ext ((hx1.trans hx2).trans hx3)
      clear hown3 hT0 hb0 t0 t1 t2 t3 u0 u1 u2 u3
      generalize hvs : varsT t = vs at *
      clear hvs
      go_loopw [8] (fun i wr => ∃ q : Nat, q ≤ vs.length ∧ i = .int .i64 q ∧ Hid ((vs.drop q).any (hitB bs s) = vs.any (hitB bs s)) ∧ Ext w3 wr) (fun i _ => vs.length - (intOf i).toNat)
      case atStart => exact ⟨0, Nat.zero_le _, rfl, Lib.hid rfl, Ext.refl _⟩
      case round =>
        obtain ⟨q, hq, rfl, HV3, hxc⟩ := hrel
        obtain ⟨wc, rfl⟩ : ∃ wc : World, wc = wr := ⟨_, rfl⟩
        by_cases hql : q < vs.length
        · obtain ⟨b3, o3, rfl, d0, hz⟩ := (hSV.ext hxc) q hql
          have hV := HV3.out
          rw [List.drop_eq_getElem_cons hql, List.any_cons] at hV
          have q0 : (0 : Int) ≤ (q : Int) := Int.natCast_nonneg _
          have q1 : (q : Int) < (vs.length : Int) := by omega
          have hwc := hw3.ext hxc
          clear HV3
          by_cases he : (vs[q].toList == s.toList) = true
          · have HNo : Hid (false = settB bs s t) := Lib.hid (by rw [← HE.out, ← hV, hitB, he]; simp)
            clear hV
            go_wp2_with fail
            go_ret
            exact ⟨ret_bool HNo.out, hxb.trans hxc⟩
          · have he' := not_true he
            rw [hitB, he', Bool.false_or, ← plB_at] at hV
            clear he
            by_cases hn : decide (0 ≤ atB bs vs[q]) = true
            · have HNo : Hid (false = settB bs s t) := Lib.hid (by rw [← HE.out, ← hV, hn]; simp)
              clear hV
              go_wp2_with (go_at_call 43; refine (At_any bs vs[q] _ c _ ll hwc).mono ?_; rintro e4 w4 ⟨rfl, hx4⟩)
              go_ret
              exact ⟨ret_bool HNo.out, (hxb.trans hxc).trans hx4⟩
            · have hn' := not_true hn
              rw [hn', Bool.false_or] at hV
              have HV2 := Lib.hid hV
              clear hV hn
              go_wp2_with (go_at_call 43; refine (At_any bs vs[q] _ c _ ll hwc).mono ?_; rintro e4 w4 ⟨rfl, hx4⟩)
              go_roundw
              case rel => exact ⟨q + 1, by omega, by go_num, HV2, hxc.trans hx4⟩
              case measure => simp [intOf]; omega
        · have hV := HV3.out
          rw [List.drop_eq_nil_of_le (by omega), List.any_nil] at hV
          have HY : Hid (true = settB bs s t) := Lib.hid (by rw [← HE.out, ← hV]; rfl)
          clear hV HV3
          go_wp2_with fail
          go_ret
          exact ⟨ret_bool HY.out, hxb.trans hxc⟩
  · have hv' := not_true hv
    have HNo : Hid (false = settB bs s t) := Lib.hid (by rw [HS.out, hv']; rfl)
    have HV := Lib.hid hv'
    clear hv hv'
    go_enter Try.func45, Try.ntmps45
    go_wp2_with (go_at_call 84; refine (rvar_is hs HV.out).mono ?_; rintro e1 w1 ⟨rfl, hx1⟩)
    go_ret
    exact ⟨ret_bool HNo.out, hx0.trans hx1⟩
end Go.Proofs.Ytjmfjeeddnmoaaa

/- almagestref1.applied: what its walk keeps. -/
namespace Go.Proofs.Ytjmfjeeddnmoaaa
open Go.RowKit

theorem atI_found (s : ByteArray) : ∀ (bs : List Bd) (k : Nat), 0 ≤ atI s bs k → ∃ (i : Nat) (h : i < bs.length), atI s bs k = ((k + i : Nat) : Int) ∧ bs[i].name = s
  | [], k, h => by rw [atI] at h; omega
  | x :: r, k, h => by
    rw [atI] at h ⊢
    by_cases hn : (x.name.toList == s.toList) = true
    · rw [if_pos hn]
      exact ⟨0, by simp, rfl, beq_name.1 hn⟩
    · rw [if_neg hn] at h ⊢
      obtain ⟨i, hi, e, en⟩ := atI_found s r (k + 1) h
      exact ⟨i + 1, by simpa using hi, by rw [e]; omega, by simpa using en⟩
theorem atB_plc {bs : List Bd} {s : ByteArray} (hr : RiseB bs) (h : 0 ≤ atB bs s) : ∃ (i : Nat) (hi : i < bs.length), atB bs s = (i : Int) ∧ plc bs bs.length s = some i ∧ bs[i].name = s := by
  obtain ⟨i, hi, e, en⟩ := atI_found s bs 0 h
  exact ⟨i, hi, by unfold atB; rw [e, Nat.zero_add], plc_of hr hi en, en⟩
theorem atB_none {bs : List Bd} {s : ByteArray} (h : ¬ 0 ≤ atB bs s) : plc bs bs.length s = none := by
  have e := plB_at bs s
  rw [decide_eq_false h] at e
  unfold plB at e
  cases hp : plc bs bs.length s with
  | none => rfl
  | some i => rw [hp] at e; simp at e

theorem TmOwn.hi {w : World} {lo : Nat} {t : Tm} {A : Option Addr} {c : Nat} {F : Nat → Prop} (h : TmOwn w t A c F) (k : ∀ b, F b → lo ≤ b) : TmHi w lo t A c := by
  induction h with
  | mk t A c F g d G fits cap row sub ih =>
    exact .mk t A c g d fits cap row.row (fun b o e hl => k b (row.own b o e hl).1) fun i hi => ih i hi fun b hb => k b (row.inF i hi b hb)

/-- up to k the row has what f makes of them -/
def RowDoneF (w : World) (f : Tm → Tm) (ts : List Tm) (b o lo : Nat) (k : Nat) : Prop :=
  ∀ i (h : i < ts.length), i < k → ∃ A c, w.cell? ⟨b, o + i * 4, none⟩ = some (.int .i64 (f ts[i]).kind) ∧ w.cell? ⟨b, o + i * 4 + 1, none⟩ = some (.string (f ts[i]).name) ∧
    w.cell? ⟨b, o + i * 4 + 2, none⟩ = some (.int .i64 (f ts[i]).n) ∧ w.cell? ⟨b, o + i * 4 + 3, none⟩ = some (.slice A (f ts[i]).args.length c) ∧ TmHi w lo (f ts[i]) A c
theorem RowDoneF.next {w w1 : World} {f : Tm → Tm} {ts : List Tm} {b o lo k : Nat} (h : RowDoneF w f ts b o lo k) (hk : k < ts.length) (hx : Ext w w1) {A : Option Addr} {c : Nat} (hH : TmHi w1 lo (f ts[k]) A c) (hb : b < lo)
    {u0 u1 u2 u3 : Value} (h0 : w.cell? ⟨b, o + k * 4, none⟩ = some u0) (h1 : w.cell? ⟨b, o + k * 4 + 1, none⟩ = some u1) (h2 : w.cell? ⟨b, o + k * 4 + 2, none⟩ = some u2) (h3 : w.cell? ⟨b, o + k * 4 + 3, none⟩ = some u3) :
    RowDoneF (set4 w1 b (o + k * 4) (.int .i64 (f ts[k]).kind) (.string (f ts[k]).name) (.int .i64 (f ts[k]).n) (.slice A (f ts[k]).args.length c)) f ts b o lo (k + 1) := by
  intro i hi hik
  by_cases hlt : i < k
  · obtain ⟨A', c', g0, g1, g2, g3, g4⟩ := h i hi hlt
    refine ⟨A', c', ?_, ?_, ?_, ?_, ?_⟩
    · rw [set4_other _ _ _ _ _ _ _ _ (by omega)]; exact hx.cell g0
    · rw [set4_other _ _ _ _ _ _ _ _ (by omega)]; exact hx.cell g1
    · rw [set4_other _ _ _ _ _ _ _ _ (by omega)]; exact hx.cell g2
    · rw [set4_other _ _ _ _ _ _ _ _ (by omega)]; exact hx.cell g3
    · exact (g4.ext hx).keep fun x hx _ => set4_block _ _ _ _ _ _ _ _ (by omega)
  · have e : i = k := by omega
    subst e
    obtain ⟨c0, c1, c2, c3⟩ := set4_cells (.int .i64 (f ts[i]).kind) (.string (f ts[i]).name) (.int .i64 (f ts[i]).n) (.slice A (f ts[i]).args.length c) (hx.cell h0) (hx.cell h1) (hx.cell h2) (hx.cell h3)
    exact ⟨A, c, c0, c1, c2, c3, hH.keep fun x hx _ => set4_block _ _ _ _ _ _ _ _ (by omega)⟩
theorem RowDoneF.ext {w w' : World} {f : Tm → Tm} {ts : List Tm} {b o lo k : Nat} (h : RowDoneF w f ts b o lo k) (x : Ext w w') : RowDoneF w' f ts b o lo k := fun i hi hk => by
  obtain ⟨A, c, h0, h1, h2, h3, h4⟩ := h i hi hk
  exact ⟨A, c, x.cell h0, x.cell h1, x.cell h2, x.cell h3, h4.ext x⟩
theorem RowDoneF.done {w : World} {bs : List Bd} {t : Tm} {b o lo lo' k c : Nat} (h : RowDoneF w (repT bs) t.args b o lo k) (hk : t.args.length ≤ k) (fits : (innT bs t).Fits) (hc : t.args.length ≤ c) (hlo : lo' ≤ b) (hlo2 : lo' ≤ lo) : TmHi w lo' (innT bs t) (some ⟨b, o, none⟩) c := by
  haveI : Inhabited (Option Addr × Nat) := ⟨(none, 0)⟩
  obtain ⟨f, hf⟩ := Go.Deep.choose_lt (α := Option Addr × Nat) (n := t.args.length) (p := fun i y => ∀ hi : i < t.args.length, w.cell? ⟨b, o + i * 4, none⟩ = some (.int .i64 (repT bs t.args[i]).kind) ∧ w.cell? ⟨b, o + i * 4 + 1, none⟩ = some (.string (repT bs t.args[i]).name) ∧
      w.cell? ⟨b, o + i * 4 + 2, none⟩ = some (.int .i64 (repT bs t.args[i]).n) ∧ w.cell? ⟨b, o + i * 4 + 3, none⟩ = some (.slice y.1 (repT bs t.args[i]).args.length y.2) ∧ TmHi w lo (repT bs t.args[i]) y.1 y.2) (fun i hi => by
        obtain ⟨A, c, hall⟩ := h i hi (by omega)
        exact ⟨(A, c), fun _ => hall⟩)
  have hl : (innT bs t).args.length = t.args.length := repL_len bs t.args
  have hat : ∀ i (hi : i < (innT bs t).args.length), (innT bs t).args[i] = repT bs (t.args[i]'(by omega)) := fun i hi => repL_at bs t.args i (by omega)
  refine .mk (innT bs t) _ c (fun i => (f i).1) (fun i => (f i).2) fits (by omega) (fun i hi => ?_) (fun b' o' e _ => by injection e with e; injection e with e1 e2; omega) (fun i hi => ?_)
  · obtain ⟨g0, g1, g2, g3, _⟩ := hf i (by omega) (by omega)
    rw [hat i hi]
    exact ⟨b, o, rfl, g0, g1, g2, g3⟩
  · rw [hat i hi]
    exact ((hf i (by omega) (by omega)).2.2.2.2).weak hlo2
/-- what the page answers: the term applied, in memory of the call's own -/
def RAppl (bs : List Bd) (t : Tm) (w : World) (e : Ending) (w' : World) : Prop :=
  ∃ A c, e = .returned ((repT bs t).val A c) ∧ TmHi w' w.heap.size (repT bs t) A c ∧ Ext w w'
end Go.Proofs.Ytjmfjeeddnmoaaa

/- almagestref1.Join: the page's Join is mergeL. -/
namespace Go.Proofs.Ytjmfjeeddnmoaaa
open Go.RowKit

/-- what the page's Join tells -/
def RJoinOut (aa bb : List Bd) (w : World) (e : Ending) (w' : World) : Prop :=
  Ext w w' ∧ ((mergeL aa bb = none ∧ e = .returned (.tuple #[.slice none 0 0, .int .i64 3])) ∨
    ∃ us, mergeL aa bb = some us ∧ ((16 < us.length ∧ e = .returned (.tuple #[.slice none 0 0, .int .i64 2])) ∨
      (us.length ≤ 16 ∧ ∃ A c, e = .returned (.tuple #[.slice A us.length c, .int .i64 0]) ∧ us.length ≤ c ∧ BdsAt w' us A)))

theorem bds_drop {w : World} {bs : List Bd} {A : Option Addr} {cap k : Nat} (h : BdsAt w bs A) (hk : k ≤ bs.length) (hc : bs.length ≤ cap) : BdsAt w (bs.drop k) (cutA A cap k 5) := by
  intro i hi
  rw [List.length_drop] at hi
  obtain ⟨b, o, C, e, rfl, c0, c1, c2, c3, c4, hT, hn⟩ := h (k + i) (by omega)
  have e0 : o + k * 5 + i * 5 = o + (k + i) * 5 := by omega
  refine ⟨b, o + k * 5, C, e, ?_, ?_, ?_, ?_, ?_, ?_, ?_, ?_⟩
  · unfold cutA
    rw [if_neg (by omega)]
    simp [add_addr]
  · rw [e0, c0]; simp
  · rw [e0, c1]; simp
  · rw [e0, c2]; simp
  · rw [e0, c3]; simp
  · rw [e0, c4]; simp
  · simpa using hT
  · simpa using hn
theorem bds_take {w : World} {bs : List Bd} {A : Option Addr} {k : Nat} (h : BdsAt w bs A) : BdsAt w (bs.take k) A := by
  intro i hi
  rw [List.length_take] at hi
  obtain ⟨b, o, C, e, ea, c0, c1, c2, c3, c4, hT, hn⟩ := h i (by omega)
  exact ⟨b, o, C, e, ea, by simpa using c0, by simpa using c1, by simpa using c2, by simpa using c3, by simpa using c4, by simpa using hT, by simpa using hn⟩
theorem MgS.row {W w : World} {v : Value} {us : List Bd} (h : MgS W w v us) : ∃ zs : List BLain, zs.map (·.1) = us ∧ w.ownsRow W.heap.size 65 5 v us.length (browCells zs) ∧ ∀ z ∈ zs, TmAt w z.1.tm z.2.1 z.2.2 ∧ z.1.name.size ≤ 140737488351232 := by
  obtain ⟨zs, G, rfl, hM⟩ := h
  refine ⟨zs, rfl, by rw [List.length_map]; exact hM.own, fun z hz => ⟨?_, hM.names z hz⟩⟩
  obtain ⟨i, hi, rfl⟩ := List.getElem_of_mem hz
  have := (hM.inv.sub i (by simpa using hi)).at_
  simpa [BLain.tl] using this
theorem MgAt.base {W W' wr : World} {v : Value} {zs : List BLain} {G : Nat → Nat → Prop} (h : MgAt W wr v zs G) (hu : Ext W' W) : MgAt W' wr v zs G :=
  ⟨ownsRow_base h.own hu.size, ⟨h.inv.sub, fun i hi x hx => ⟨Nat.le_trans hu.size (h.inv.inF i hi x hx).1, (h.inv.inF i hi x hx).2⟩, h.inv.apart, hu.trans h.inv.ext⟩, h.names⟩
theorem copyTakeB (xs : List Bd) (k : Nat) (X : Option Addr) (c : Nat) (wr u : World) (h : BdsAt wr xs X) (hk : k ≤ xs.length) (hl : xs.length ≤ 1000000) (hu : Ext wr u) :
    Calls Try.prog 38 #[.slice X k c] u fun e u' => ∃ v zs G, e = .returned v ∧ Hid (zs.map (·.1) = xs.take k) ∧ zs.length = k ∧ u'.ownsRow wr.heap.size 65 5 v zs.length (browCells zs) ∧ Hid (MgAt wr u' v zs G) ∧ Ext u u' ∧ Ext wr u' := by
  have e : (xs.take k).length = k := by rw [List.length_take]; omega
  have hh := copyBinds_mg (xs.take k) X c u (by omega) (bds_take (h.ext hu))
  rw [e] at hh
  refine hh.mono fun e' u' ⟨v, he, hm⟩ => ?_
  have hx := hm.ext_
  obtain ⟨zs, G, hz, hM⟩ := hm
  have hM' := hM.base hu
  exact ⟨v, zs, G, he, Lib.hid hz, by rw [← e, ← hz, List.length_map], hM'.own, Lib.hid hM', hx, hu.trans hx⟩
theorem copyOneB (y : Bd) (C : Option Addr) (e : Nat) (wr u : World) (h : TmAt wr y.tm C e) (hu : Ext wr u) :
    Calls Try.prog 83 #[y.val C e] u fun r u' => ∃ A' c', r = .returned (y.val A' c') ∧ Hid (TmOwn u' y.tm A' c' (fun k => u.heap.size ≤ k ∧ k < u'.heap.size)) ∧ Ext u u' ∧ Ext wr u' :=
  (copyBind_any y C e u (h.ext hu)).mono fun _ _ ⟨A', c', he, hO, hx⟩ => ⟨A', c', he, Lib.hid hO, hx, hu.trans hx⟩
theorem rows_joined {W w7 w8 : World} {v7 v8 : Value} {zs ld : List BLain} {G : Nat → Nat → Prop} {n base : Nat} (hM : MgAt W w7 v7 zs G) (hg : w7.grownBy w8 v7.ownBlock) (hS : Ext W w8) (ho : w8.ownsRow base 65 5 v8 n (browCells zs ++ browCells ld))
    (hl : ∀ z ∈ ld, TmAt W z.1.tm z.2.1 z.2.2 ∧ z.1.name.size ≤ 140737488351232) : ∃ A c, v8 = .slice A (zs ++ ld).length c ∧ (zs ++ ld).length ≤ c ∧ BdsAt w8 ((zs ++ ld).map (·.1)) A := by
  rw [← browCells_app] at ho
  refine owned_bds ho fun z hz => ?_
  rcases List.mem_append.1 hz with hz | hz
  · obtain ⟨i, hi, rfl⟩ := List.getElem_of_mem hz
    have ht := ((hM.inv.sub i (by simpa using hi)).keep (w' := w8) fun b hb hs => hg.block b hs (fun e => (hM.inv.inF i (by simpa using hi) b hb).2.2 e.symm)).at_
    exact ⟨by simpa [BLain.tl] using ht, hM.names _ (List.getElem_mem hi)⟩
  · exact ⟨(hl z hz).1.ext hS, (hl z hz).2⟩

set_option maxRecDepth 100000 in
set_option maxHeartbeats 4000000 in
theorem rJoin_any (aa bb : List Bd) (A B : Option Addr) (ca cb : Nat) (w : World) (hA : BdsAt w aa A) (hB : BdsAt w bb B) (hba : bindsB aa = true) (hbb : bindsB bb = true) :
    Calls Try.prog 54 #[.slice A aa.length ca, .slice B bb.length cb] w (RJoinOut aa bb w) := by
  obtain ⟨i0, hi0, hz0, hz1, hz2⟩ := info_parts infoBd
  have h16a := (binds_ok hba).1
  have h16b := (binds_ok hbb).1
  have RA := Lib.hid (riseL_of (okL_rise (binds_ok hba).2.1))
  have RB := Lib.hid (riseL_of (okL_rise (binds_ok hbb).2.1))
  have MA := Lib.hid (fun x (hx : x ∈ aa) => by obtain ⟨i, hi, e⟩ := List.getElem_of_mem hx; rw [← e]; exact binds_may hba i hi : ∀ x ∈ aa, mayB x.tm = true)
  have MB := Lib.hid (binds_may hbb)
  clear hba hbb
  go_enter Try.func54, Try.ntmps54
  go_wp2_with fail
  refine (copyBinds_any aa A ca _ (by omega) hA).mono ?_
  rintro e w1 ⟨A1, c1, rfl, hc1, hA1, hx1⟩
  go_wp2_with fail
  go_loopw [6, 7] (fun v i wr => ∃ (k : Nat) (xs : List Bd) (X : Option Addr) (cx : Nat), k ≤ bb.length ∧ v = .slice X xs.length cx ∧ i = .int .i64 k ∧ xs.length ≤ aa.length + k ∧ xs.length ≤ cx ∧ BdsAt wr xs X ∧ Hid (joinP xs (bb.drop k) = mergeL aa bb) ∧ Hid (RiseL xs) ∧ Hid (∀ x ∈ xs, mayB x.tm = true) ∧ Ext w wr) (fun _ i _ => bb.length - (intOf i).toNat)
  case atStart => exact ⟨0, aa, A1, c1, Nat.zero_le _, rfl, rfl, by omega, hc1, hA1, Lib.hid (joinP_merge _ _ RB.out), RA, MA, hx1⟩
  case round =>
    obtain ⟨k, xs, X, cx, hk, rfl, rfl, hxl, hcx, hX, HJ, RX, MX, hxr⟩ := hrel
    obtain ⟨w2, rfl⟩ : ∃ w2 : World, w2 = wr := ⟨_, rfl⟩
    clear hA1 hA
    by_cases hlt : k < bb.length
    · obtain ⟨b, o, C, e, rfl, c0, c1', c2, c3, c4, hT, hn⟩ := (hB.ext hxr) k hlt
      have HJ2 : Hid ((insP xs bb[k]).bind (fun zs => joinP zs (bb.drop (k + 1))) = mergeL aa bb) := by
        have := HJ.out
        rw [List.drop_eq_getElem_cons hlt, joinP] at this
        exact Lib.hid this
      have HMY := Lib.hid (MB.out k hlt)
      obtain ⟨y, hy⟩ : ∃ y, y = bb[k] := ⟨_, rfl⟩
      rw [← hy] at c0 c1' c2 c3 c4 hT hn HJ2 HMY
      have k0 : (0 : Int) ≤ (k : Int) := Int.natCast_nonneg _
      have k1 : (k : Int) < (bb.length : Int) := by omega
      clear HJ hy hB
      go_wp2_with fail
      refine (At_any xs y.name X cx _ (by omega) hX).mono ?_
      rintro e3 w3 ⟨rfl, hx3⟩
      have c0' := hx3.cell c0
      have c1'' := hx3.cell c1'
      have c2' := hx3.cell c2
      have c3' := hx3.cell c3
      have c4' := hx3.cell c4
      have hT' := hT.ext hx3
      have hX' := hX.ext hx3
      have hxr' := hxr.trans hx3
      by_cases hat : 0 ≤ atB xs y.name
      · obtain ⟨i, hi, ei, _, en⟩ := atB_plc (RiseL.toB RX.out) hat
        have HI := Lib.hid (insP_old y xs i hi RX.out en)
        have MI := Lib.hid (MX.out xs[i] (List.getElem_mem hi))
        obtain ⟨xb, xo, XC, xe, rfl, d0, d1, d2, d3, d4, hTx, _⟩ := hX' i hi
        obtain ⟨x, hx⟩ : ∃ x, x = xs[i] := ⟨_, rfl⟩
        rw [← hx] at d0 d1 d2 d3 d4 hTx HI MI
        have i0' : (0 : Int) ≤ (i : Int) := Int.natCast_nonneg _
        have i1' : (i : Int) < (xs.length : Int) := by omega
        rw [ei]
        have q0 : ∀ p : ExtOf w3, p.to.cell? ⟨xb, xo + i * 5 + 1, none⟩ = some (.int .i64 x.tm.kind) := ext_cell d1
        have q1 : ∀ p : ExtOf w3, p.to.cell? ⟨xb, xo + i * 5 + 2, none⟩ = some (.string x.tm.name) := ext_cell d2
        have q2 : ∀ p : ExtOf w3, p.to.cell? ⟨xb, xo + i * 5 + 3, none⟩ = some (.int .i64 x.tm.n) := ext_cell d3
        have q3 : ∀ p : ExtOf w3, p.to.cell? ⟨xb, xo + i * 5 + 4, none⟩ = some (.slice XC x.tm.args.length xe) := ext_cell d4
        have p0 : ∀ p : ExtOf w3, p.to.cell? ⟨b, o + k * 5 + 1, none⟩ = some (.int .i64 y.tm.kind) := ext_cell c1''
        have p1 : ∀ p : ExtOf w3, p.to.cell? ⟨b, o + k * 5 + 2, none⟩ = some (.string y.tm.name) := ext_cell c2'
        have p2 : ∀ p : ExtOf w3, p.to.cell? ⟨b, o + k * 5 + 3, none⟩ = some (.int .i64 y.tm.n) := ext_cell c3'
        have p3 : ∀ p : ExtOf w3, p.to.cell? ⟨b, o + k * 5 + 4, none⟩ = some (.slice C y.tm.args.length e) := ext_cell c4'
        have HC := Lib.hid (cmpT_eqT MI.out HMY.out)
        clear hx en ei hat c0 c1' c2 c3 c4 d0 d1 d2 d3 d4 c0' c1'' c2' c3' c4'
        cases hq : eqT x.tm y.tm with
        | true =>
          have KEY : Hid (∀ p : ExtOf w3, Calls Try.prog 28 #[x.tm.val XC xe, y.tm.val C e] p.to fun e w' => e = .returned (.bool true) ∧ Ext p.to w') := Lib.hid fun p => (eqTerm_all x.tm.high x.tm y.tm XC C xe e p.to (Nat.le_refl _) (hTx.ext p.is) (hT'.ext p.is)).mono fun _ _ ⟨he, hx⟩ => ⟨by rw [he, hq], hx⟩
          have H3 : Hid (joinP xs (bb.drop (k + 1)) = mergeL aa bb) := Lib.hid (by
            have h0 : cmpT x.tm y.tm = 0 := by have := HC.out; rw [hq] at this; simpa using this
            rw [← HJ2.out, HI.out, if_pos h0]; rfl)
          clear hq HJ2 HC HI hTx hT'
          go_wp2_with fail
          refine wp_region_ext (by kernel_rfl) (by kernel_rfl) ?_
          repeat (go_big_quiet_step ((go_at_call 28; exact of_ext (KEY.out _))))
          refine wpQuiet_nil ?_
          refine ext_all ?_
          intro w4 hx4
          clear q0 q1 q2 q3 p0 p1 p2 p3 KEY
          go_wp2_with fail
          go_roundw
          case rel => exact ⟨k + 1, xs, _, cx, by omega, rfl, by go_num, by omega, hcx, hX'.ext hx4, H3, RX, MX, hxr'.trans hx4⟩
          case measure => simp [intOf]; omega
        | false =>
          have KEY : Hid (∀ p : ExtOf w3, Calls Try.prog 28 #[x.tm.val XC xe, y.tm.val C e] p.to fun e w' => e = .returned (.bool false) ∧ Ext p.to w') := Lib.hid fun p => (eqTerm_all x.tm.high x.tm y.tm XC C xe e p.to (Nat.le_refl _) (hTx.ext p.is) (hT'.ext p.is)).mono fun _ _ ⟨he, hx⟩ => ⟨by rw [he, hq], hx⟩
          have H3 : Hid (mergeL aa bb = none) := Lib.hid (by
            have h0 : ¬ cmpT x.tm y.tm = 0 := by have := HC.out; rw [hq] at this; simpa using this
            rw [← HJ2.out, HI.out, if_neg h0]; rfl)
          clear hq HJ2 HC HI hTx hT'
          go_wp2_with fail
          refine wp_region_ext (by kernel_rfl) (by kernel_rfl) ?_
          repeat (go_big_quiet_step ((go_at_call 28; exact of_ext (KEY.out _))))
          refine wpQuiet_nil ?_
          refine ext_all ?_
          intro w4 hx4
          clear q0 q1 q2 q3 p0 p1 p2 p3 KEY
          go_wp2_with fail
          go_ret2
          exact ⟨hxr'.trans hx4, .inl ⟨H3.out, rfl⟩⟩
      · have hnm : ∀ x ∈ xs, x.name ≠ y.name := fun x hx => by
          obtain ⟨i, hi, rfl⟩ := List.getElem_of_mem hx
          have hp := plc_none (atB_none hat) i hi
          simpa [List.getElem?_eq_getElem hi] using hp
        have HI := Lib.hid (insP_new y xs hnm)
        have hat' : decide (0 ≤ atB xs y.name) = false := decide_eq_false hat
        have hle := lowK_le xs y.name
        have HLT := Lib.hid (lowK_lt xs y.name)
        have HAT := Lib.hid (lowK_at xs y.name)
        obtain ⟨K, hK⟩ : ∃ K, K = lowK xs y.name := ⟨_, rfl⟩
        have H3 : Hid (joinP (xs.take K ++ y :: xs.drop K) (bb.drop (k + 1)) = mergeL aa bb) := Lib.hid (by
          rw [← HJ2.out, HI.out, hK]; rfl)
        have RX2 : Hid (RiseL (xs.take K ++ y :: xs.drop K)) := Lib.hid (by rw [hK]; exact insP_rise RX.out HI.out)
        have MX2 : Hid (∀ x ∈ xs.take K ++ y :: xs.drop K, mayB x.tm = true) := Lib.hid (by
          intro x hx
          rcases insP_mem HI.out x (by rw [← hK]; exact hx) with e | e
          · rw [e]; exact HMY.out
          · exact MX.out x e)
        rw [← hK] at hle HLT HAT
        clear hat hnm HJ2 HI hK c0 c1' c2 c3 c4
        go_wp2_with fail
        go_loopw [8] (fun j wq => ∃ q : Nat, q ≤ K ∧ j = .int .i64 q ∧ Ext w3 wq) (fun j _ => K - (intOf j).toNat)
        case atStart => exact ⟨0, Nat.zero_le _, rfl, Ext.refl _⟩
        case round =>
          obtain ⟨q, hq, rfl, hxq⟩ := hrel
          obtain ⟨wq, rfl⟩ : ∃ wq : World, wq = wr := ⟨_, rfl⟩
          have cbq := hxq.cell c0'
          have q0 : (0 : Int) ≤ (q : Int) := Int.natCast_nonneg _
          by_cases hqK : q < K
          · have hql : q < xs.length := by omega
            have q1 : (q : Int) < (xs.length : Int) := by omega
            obtain ⟨xb, xo, XC, xe, rfl, d0, d1, d2, d3, d4, hTx, _⟩ := (hX'.ext hxq) q hql
            have hless : Op.bytesLess xs[q].name.toList y.name.toList = true := HLT.out q hql hqK
            go_wp2_with fail
            go_quiet (fail)
            go_wp2_with fail
            go_roundw
            case rel => exact ⟨q + 1, by omega, by go_num, hxq.drewN _⟩
            case measure => simp [intOf]; omega
          · have hqe : q = K := by omega
            subst hqe
            by_cases hql : q < xs.length
            · have q1 : (q : Int) < (xs.length : Int) := by omega
              obtain ⟨xb, xo, XC, xe, rfl, d0, d1, d2, d3, d4, hTx, _⟩ := (hX'.ext hxq) q hql
              have hless : Op.bytesLess xs[q].name.toList y.name.toList = false := HAT.out hql
              clear HLT HAT
              go_wp2_with fail
              go_quiet (fail)
              go_upto_region 12 with (fail)
              generalize hwz : wq.drewN nq = wz at *
              have hxz : Ext w3 wz := hwz ▸ hxq.drewN nq
              clear hwz hxq cbq d0 d1 d2 d3 d4 hTx
              have hXz := hX'.ext hxz
              have hTz := hT'.ext hxz
              have r0 := fun (u : World) (x : Ext wz u) => x.cell (hxz.cell c0')
              have r1 := fun (u : World) (x : Ext wz u) => x.cell (hxz.cell c1'')
              have r2 := fun (u : World) (x : Ext wz u) => x.cell (hxz.cell c2')
              have r3 := fun (u : World) (x : Ext wz u) => x.cell (hxz.cell c3')
              have r4 := fun (u : World) (x : Ext wz u) => x.cell (hxz.cell c4')
              obtain ⟨A2, hA2⟩ : ∃ A2, A2 = cutA (some ⟨xb, xo, none⟩) cx q 5 := ⟨_, rfl⟩
              have hXd : BdsAt wz (xs.drop q) A2 := by rw [hA2]; exact bds_drop hXz hle hcx
              obtain ⟨ld, hld, hlt', hlc⟩ := bds_list hXd
              have hsd : Hid (∀ u, Ext wz u → Src u A2 (xs.length - q) (cx - q) 5 (browCells ld)) := Lib.hid fun u x => by
                have := bds_src (hXd.ext x) (c := cx - q) (by rw [List.length_drop]; omega) hld (fun b o e j u h => x.cell (hlc b o e j u h))
                rwa [List.length_drop] at this
              have s1 := fun (u : World) => run_to Try.underlying58 Try.sizeOf65 u (some ⟨xb, xo, none⟩) xs.length cx q (by omega)
              have s2 := fun (u : World) => (run_from Try.underlying58 Try.sizeOf65 u (some ⟨xb, xo, none⟩) xs.length cx q hle).trans (congrArg (fun A => Result.ok (Value.slice A (xs.length - q) (cx - q)) u) hA2.symm)
              have KC := Lib.hid (fun u hu => copyTakeB xs q (some ⟨xb, xo, none⟩) cx wz u hXz hle (by omega) hu)
              have KY := Lib.hid (fun u hu => copyOneB y C e wz u hTz hu)
              have hZ0 := Ext.refl wz
              have HLD := Lib.hid hld
              have HLT' := Lib.hid hlt'
              have hbig : xs.length ≤ 1000000 := by omega
              clear hA2 hXd hlc hld hlt' c0' c1'' c2' c3' c4' hX hX' hT hT'
              go_region_held3 (fun u => Ext wz u) (first | assumption | exact hZ0.drew | exact hS8 | exact hS7 | exact Ext.alloc hS6 _ | exact hS6 | exact hS5)
                (first
                  | (go_at_call 38; refine (KC.out _ (by assumption)).mono ?_; rintro e5 w5 ⟨v5, zs5, G5, rfl, HZ5, hl5, ho5, HM5, hx5, hS5⟩)
                  | (go_at_call 83; refine (KY.out _ (by assumption)).mono ?_; rintro e6 w6 ⟨A6, c6, rfl, HO6, hx6, hS6⟩)
                  | (refine step_app _ (by rfl) _ _ 58 (by rfl) wz.heap.size 65 i0 _ 5 72 Try.underlying58 hi0 hz0 hz1 hz2 rfl (by decide) v7 zs7.length (browCells zs7) (by rfl) ho7' A2 (xs.length - q) (cx - q) (browCells ld) (by rfl) (hsd.out _ hS7) (browCells_one' ld) (by simp only [maxLen]; omega) (by omega) hS7.size ?_; intro v8 w8 ho8 hg8 _; have hS8 : Ext wz w8 := hS7.own ho7' (Nat.le_refl _) hg8)
                  | (refine step_app _ (by rfl) _ _ 58 (by rfl) wz.heap.size 65 i0 _ 5 72 Try.underlying58 hi0 hz0 hz1 hz2 rfl (by decide) v5 zs5.length (browCells zs5) (by rfl) ((ownsRow_ext ho5 hx6).alloc _) (some ⟨w6.heap.size, 0, none⟩) 1 1 (BLain.cells (y, A6, c6)) (by rfl) (Src.box w6 #[.string y.name, .int .i64 y.tm.kind, .string y.tm.name, .int .i64 y.tm.n, .slice A6 y.tm.args.length c6] 65 5 rfl) (BLain.one _) (by simp only [maxLen]; omega) (by omega) (hS6.alloc _).size ?_; intro v7 w7 ho7 hg7 hat7; have hS7 : Ext wz w7 := (hS6.alloc _).own ((ownsRow_ext ho5 hx6).alloc _) (Nat.le_refl _) hg7; obtain ⟨zs7, G7, hz7, hM7⟩ := HM5.out.step hn HO6.out hx6 ho7 hg7 (by simpa using hat7); have hl7 : zs7.length = q + 1 := (by have := congrArg List.length hz7; simpa [hl5] using this); have ho7' := hM7.own; have HM7 := Lib.hid hM7; have HZ7 := Lib.hid hz7; clear hM7 hz7 ho7 hat7))
              all_goals
                have HL : Hid ((zs7 ++ ld).map (·.1) = xs.take q ++ y :: xs.drop q) := Lib.hid (by rw [List.map_append, HZ7.out, HLD.out, HZ5.out, List.append_assoc]; rfl)
                obtain ⟨A9, c9, rfl, hc9, hX9⟩ := rows_joined HM7.out hg8 hS8 ho8 HLT'.out
                obtain ⟨us, hus⟩ : ∃ us, us = xs.take q ++ y :: xs.drop q := ⟨_, rfl⟩
                have hlen : (zs7 ++ ld).length = us.length := by rw [hus, ← HL.out, List.length_map]
                have hul : us.length ≤ aa.length + (k + 1) := by rw [hus]; simp; omega
                rw [HL.out, ← hus] at hX9
                rw [← hus] at H3 RX2 MX2
                rw [hlen] at hc9
                rw [hlen]
                have hxf := (hxr'.trans hxz).trans hS8
                clear hus HL HM7 HZ7 HZ5 HM5 HLD HLT' hg8 ho8 ho7' hg7 ho5 KC KY hsd s1 s2 r0 r1 r2 r3 r4 hl7 hl5
                go_wp2_with fail
                go_roundw
                case rel => exact ⟨k + 1, us, A9, c9, by omega, rfl, by go_num, hul, hc9, hX9, H3, RX2, MX2, hxf⟩
                case measure => simp [intOf]; omega
            · have hql' : decide (q < xs.length) = false := decide_eq_false hql
              clear HLT HAT
              go_wp2_with fail
              go_quiet (fail)
              go_upto_region 12 with (fail)
              generalize hwz : wq.drewN nq = wz at *
              have hxz : Ext w3 wz := hwz ▸ hxq.drewN nq
              clear hwz hxq cbq 
              have hXz := hX'.ext hxz
              have hTz := hT'.ext hxz
              have r0 := fun (u : World) (x : Ext wz u) => x.cell (hxz.cell c0')
              have r1 := fun (u : World) (x : Ext wz u) => x.cell (hxz.cell c1'')
              have r2 := fun (u : World) (x : Ext wz u) => x.cell (hxz.cell c2')
              have r3 := fun (u : World) (x : Ext wz u) => x.cell (hxz.cell c3')
              have r4 := fun (u : World) (x : Ext wz u) => x.cell (hxz.cell c4')
              obtain ⟨A2, hA2⟩ : ∃ A2, A2 = cutA X cx q 5 := ⟨_, rfl⟩
              have hXd : BdsAt wz (xs.drop q) A2 := by rw [hA2]; exact bds_drop hXz hle hcx
              obtain ⟨ld, hld, hlt', hlc⟩ := bds_list hXd
              have hsd : Hid (∀ u, Ext wz u → Src u A2 (xs.length - q) (cx - q) 5 (browCells ld)) := Lib.hid fun u x => by
                have := bds_src (hXd.ext x) (c := cx - q) (by rw [List.length_drop]; omega) hld (fun b o e j u h => x.cell (hlc b o e j u h))
                rwa [List.length_drop] at this
              have s1 := fun (u : World) => run_to Try.underlying58 Try.sizeOf65 u X xs.length cx q (by omega)
              have s2 := fun (u : World) => (run_from Try.underlying58 Try.sizeOf65 u X xs.length cx q hle).trans (congrArg (fun A => Result.ok (Value.slice A (xs.length - q) (cx - q)) u) hA2.symm)
              have KC := Lib.hid (fun u hu => copyTakeB xs q X cx wz u hXz hle (by omega) hu)
              have KY := Lib.hid (fun u hu => copyOneB y C e wz u hTz hu)
              have hZ0 := Ext.refl wz
              have HLD := Lib.hid hld
              have HLT' := Lib.hid hlt'
              have hbig : xs.length ≤ 1000000 := by omega
              clear hA2 hXd hlc hld hlt' c0' c1'' c2' c3' c4' hX hX' hT hT'
              go_region_held3 (fun u => Ext wz u) (first | assumption | exact hZ0.drew | exact hS8 | exact hS7 | exact Ext.alloc hS6 _ | exact hS6 | exact hS5)
                (first
                  | (go_at_call 38; refine (KC.out _ (by assumption)).mono ?_; rintro e5 w5 ⟨v5, zs5, G5, rfl, HZ5, hl5, ho5, HM5, hx5, hS5⟩)
                  | (go_at_call 83; refine (KY.out _ (by assumption)).mono ?_; rintro e6 w6 ⟨A6, c6, rfl, HO6, hx6, hS6⟩)
                  | (refine step_app _ (by rfl) _ _ 58 (by rfl) wz.heap.size 65 i0 _ 5 72 Try.underlying58 hi0 hz0 hz1 hz2 rfl (by decide) v7 zs7.length (browCells zs7) (by rfl) ho7' A2 (xs.length - q) (cx - q) (browCells ld) (by rfl) (hsd.out _ hS7) (browCells_one' ld) (by simp only [maxLen]; omega) (by omega) hS7.size ?_; intro v8 w8 ho8 hg8 _; have hS8 : Ext wz w8 := hS7.own ho7' (Nat.le_refl _) hg8)
                  | (refine step_app _ (by rfl) _ _ 58 (by rfl) wz.heap.size 65 i0 _ 5 72 Try.underlying58 hi0 hz0 hz1 hz2 rfl (by decide) v5 zs5.length (browCells zs5) (by rfl) ((ownsRow_ext ho5 hx6).alloc _) (some ⟨w6.heap.size, 0, none⟩) 1 1 (BLain.cells (y, A6, c6)) (by rfl) (Src.box w6 #[.string y.name, .int .i64 y.tm.kind, .string y.tm.name, .int .i64 y.tm.n, .slice A6 y.tm.args.length c6] 65 5 rfl) (BLain.one _) (by simp only [maxLen]; omega) (by omega) (hS6.alloc _).size ?_; intro v7 w7 ho7 hg7 hat7; have hS7 : Ext wz w7 := (hS6.alloc _).own ((ownsRow_ext ho5 hx6).alloc _) (Nat.le_refl _) hg7; obtain ⟨zs7, G7, hz7, hM7⟩ := HM5.out.step hn HO6.out hx6 ho7 hg7 (by simpa using hat7); have hl7 : zs7.length = q + 1 := (by have := congrArg List.length hz7; simpa [hl5] using this); have ho7' := hM7.own; have HM7 := Lib.hid hM7; have HZ7 := Lib.hid hz7; clear hM7 hz7 ho7 hat7))
              all_goals
                have HL : Hid ((zs7 ++ ld).map (·.1) = xs.take q ++ y :: xs.drop q) := Lib.hid (by rw [List.map_append, HZ7.out, HLD.out, HZ5.out, List.append_assoc]; rfl)
                obtain ⟨A9, c9, rfl, hc9, hX9⟩ := rows_joined HM7.out hg8 hS8 ho8 HLT'.out
                obtain ⟨us, hus⟩ : ∃ us, us = xs.take q ++ y :: xs.drop q := ⟨_, rfl⟩
                have hlen : (zs7 ++ ld).length = us.length := by rw [hus, ← HL.out, List.length_map]
                have hul : us.length ≤ aa.length + (k + 1) := by rw [hus]; simp; omega
                rw [HL.out, ← hus] at hX9
                rw [← hus] at H3 RX2 MX2
                rw [hlen] at hc9
                rw [hlen]
                have hxf := (hxr'.trans hxz).trans hS8
                clear hus HL HM7 HZ7 HZ5 HM5 HLD HLT' hg8 ho8 ho7' hg7 ho5 KC KY hsd s1 s2 r0 r1 r2 r3 r4 hl7 hl5
                go_wp2_with fail
                go_roundw
                case rel => exact ⟨k + 1, us, A9, c9, by omega, rfl, by go_num, hul, hc9, hX9, H3, RX2, MX2, hxf⟩
                case measure => simp [intOf]; omega
    · have HM : Hid (mergeL aa bb = some xs) := Lib.hid (by have := HJ.out; rw [List.drop_eq_nil_of_le (by omega)] at this; rw [← this, joinP])
      clear HJ
      by_cases h16 : xs.length ≤ 16
      · have hd : decide ((16 : Int) < (xs.length : Int)) = false := decide_eq_false (by omega)
        go_wp2_with fail
        go_ret2
        exact ⟨hxr, .inr ⟨xs, HM.out, .inr ⟨h16, X, cx, rfl, hcx, hX⟩⟩⟩
      · have hd : decide ((16 : Int) < (xs.length : Int)) = true := decide_eq_true (by omega)
        have h17 : 16 < xs.length := by omega
        clear h16
        go_wp2_with fail
        go_ret2
        exact ⟨hxr, .inr ⟨xs, HM.out, .inl ⟨h17, rfl⟩⟩⟩
end Go.Proofs.Ytjmfjeeddnmoaaa

/- almagestlaw0.Binds: an answer's binds are written over; nothing else turns. -/
namespace Go.Proofs.Ytjmfjeeddnmoaaa
open Go.RowKit

theorem set5_other (w : World) (b o q : Nat) (v0 v1 v2 v3 v4 : Value) (h : q < o ∨ o + 5 ≤ q) : (set5 w b o v0 v1 v2 v3 v4).cell? ⟨b, q, none⟩ = w.cell? ⟨b, q, none⟩ := by
  have ne : ∀ j, j < 5 → (⟨b, o + j, none⟩ : Addr) ≠ ⟨b, q, none⟩ := fun j hj e => by injection e with _ e2; omega
  unfold set5
  rw [World.cell?_setCell_other _ _ _ _ (ne 4 (by omega)), World.cell?_setCell_other _ _ _ _ (ne 3 (by omega)), World.cell?_setCell_other _ _ _ _ (ne 2 (by omega)), World.cell?_setCell_other _ _ _ _ (ne 1 (by omega)), World.cell?_setCell_other _ _ _ _ (show (⟨b, o, none⟩ : Addr) ≠ ⟨b, q, none⟩ from ne 0 (by omega))]
theorem set5_frozen (w : World) (b o : Nat) (v0 v1 v2 v3 v4 : Value) (a : Addr) : (set5 w b o v0 v1 v2 v3 v4).frozen? a = w.frozen? a := by
  unfold set5
  simp
/-- from k on the row is as it was -/
def BFrom (w : World) (bs : List Bd) (b o : Nat) (B : Nat → Option Addr) (d : Nat → Nat) (G : Nat → Nat → Prop) (k : Nat) : Prop :=
  (∀ i (h : i < bs.length), k ≤ i → w.cell? ⟨b, o + i * 5, none⟩ = some (.string bs[i].name) ∧ w.cell? ⟨b, o + i * 5 + 1, none⟩ = some (.int .i64 bs[i].tm.kind) ∧ w.cell? ⟨b, o + i * 5 + 2, none⟩ = some (.string bs[i].tm.name) ∧
    w.cell? ⟨b, o + i * 5 + 3, none⟩ = some (.int .i64 bs[i].tm.n) ∧ w.cell? ⟨b, o + i * 5 + 4, none⟩ = some (.slice (B i) bs[i].tm.args.length (d i)) ∧ TmOwn w bs[i].tm (B i) (d i) (G i)) ∧
  ∀ j, j < bs.length * 5 → w.frozen? ⟨b, o + j, none⟩ = false

theorem BFrom.next {w : World} {bs : List Bd} {b o : Nat} {B : Nat → Option Addr} {d : Nat → Nat} {G : Nat → Nat → Prop} {k : Nat} (h : BFrom w bs b o B d G k) (hk : k < bs.length) {w1 : World} (hc : Chg (G k) w w1)
    (hG : ∀ i, i < bs.length → ¬ G i b) (hap : ∀ i j, i < bs.length → j < bs.length → i ≠ j → ∀ x, G i x → ¬ G j x) (v0 v1 v2 v3 v4 : Value) (hb : b < w.heap.size) : BFrom (set5 w1 b (o + k * 5) v0 v1 v2 v3 v4) bs b o B d G (k + 1) := by
  have eb : w1.heap[b]? = w.heap[b]? := hc.block b hb (hG k hk)
  refine ⟨fun i hi hki => ?_, fun j hj => ?_⟩
  · obtain ⟨h0, h1, h2, h3, h4, h5⟩ := h.1 i hi (by omega)
    refine ⟨?_, ?_, ?_, ?_, ?_, ?_⟩
    · rw [set5_other _ _ _ _ _ _ _ _ _ (by omega), World.cell?_of_block (w := w) eb]; exact h0
    · rw [set5_other _ _ _ _ _ _ _ _ _ (by omega), World.cell?_of_block (w := w) eb]; exact h1
    · rw [set5_other _ _ _ _ _ _ _ _ _ (by omega), World.cell?_of_block (w := w) eb]; exact h2
    · rw [set5_other _ _ _ _ _ _ _ _ _ (by omega), World.cell?_of_block (w := w) eb]; exact h3
    · rw [set5_other _ _ _ _ _ _ _ _ _ (by omega), World.cell?_of_block (w := w) eb]; exact h4
    · refine (h5.chg hc (hap i k hi hk (by omega))).keep fun x hx _ => set5_block _ _ _ _ _ _ _ _ _ (fun e => hG i hi (e ▸ hx))
  · rw [set5_frozen, World.frozen?_of_block (w := w) eb]
    exact h.2 j hj

set_option maxRecDepth 100000 in
set_option maxHeartbeats 2000000 in
theorem spoilBs_any (bs : List Bd) (A : Option Addr) (c : Nat) (F : Nat → Prop) (B : Nat → Option Addr) (d : Nat → Nat) (G : Nat → Nat → Prop) (w : World) (ll : bs.length ≤ 1000000) (hF : ∀ b, F b → b < w.heap.size) (h : BdsOwn w bs A F B d G) :
    Calls Try.prog 48 #[.slice A bs.length c] w fun e w' => e = .returned (.tuple #[]) ∧ Chg F w w' := by
  by_cases hemp : bs.length = 0
  · have he : decide ((0 : Int) < (bs.length : Int)) = false := decide_eq_false (by omega)
    clear h
    go_enter Try.func48, Try.ntmps48
    go_wp2_with fail
    go_loopw [2] (fun i wr => i = .int .i64 0 ∧ Ext w wr) (fun _ _ => 0)
    case atStart => exact ⟨rfl, Ext.refl _⟩
    case round =>
      obtain ⟨rfl, hx⟩ := hrel
      go_wp2_with fail
      go_end0
      exact ⟨rfl, Chg.of_ext hx⟩
  · have hpos : 0 < bs.length := by omega
    clear hemp
    obtain ⟨b, o, rfl, _⟩ := h.row 0 hpos
    obtain ⟨hFb, hGb, hfz⟩ := h.own b o rfl hpos
    have hap := Lib.hid h.apart
    have hGB := Lib.hid hGb
    have HF := Lib.hid hF
    have R0 : Hid (BFrom w bs b o B d G 0) := Lib.hid ⟨fun i hi _ => by
      obtain ⟨b', o', e, h0, h1, h2, h3, h4, h5⟩ := h.row i hi
      injection e with e; injection e with e1 e2; subst e1 e2
      exact ⟨h0, h1, h2, h3, h4, h.sub i hi⟩, hfz⟩
    have HG : Hid (∀ i, i < bs.length → ∀ x, G i x → F x) := Lib.hid h.inF
    clear h hfz hGb hF
    go_enter Try.func48, Try.ntmps48
    go_wp2_with fail
    go_loopw [2] (fun i wr => ∃ k : Nat, k ≤ bs.length ∧ i = .int .i64 k ∧ Hid (BFrom wr bs b o B d G k) ∧ Hid (Chg F w wr)) (fun i _ => bs.length - (intOf i).toNat)
    case atStart => exact ⟨0, Nat.zero_le _, rfl, R0, Lib.hid (Chg.refl _ _)⟩
    case round =>
      obtain ⟨k, hk, rfl, HR, HC⟩ := hrel
      clear R0
      by_cases hlt : k < bs.length
      · obtain ⟨c0, c1, c2, c3, c4, hsub⟩ := HR.out.1 k hlt (Nat.le_refl _)
        have f0 := HR.out.2 (k * 5) (by omega)
        have f1 := HR.out.2 (k * 5 + 1) (by omega)
        have f2 := HR.out.2 (k * 5 + 2) (by omega)
        have f3 := HR.out.2 (k * 5 + 3) (by omega)
        have f4 := HR.out.2 (k * 5 + 4) (by omega)
        simp only [← Nat.add_assoc] at f1 f2 f3 f4
        have k0 : (0 : Int) ≤ (k : Int) := Int.natCast_nonneg _
        have k1 : (k : Int) < (bs.length : Int) := by omega
        have hFk : Hid (∀ x, G k x → x < wr.heap.size) := Lib.hid fun x hx => Nat.lt_of_lt_of_le (HF.out x (HG.out k hlt x hx)) HC.out.size
        go_wp2_with fail
        refine (spoil_any bs[k].tm.high bs[k].tm _ _ _ _ (Nat.le_refl _) hFk hsub).mono ?_
        rintro e w1 ⟨rfl, hc1⟩
        have nb : ¬ G k b := hGB.out k hlt
        have eb : w1.heap[b]? = wr.heap[b]? := hc1.block b (World.block_lt_of_cell? wr _ c0) nb
        have c0' : w1.cell? ⟨b, o + k * 5, none⟩ = some (.string bs[k].name) := (World.cell?_of_block (w := wr) eb).trans c0
        have c1' : w1.cell? ⟨b, o + k * 5 + 1, none⟩ = some (.int .i64 bs[k].tm.kind) := (World.cell?_of_block (w := wr) eb).trans c1
        have c2' : w1.cell? ⟨b, o + k * 5 + 2, none⟩ = some (.string bs[k].tm.name) := (World.cell?_of_block (w := wr) eb).trans c2
        have c3' : w1.cell? ⟨b, o + k * 5 + 3, none⟩ = some (.int .i64 bs[k].tm.n) := (World.cell?_of_block (w := wr) eb).trans c3
        have c4' : w1.cell? ⟨b, o + k * 5 + 4, none⟩ = some (.slice (B k) bs[k].tm.args.length (d k)) := (World.cell?_of_block (w := wr) eb).trans c4
        have f0' : w1.frozen? ⟨b, o + k * 5, none⟩ = false := (World.frozen?_of_block (w := wr) eb).trans f0
        have f1' : w1.frozen? ⟨b, o + k * 5 + 1, none⟩ = false := (World.frozen?_of_block (w := wr) eb).trans f1
        have f2' : w1.frozen? ⟨b, o + k * 5 + 2, none⟩ = false := (World.frozen?_of_block (w := wr) eb).trans f2
        have f3' : w1.frozen? ⟨b, o + k * 5 + 3, none⟩ = false := (World.frozen?_of_block (w := wr) eb).trans f3
        have f4' : w1.frozen? ⟨b, o + k * 5 + 4, none⟩ = false := (World.frozen?_of_block (w := wr) eb).trans f4
        have HR2 := Lib.hid (fun v0 v1 v2 v3 v4 => HR.out.next hlt hc1 hGB.out hap.out v0 v1 v2 v3 v4 (World.block_lt_of_cell? wr _ c0))
        have HC1 : Hid (Chg F w w1) := Lib.hid (HC.out.trans (hc1.weak (HG.out k hlt)))
        clear eb c0 c1 c2 c3 c4 f0 f1 f2 f3 f4 hsub hc1
        go_wp2_with fail
        go_roundw
        case rel => exact ⟨k + 1, by omega, by go_num, Lib.hid (HR2.out _ _ _ _ _), Lib.hid (HC1.out.trans (set5_chg w1 b (o + k * 5) _ _ _ _ _ hFb))⟩
        case measure => simp [intOf]; omega
      · go_wp2_with fail
        go_end0
        exact ⟨rfl, HC.out⟩
end Go.Proofs.Ytjmfjeeddnmoaaa

/- BindJoins: its callees as its walk meets them. -/
namespace Go.Proofs.Ytjmfjeeddnmoaaa
open Go.RowKit

theorem BdsOwn.nil (w : World) (F : Nat → Prop) : BdsOwn w [] none F (fun _ => none) (fun _ => 0) (fun _ _ => False) :=
  ⟨fun i hi => absurd hi (by simp), fun i hi => absurd hi (by simp), (fun b o e => by cases e), fun i hi => absurd hi (by simp), fun i j hi => absurd hi (by simp)⟩
theorem BdsOwn.ext {w w' : World} {bs : List Bd} {A : Option Addr} {F : Nat → Prop} {B : Nat → Option Addr} {d : Nat → Nat} {G : Nat → Nat → Prop} (h : BdsOwn w bs A F B d G) (k : Ext w w') : BdsOwn w' bs A F B d G :=
  ⟨fun i hi => by obtain ⟨b, o, e, c0, c1, c2, c3, c4, hn⟩ := h.row i hi; exact ⟨b, o, e, k.cell c0, k.cell c1, k.cell c2, k.cell c3, k.cell c4, hn⟩, fun i hi => (h.sub i hi).ext k,
    fun b o e hp => by
      obtain ⟨b', o', e', c0, _⟩ := h.row 0 hp
      rw [e] at e'
      injection e' with e'
      injection e' with e1 e2
      subst e1 e2
      have hb : b < w.heap.size := World.block_lt_of_cell? w _ c0
      exact ⟨(h.own b o e hp).1, (h.own b o e hp).2.1, fun j hj => (Below.frozen k hb).trans ((h.own b o e hp).2.2 j hj)⟩, h.inF, h.apart⟩
/-- Join's answer, in blocks of its own -/
def JoinQ (aa bb : List Bd) (wi : World) (e : Ending) (w' : World) : Prop :=
  ∃ A c B d G, e = .returned (.tuple #[.slice A (joinL aa bb).length c, .int .i64 (joinE aa bb)]) ∧ Hid (BdsOwn w' (joinL aa bb) A (fun k => wi.heap.size ≤ k ∧ k < w'.heap.size) B d G) ∧ (joinL aa bb).length ≤ 16 ∧ Ext wi w'
theorem join_Q {aa bb : List Bd} {A B : Option Addr} {ca cb : Nat} {wi : World} (hA : BdsAt wi aa A) (hB : BdsAt wi bb B) (hca : aa.length ≤ ca) (hcb : bb.length ≤ cb) (hla : aa.length ≤ 1000000) (hlb : bb.length ≤ 1000000) (u : World) (hu : Ext wi u) :
    Calls Try.prog 52 #[.slice A aa.length ca, .slice B bb.length cb] u (JoinQ aa bb wi) := by
  refine (Join_any aa bb A B ca cb u (hA.ext hu) (hB.ext hu) hca hcb hla hlb).mono ?_
  rintro e w' ⟨hx, hc⟩
  unfold JoinQ joinE joinL
  rcases hc with ⟨h, rfl⟩ | ⟨h, hm, rfl⟩ | ⟨us, h, hm, ⟨h16, rfl⟩ | ⟨h16, A', c', B', d, G, rfl, _, hO⟩⟩
  · rw [if_neg (by rw [h]; exact Bool.false_ne_true), if_neg (by rw [h]; exact Bool.false_ne_true)]
    exact ⟨none, 0, _, _, _, rfl, Lib.hid (BdsOwn.nil _ _), by simp, hu.trans hx⟩
  · rw [if_pos h, if_pos h, hm]
    exact ⟨none, 0, _, _, _, rfl, Lib.hid (BdsOwn.nil _ _), by simp, hu.trans hx⟩
  · rw [if_pos h, if_pos h, hm]
    simp only [if_pos h16]
    exact ⟨none, 0, _, _, _, rfl, Lib.hid (BdsOwn.nil _ _), by simp, hu.trans hx⟩
  · rw [if_pos h, if_pos h, hm]
    simp only [if_neg (show ¬ 16 < us.length by omega)]
    exact ⟨A', c', B', d, G, rfl, Lib.hid (hO.weak fun _ hk => ⟨Nat.le_trans hu.size hk.1, hk.2⟩), h16, hu.trans hx⟩
/-- the page's answer is the same -/
theorem join_R {aa bb : List Bd} {A B : Option Addr} {ca cb : Nat} {wi : World} (hj : joinB aa bb = true) (hA : BdsAt wi aa A) (hB : BdsAt wi bb B) (u : World) (hu : Ext wi u) :
    Calls Try.prog 54 #[.slice A aa.length ca, .slice B bb.length cb] u (JoinP aa bb wi) := by
  have hba : bindsB aa = true := by unfold joinB at hj; simp only [Bool.and_eq_true] at hj; exact hj.1.1
  have hbb : bindsB bb = true := by unfold joinB at hj; simp only [Bool.and_eq_true] at hj; exact hj.2.1
  refine (rJoin_any aa bb A B ca cb u (hA.ext hu) (hB.ext hu) hba hbb).mono ?_
  rintro e w' ⟨hx, hc⟩
  unfold JoinP joinE joinL
  rw [if_pos hj, if_pos hj]
  rcases hc with ⟨hm, rfl⟩ | ⟨us, hm, ⟨h16, rfl⟩ | ⟨h16, A', c', rfl, _, hO⟩⟩
  · rw [hm]
    exact ⟨none, 0, rfl, Lib.hid (BdsAt.nil _ _), hu.trans hx⟩
  · rw [hm]
    simp only [if_pos h16]
    exact ⟨none, 0, rfl, Lib.hid (BdsAt.nil _ _), hu.trans hx⟩
  · rw [hm]
    simp only [if_neg (show ¬ 16 < us.length by omega)]
    exact ⟨A', c', rfl, Lib.hid hO, hu.trans hx⟩
/-- Only's answer -/
def onlyE (bs : List Bd) : Int := if bindsB bs = true then 0 else 1
def onlyL (bs : List Bd) (ss : List ByteArray) : List Bd := if bindsB bs = true then onlyB bs ss else []
def OnlyP (bs : List Bd) (ss : List ByteArray) (wi : World) (e : Ending) (w' : World) : Prop :=
  ∃ A c, e = .returned (.tuple #[.slice A (onlyL bs ss).length c, .int .i64 (onlyE bs)]) ∧ Hid (BdsAt w' (onlyL bs ss) A) ∧ Ext wi w'
theorem only_P {bs : List Bd} {ss : List ByteArray} {A S : Option Addr} {c d : Nat} {wi : World} (hl : bs.length ≤ 1000000) (h : BdsAt wi bs A) (hm : ss.length * 16 ≤ 140737488351232) (hs : StrsAt wi ss S) (u : World) (hu : Ext wi u) :
    Calls Try.prog 55 #[.slice A bs.length c, .slice S ss.length d] u (OnlyP bs ss wi) := by
  refine (Only_any bs ss A S c d u hl (h.ext hu) hm (hs.ext hu)).mono ?_
  rintro e w' ⟨hx, hc⟩
  unfold OnlyP onlyE onlyL
  rcases hc with ⟨hb, rfl⟩ | ⟨hb, A', c', rfl, _, hB⟩
  · rw [if_neg (by rw [hb]; exact Bool.false_ne_true), if_neg (by rw [hb]; exact Bool.false_ne_true)]
    exact ⟨none, 0, rfl, Lib.hid (BdsAt.nil _ _), hu.trans hx⟩
  · rw [if_pos hb, if_pos hb]
    exact ⟨A', c', rfl, Lib.hid hB, hu.trans hx⟩
theorem joinE_no {aa bb : List Bd} (h : joinB aa bb = false) : joinE aa bb = 1 ∧ joinL aa bb = [] := by
  unfold joinE joinL
  rw [if_neg (by rw [h]; exact Bool.false_ne_true), if_neg (by rw [h]; exact Bool.false_ne_true)]
  exact ⟨rfl, rfl⟩
end Go.Proofs.Ytjmfjeeddnmoaaa
