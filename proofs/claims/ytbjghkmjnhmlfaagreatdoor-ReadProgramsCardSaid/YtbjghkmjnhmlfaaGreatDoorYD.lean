/- Joined: Lxp, Lxo, Lxw, Lxs, Lxq, Lxt. -/
import Derived.Test.YtbjghkmjnhmlfaaGreatDoorRows
import Derived.Lib.Hide
import Derived.Test.YtbjghkmjnhmlfaaGreatDoorYA
import Derived.WalkKit
import Derived.WalkSpells
import Derived.Deep.Draws
import Derived.Deep.QuietTactic
import Derived.BigQuiet
import Derived.BigGuardPart
import Derived.Deep.LoopGhost
import Derived.Test.YtbjghkmjnhmlfaaGreatDoorLayB
import Derived.Deep.RegionHeld3

/- Words of a text, as plain data (pure): what is passed over, one word, all of them, and where the first fault is. -/
namespace Go.Proofs.YtbjghkmjnhmlfaaGreatDoor

def blkB (c : UInt8) : Bool := c == 32 || c == 9 || c == 10 || c == 13
def smlB (c : UInt8) : Bool := decide (97 ≤ c.toNat) && decide (c.toNat ≤ 122)
def grtB (c : UInt8) : Bool := decide (65 ≤ c.toNat) && decide (c.toNat ≤ 90)
def digB (c : UInt8) : Bool := decide (48 ≤ c.toNat) && decide (c.toNat ≤ 57)
def innB (c : UInt8) : Bool := smlB c || grtB c || digB c || c == 95
def rowB (c : UInt8) : Bool := c != 10

/-- what is left behind blanks and remarks; true: within a remark -/
def passL : Bool → List UInt8 → List UInt8
  | _, [] => []
  | false, c :: r => if blkB c then passL false r else if c == 37 then passL true r else c :: r
  | true, c :: r => if c == 10 then passL false r else passL true r

theorem passL_le (l : List UInt8) : ∀ b, (passL b l).length ≤ l.length := by
  induction l with
  | nil => intro b; cases b <;> simp [passL]
  | cons c r ih =>
    intro b
    cases b
    · simp only [passL]
      split
      · have := ih false; simp; omega
      · split
        · have := ih true; simp; omega
        · simp
    · simp only [passL]
      split
      · have := ih false; simp; omega
      · have := ih true; simp; omega

/-- a word: its kind, text and number, and where it stands -/
structure Tok where
  kind : Int
  text : ByteArray
  n : Int
  at_ : Int

/-- digits' number; more than may be stays just more -/
def capN : Nat := 1073741825
def numL (n : Nat) (l : List UInt8) : Nat := l.foldl (fun n d => min (10 * n + (d.toNat - 48)) capN) n

def marks2 : List (List UInt8) := [[58, 45], [60, 45], [61, 60], [92, 61], [92, 43]]
def marks1 : List (List UInt8) := [[40], [41], [44], [46], [59], [60], [61], [38], [124], [64]]

/-- the first word and what is left, or the error -/
def tokL (l : List UInt8) : Sum Int (Tok × List UInt8) :=
  match l with
  | [] => .inl 4
  | c :: r =>
    if smlB c || grtB c then
      if (l.takeWhile innB).length ≤ 16 then .inr (⟨if smlB c then 1 else 2, ⟨(l.takeWhile innB).toArray⟩, 0, 0⟩, l.dropWhile innB) else .inl 2
    else if digB c then
      if numL 0 (l.takeWhile digB) ≤ 1073741824 then .inr (⟨3, ⟨#[]⟩, (numL 0 (l.takeWhile digB) : Nat), 0⟩, l.dropWhile digB) else .inl 2
    else if c == 45 && digB (r.headD 0) then
      if numL 0 (r.takeWhile digB) ≤ 1073741824 then .inr (⟨3, ⟨#[]⟩, -((numL 0 (r.takeWhile digB) : Nat) : Int), 0⟩, r.dropWhile digB) else .inl 2
    else if 2 ≤ l.length ∧ l.take 2 ∈ marks2 then .inr (⟨4, ⟨(l.take 2).toArray⟩, 0, 0⟩, l.drop 2)
    else if l.take 1 ∈ marks1 then .inr (⟨4, ⟨(l.take 1).toArray⟩, 0, 0⟩, r)
    else .inl 4

theorem dropWhile_le (p : UInt8 → Bool) (l : List UInt8) : (l.dropWhile p).length ≤ l.length := by
  induction l with
  | nil => simp
  | cons c r ih => rw [List.dropWhile_cons]; split <;> simp <;> omega

theorem tokL_lt {l : List UInt8} {t : Tok} {r : List UInt8} (h : tokL l = .inr (t, r)) : r.length < l.length := by
  cases l with
  | nil => simp [tokL] at h
  | cons c s =>
    simp only [tokL] at h
    have hin : ∀ c, (smlB c || grtB c) = true → innB c = true := fun c h => by simp only [innB]; rw [h]; rfl
    split at h
    · rename_i hc
      split at h
      · cases h
        rw [List.dropWhile_cons_of_pos (hin c hc)]
        have := dropWhile_le innB s
        simp; omega
      · cases h
    · split at h
      · rename_i hd
        split at h
        · cases h
          rw [List.dropWhile_cons_of_pos hd]
          have := dropWhile_le digB s
          simp; omega
        · cases h
      · split at h
        · split at h
          · cases h
            have := dropWhile_le digB s
            simp; omega
          · cases h
        · split at h
          · rename_i h2
            cases h
            simp; have := h2.1; simp at this; omega
          · split at h
            · cases h; simp
            · cases h

/-- all words of what is left of a text of so many bytes; or where, and which, the first fault is -/
def toksL (n : Nat) (l : List UInt8) : Sum (Int × Int) (List Tok) :=
  match _hp : passL false l with
  | [] => .inr [⟨5, ⟨#[]⟩, 0, (n : Nat)⟩]
  | c :: r =>
    match _ht : tokL (c :: r) with
    | .inl e => .inl (((n - (c :: r).length : Nat) : Int), e)
    | .inr (t, s) =>
      match toksL n s with
      | .inl e => .inl e
      | .inr ts => .inr ({ t with at_ := ((n - (c :: r).length : Nat) : Int) } :: ts)
termination_by l.length
decreasing_by
  have h1 := tokL_lt _ht
  have h2 := passL_le l false
  rw [_hp] at h2
  omega

theorem toksL_nil {n : Nat} {l : List UInt8} (h : passL false l = []) : toksL n l = .inr [⟨5, ⟨#[]⟩, 0, (n : Nat)⟩] := by
  rw [toksL]
  split
  · rfl
  · rename_i h2; rw [h] at h2; cases h2
theorem toksL_bad {n : Nat} {l : List UInt8} {c : UInt8} {r : List UInt8} {e : Int} (h : passL false l = c :: r) (ht : tokL (c :: r) = .inl e) : toksL n l = .inl (((n - (c :: r).length : Nat) : Int), e) := by
  rw [toksL]
  split
  · rename_i h2; rw [h] at h2; cases h2
  · rename_i c' r' h2
    rw [h] at h2
    cases h2
    split
    · rename_i e' h3; rw [ht] at h3; cases h3; rfl
    · rename_i h3; rw [ht] at h3; cases h3
theorem toksL_go {n : Nat} {l : List UInt8} {c : UInt8} {r : List UInt8} {t : Tok} {s : List UInt8} (h : passL false l = c :: r) (ht : tokL (c :: r) = .inr (t, s)) :
    toksL n l = match toksL n s with | .inl e => .inl e | .inr ts => .inr ({ t with at_ := ((n - (c :: r).length : Nat) : Int) } :: ts) := by
  rw [toksL]
  split
  · rename_i h2; rw [h] at h2; cases h2
  · rename_i c' r' h2
    rw [h] at h2
    cases h2
    split
    · rename_i e' h3; rw [ht] at h3; cases h3
    · rename_i t' s' h3; rw [ht] at h3; cases h3; rfl
theorem passL_twice (l : List UInt8) : ∀ b, passL false (passL b l) = passL b l := by
  induction l with
  | nil => intro b; cases b <;> rfl
  | cons c r ih =>
    intro b
    cases b
    · simp only [passL]
      split
      · exact ih false
      · split
        · exact ih true
        · rename_i h1 h2; simp only [passL, h1, h2]; rfl
    · simp only [passL]
      split
      · exact ih false
      · exact ih true
theorem toksL_pass (n : Nat) (l : List UInt8) : toksL n (passL false l) = toksL n l := by
  have h := passL_twice l false
  match hp : passL false l with
  | [] => rw [hp] at h; rw [toksL_nil h, toksL_nil hp]
  | c :: r =>
    rw [hp] at h
    match ht : tokL (c :: r) with
    | .inl e => rw [toksL_bad h ht, toksL_bad hp ht]
    | .inr (t, s) => rw [toksL_go h ht, toksL_go hp ht]

/-- what a call tells: the words, where the fault is, and which -/
def lexT (s : ByteArray) : List Tok := if 4000 < s.size then [] else match toksL s.size s.data.toList with | .inl _ => [] | .inr ts => ts
def lexA (s : ByteArray) : Int := if 4000 < s.size then 0 else match toksL s.size s.data.toList with | .inl (a, _) => a | .inr _ => 0
def lexE (s : ByteArray) : Int := if 4000 < s.size then 2 else match toksL s.size s.data.toList with | .inl (_, e) => e | .inr _ => 0
end Go.Proofs.YtbjghkmjnhmlfaaGreatDoor

/- What is changed outside of some blocks; four cells written at once. -/
namespace Go.Proofs.YtbjghkmjnhmlfaaGreatDoor
open Go.RowKit

/-- outside of F nothing that was there has turned -/
structure Chg (F : Nat → Prop) (w w' : World) : Prop where
  os : w'.os = w.os
  tape : w'.tape = w.tape
  output : w'.output = w.output
  size : w.heap.size ≤ w'.heap.size
  block : ∀ k, k < w.heap.size → ¬ F k → w'.heap[k]? = w.heap[k]?

theorem Chg.of_ext {F : Nat → Prop} {w w' : World} (h : Ext w w') : Chg F w w' := ⟨h.os, h.tape, h.output, h.size, fun k hk _ => h.block k hk⟩
theorem Chg.refl (F : Nat → Prop) (w : World) : Chg F w w := Chg.of_ext (Ext.refl w)
theorem Chg.trans {F : Nat → Prop} {a b c : World} (h : Chg F a b) (k : Chg F b c) : Chg F a c :=
  ⟨k.os.trans h.os, k.tape.trans h.tape, k.output.trans h.output, Nat.le_trans h.size k.size, fun i hi hf => (k.block i (Nat.lt_of_lt_of_le hi h.size) hf).trans (h.block i hi hf)⟩
theorem Chg.weak {F F' : Nat → Prop} {w w' : World} (h : Chg F w w') (k : ∀ b, F b → F' b) : Chg F' w w' := ⟨h.os, h.tape, h.output, h.size, fun i hi hf => h.block i hi (fun x => hf (k i x))⟩
theorem Chg.cell {F : Nat → Prop} {w w' : World} (h : Chg F w w') {p : Addr} {v : Value} (hc : w.cell? p = some v) (hf : ¬ F p.block) : w'.cell? p = some v :=
  (World.cell?_of_block (w := w) (h.block p.block (World.block_lt_of_cell? w _ hc) hf)).trans hc
/-- what is changed lies behind w's end -/
theorem Chg.ext_of {F : Nat → Prop} {w w1 w' : World} (h : Ext w w1) (k : Chg F w1 w') (hf : ∀ b, F b → w.heap.size ≤ b) : Ext w w' :=
  ⟨k.os.trans h.os, k.tape.trans h.tape, k.output.trans h.output, Nat.le_trans h.size k.size, fun i hi => (k.block i (Nat.lt_of_lt_of_le hi h.size) (fun x => by have := hf i x; omega)).trans (h.block i hi)⟩
theorem Chg.drew {F : Nat → Prop} {a w : World} (h : Chg F a w) : Chg F a w.drew := ⟨h.os, h.tape, h.output, h.size, h.block⟩

/-! four cells written -/
def set4 (w : World) (b o : Nat) (v0 v1 v2 v3 : Value) : World := (((w.setCell ⟨b, o, none⟩ v0).setCell ⟨b, o + 1, none⟩ v1).setCell ⟨b, o + 2, none⟩ v2).setCell ⟨b, o + 3, none⟩ v3
theorem set4_size (w : World) (b o : Nat) (v0 v1 v2 v3 : Value) : (set4 w b o v0 v1 v2 v3).heap.size = w.heap.size := by simp [set4, World.setCell]
theorem set4_block (w : World) (b o : Nat) (v0 v1 v2 v3 : Value) (k : Nat) (h : k ≠ b) : (set4 w b o v0 v1 v2 v3).heap[k]? = w.heap[k]? := by
  unfold set4
  rw [Below.heap_setCell _ _ _ _ h, Below.heap_setCell _ _ _ _ h, Below.heap_setCell _ _ _ _ h, Below.heap_setCell _ _ _ _ h]
theorem set4_other (w : World) (b o q : Nat) (v0 v1 v2 v3 : Value) (h : q < o ∨ o + 4 ≤ q) : (set4 w b o v0 v1 v2 v3).cell? ⟨b, q, none⟩ = w.cell? ⟨b, q, none⟩ := by
  have ne : ∀ j, j < 4 → (⟨b, o + j, none⟩ : Addr) ≠ ⟨b, q, none⟩ := fun j hj e => by injection e with _ e2; omega
  unfold set4
  rw [World.cell?_setCell_other _ _ _ _ (ne 3 (by omega)), World.cell?_setCell_other _ _ _ _ (ne 2 (by omega)), World.cell?_setCell_other _ _ _ _ (ne 1 (by omega)), World.cell?_setCell_other _ _ _ _ (show (⟨b, o, none⟩ : Addr) ≠ ⟨b, q, none⟩ from ne 0 (by omega))]
theorem cell_same {w w' : World} {x q : Nat} {u : Value} (e : w'.heap[x]? = w.heap[x]?) (h : w.cell? ⟨x, q, none⟩ = some u) : w'.cell? ⟨x, q, none⟩ = some u := (World.cell?_of_block (w := w) e).trans h
theorem set4_far {w : World} {b o x q : Nat} {v0 v1 v2 v3 u : Value} (h : w.cell? ⟨x, q, none⟩ = some u) (hne : b ≠ x) : (set4 w b o v0 v1 v2 v3).cell? ⟨x, q, none⟩ = some u := by
  have e := set4_block w b o v0 v1 v2 v3 x (Ne.symm hne)
  exact cell_same e h
theorem set4_frozen (w : World) (b o : Nat) (v0 v1 v2 v3 : Value) (a : Addr) : (set4 w b o v0 v1 v2 v3).frozen? a = w.frozen? a := by
  unfold set4
  simp
theorem set4_cells {w : World} {b o : Nat} {u0 u1 u2 u3 : Value} (v0 v1 v2 v3 : Value) (h0 : w.cell? ⟨b, o, none⟩ = some u0) (h1 : w.cell? ⟨b, o + 1, none⟩ = some u1) (h2 : w.cell? ⟨b, o + 2, none⟩ = some u2) (h3 : w.cell? ⟨b, o + 3, none⟩ = some u3) :
    (set4 w b o v0 v1 v2 v3).cell? ⟨b, o, none⟩ = some v0 ∧ (set4 w b o v0 v1 v2 v3).cell? ⟨b, o + 1, none⟩ = some v1 ∧ (set4 w b o v0 v1 v2 v3).cell? ⟨b, o + 2, none⟩ = some v2 ∧ (set4 w b o v0 v1 v2 v3).cell? ⟨b, o + 3, none⟩ = some v3 := by
  unfold set4
  refine ⟨?_, ?_, ?_, ?_⟩ <;> go_simp
theorem set4_chg (w : World) (b o : Nat) (v0 v1 v2 v3 : Value) {F : Nat → Prop} (hF : F b) : Chg F w (set4 w b o v0 v1 v2 v3) :=
  ⟨by simp [set4, World.setCell], by simp [set4, World.setCell], by simp [set4, World.setCell], by rw [set4_size]; exact Nat.le_refl _, fun k _ hk => set4_block _ _ _ _ _ _ _ _ (fun e => hk (e ▸ hF))⟩
end Go.Proofs.YtbjghkmjnhmlfaaGreatDoor

/- Package lex: classes of bytes. -/
namespace Go.Proofs.YtbjghkmjnhmlfaaGreatDoor
open Go.RowKit


/-- the table of classes lies where it was laid -/
def clsV : List Int := [4294977024, 0, 0, 0, 0, 576460743713488896, 0, 0, 0, 134217726, 0, 0, 287948901175001088, 0, 0, 0, 287948901175001088, 576460745995190270, 0, 0, 18446744073709550591, 18446744073709551615, 18446744073709551615, 18446744073709551615]
def ClsAt (w : World) : Prop := ∀ i, i < 24 → w.cell? ⟨1, i, none⟩ = some (.int .u64 (clsV.getD i 0))

def clsB : Nat → UInt8 → Bool
  | 0 => blkB
  | 1 => smlB
  | 2 => grtB
  | 3 => digB
  | 4 => innB
  | _ => rowB

theorem cls_all : ∀ c : Fin 6, ∀ n : Fin 256, (bits BinOp.and IntKind.u64 (clsV.getD (c.1 * 4 + n.1 / 64) 0 / 2 ^ (n.1 % 64)) 1 == 1) = clsB c.1 (UInt8.ofNat n.1) := by decide +kernel
theorem cls_one {c : Nat} (b : UInt8) (hc : c < 6) : (bits BinOp.and IntKind.u64 (clsV.getD (c * 4 + b.toNat / 64) 0 / 2 ^ (b.toNat % 64)) 1 == 1) = clsB c b := by
  have := cls_all ⟨c, hc⟩ ⟨b.toNat, b.toNat_lt⟩
  simpa using this

theorem is_any (c : Nat) (b : UInt8) (w : World) (hc : c < 6) (h : ClsAt w) :
    Calls Tryz.prog 74 #[.int .i64 c, .int .u8 b.toNat] w fun e w' => e = .returned (.bool (clsB c b)) ∧ w = w' := by
  have hb : b.toNat < 256 := b.toNat_lt
  have hX := h (c * 4 + b.toNat / 64) (by omega)
  have HE := Lib.hid (cls_one b hc)
  have hX' := hX
  have h0 : c = 0 ∨ c = 1 ∨ c = 2 ∨ c = 3 ∨ c = 4 ∨ c = 5 := by omega
  clear h
  rcases h0 with rfl | rfl | rfl | rfl | rfl | rfl
  all_goals
    generalize clsV.getD _ 0 = X at hX HE
    clear hX'
    simp only [Nat.zero_mul, Nat.zero_add, Nat.reduceMul] at hX
    go_enter Tryz.func74, Tryz.ntmps74
    go_wp2_with fail
    go_ret
    exact ⟨ret_bool HE.out, rfl⟩
theorem is_be (c : Nat) (b : UInt8) (r : Bool) (w : World) (hc : c < 6) (h : ClsAt w) (hr : clsB c b = r) :
    Calls Tryz.prog 74 #[.int .i64 c, .int .u8 b.toNat] w fun e w' => e = .returned (.bool r) ∧ w' = w := (is_any c b w hc h).mono fun _ _ ⟨e, k⟩ => ⟨hr ▸ e, k.symm⟩
end Go.Proofs.YtbjghkmjnhmlfaaGreatDoor

/- Package lex: the cursor: skip. -/
namespace Go.Proofs.YtbjghkmjnhmlfaaGreatDoor
open Go.RowKit

theorem Chg.drewN {F : Nat → Prop} {a w : World} (h : Chg F a w) (n : Nat) : Chg F a (w.drewN n) := ⟨h.os, h.tape, h.output, h.size, h.block⟩
theorem Chg.alloc {F : Nat → Prop} {a w : World} (h : Chg F a w) (o : Obj) : Chg F a (w.alloc o) := h.trans (Chg.of_ext ((Ext.refl w).alloc o))
theorem Chg.set {F : Nat → Prop} {a w : World} (h : Chg F a w) {p : Addr} (hp : F p.block) (v : Value) : Chg F a (w.setCell p v) :=
  ⟨h.os, h.tape, h.output, by simpa using h.size, fun k hk hf => (Below.heap_setCell _ _ _ _ (fun e => hf (by subst e; exact hp))).trans (h.block k hk hf)⟩
/-- four cells of a block, that may be written -/
def Box4 (w : World) (g : Nat) (v0 v1 v2 v3 : Value) : Prop :=
  w.cell? ⟨g, 0, none⟩ = some v0 ∧ w.cell? ⟨g, 1, none⟩ = some v1 ∧ w.cell? ⟨g, 2, none⟩ = some v2 ∧ w.cell? ⟨g, 3, none⟩ = some v3 ∧
  w.frozen? ⟨g, 0, none⟩ = false ∧ w.frozen? ⟨g, 1, none⟩ = false ∧ w.frozen? ⟨g, 2, none⟩ = false ∧ w.frozen? ⟨g, 3, none⟩ = false
theorem Box4.same {w w' : World} {g : Nat} {v0 v1 v2 v3 : Value} (h : Box4 w g v0 v1 v2 v3) (e : w'.heap[g]? = w.heap[g]?) : Box4 w' g v0 v1 v2 v3 := by
  obtain ⟨a, b, c, d, f0, f1, f2, f3⟩ := h
  exact ⟨cell_same e a, cell_same e b, cell_same e c, cell_same e d, (World.frozen?_of_block (w := w) e).trans f0, (World.frozen?_of_block (w := w) e).trans f1, (World.frozen?_of_block (w := w) e).trans f2, (World.frozen?_of_block (w := w) e).trans f3⟩
theorem Box4.lt {w : World} {g : Nat} {v0 v1 v2 v3 : Value} (h : Box4 w g v0 v1 v2 v3) : g < w.heap.size := World.block_lt_of_cell? w _ h.1
theorem Box4.ext {w w' : World} {g : Nat} {v0 v1 v2 v3 : Value} (h : Box4 w g v0 v1 v2 v3) (k : Ext w w') : Box4 w' g v0 v1 v2 v3 := h.same (k.block g h.lt)
theorem Box4.chg {w w' : World} {F : Nat → Prop} {g : Nat} {v0 v1 v2 v3 : Value} (h : Box4 w g v0 v1 v2 v3) (k : Chg F w w') (hg : ¬ F g) : Box4 w' g v0 v1 v2 v3 := h.same (k.block g h.lt hg)
theorem Box4.new (w : World) (v0 v1 v2 v3 : Value) (t : TypeId) : Box4 (w.alloc (.cells #[v0, v1, v2, v3] t)) w.heap.size v0 v1 v2 v3 := ⟨by go_simp, by go_simp, by go_simp, by go_simp, by go_simp, by go_simp, by go_simp, by go_simp⟩
theorem Box4.set_all {w : World} {g : Nat} {v0 v1 v2 v3 : Value} (h : Box4 w g v0 v1 v2 v3) (u0 u1 u2 u3 : Value) : Box4 (set4 w g 0 u0 u1 u2 u3) g u0 u1 u2 u3 := by
  obtain ⟨a, b, c, d, f0, f1, f2, f3⟩ := h
  obtain ⟨x0, x1, x2, x3⟩ := set4_cells (o := 0) u0 u1 u2 u3 a b c d
  simp only [Nat.zero_add] at x1 x2 x3
  exact ⟨x0, x1, x2, x3, (set4_frozen w g 0 u0 u1 u2 u3 _).trans f0, (set4_frozen w g 0 u0 u1 u2 u3 _).trans f1, (set4_frozen w g 0 u0 u1 u2 u3 _).trans f2, (set4_frozen w g 0 u0 u1 u2 u3 _).trans f3⟩
theorem Box4.set01 {w : World} {g : Nat} {v0 v1 v2 v3 : Value} (h : Box4 w g v0 v1 v2 v3) (u0 u1 : Value) : Box4 ((w.setCell ⟨g, 0, none⟩ u0).setCell ⟨g, 1, none⟩ u1) g u0 u1 v2 v3 := by
  obtain ⟨a, b, c, d, f0, f1, f2, f3⟩ := h
  exact ⟨by go_simp, by go_simp, by go_simp, by go_simp, by go_simp, by go_simp, by go_simp, by go_simp⟩
theorem Box4.set02 {w : World} {g : Nat} {v0 v1 v2 v3 : Value} (h : Box4 w g v0 v1 v2 v3) (u0 u2 : Value) : Box4 ((w.setCell ⟨g, 0, none⟩ u0).setCell ⟨g, 2, none⟩ u2) g u0 v1 u2 v3 := by
  obtain ⟨a, b, c, d, f0, f1, f2, f3⟩ := h
  exact ⟨by go_simp, by go_simp, by go_simp, by go_simp, by go_simp, by go_simp, by go_simp, by go_simp⟩
theorem Box4.set0 {w : World} {g : Nat} {v0 v1 v2 v3 : Value} (h : Box4 w g v0 v1 v2 v3) (u0 : Value) : Box4 (w.setCell ⟨g, 0, none⟩ u0) g u0 v1 v2 v3 := by
  obtain ⟨a, b, c, d, f0, f1, f2, f3⟩ := h
  exact ⟨by go_simp, by go_simp, by go_simp, by go_simp, by go_simp, by go_simp, by go_simp, by go_simp⟩
theorem ClsAt.chg {w w' : World} {g : Nat} (h : ClsAt w) (k : Chg (· = g) w w') (hg : g ≠ 1) : ClsAt w' := fun i hi => k.cell (h i hi) (fun e => hg e.symm)
theorem ClsAt.ext {w w' : World} (h : ClsAt w) (k : Ext w w') : ClsAt w' := fun i hi => k.cell (h i hi)

/-- a cursor in block g: its text, how far it has gone, its marks -/
structure CurAt (w : World) (g : Nat) (s : ByteArray) (k : Nat) (b : Nat) : Prop where
  c0 : w.cell? ⟨g, 0, none⟩ = some (.string s)
  c1 : w.cell? ⟨g, 1, none⟩ = some (.int .i64 k)
  c2 : w.cell? ⟨g, 2, none⟩ = some (.map (some b))
  f1 : w.frozen? ⟨g, 1, none⟩ = false
  ne : g ≠ 1
theorem CurAt.to {w : World} {g : Nat} {s : ByteArray} {k b : Nat} (h : CurAt w g s k b) (k' : Nat) : CurAt (w.setCell ⟨g, 1, none⟩ (.int .i64 k')) g s k' b :=
  ⟨by have := h.c0; go_simp, by have := h.c1; have := h.f1; go_simp, by have := h.c2; go_simp, by have := h.f1; go_simp, h.ne⟩
theorem CurAt.ext {w w' : World} {g : Nat} {s : ByteArray} {k b : Nat} (h : CurAt w g s k b) (x : Ext w w') : CurAt w' g s k b :=
  ⟨x.cell h.c0, x.cell h.c1, x.cell h.c2, (Below.frozen x (World.block_lt_of_cell? w _ h.c1)).trans h.f1, h.ne⟩

/-- what of a text is left behind so many bytes -/
abbrev lft (s : ByteArray) (k : Nat) : List UInt8 := s.data.toList.drop k
theorem lft_cons (s : ByteArray) (k : Nat) (h : k < s.size) : lft s k = s[k] :: lft s (k + 1) := by
  unfold lft
  rw [List.drop_eq_getElem_cons (by simpa using h)]; rfl
theorem lft_len (s : ByteArray) (k : Nat) : (lft s k).length = s.size - k := by unfold lft; rw [List.length_drop]; rfl
/-- how many bytes ahead are of a class -/
def runN (p : UInt8 → Bool) (s : ByteArray) (k : Nat) : Nat := ((lft s k).takeWhile p).length
theorem runN_yes {p : UInt8 → Bool} {s : ByteArray} {k : Nat} (h : k < s.size) (hp : p s[k] = true) : runN p s k = runN p s (k + 1) + 1 := by
  unfold runN; rw [lft_cons s k h, List.takeWhile_cons_of_pos hp]; rfl
theorem runN_no {p : UInt8 → Bool} {s : ByteArray} {k : Nat} (h : k < s.size) (hp : p s[k] = false) : runN p s k = 0 := by
  unfold runN; rw [lft_cons s k h, List.takeWhile_cons_of_neg (by simp [hp])]; rfl
theorem runN_end {p : UInt8 → Bool} {s : ByteArray} {k : Nat} (h : s.size ≤ k) : runN p s k = 0 := by
  unfold runN lft; rw [List.drop_eq_nil_of_le (by simpa using h)]; rfl
theorem takeWhile_le (p : UInt8 → Bool) (l : List UInt8) : (l.takeWhile p).length ≤ l.length := by
  induction l with
  | nil => simp
  | cons c r ih => rw [List.takeWhile_cons]; split <;> simp <;> omega
theorem runN_le (p : UInt8 → Bool) {s : ByteArray} {k : Nat} (h : k ≤ s.size) : k + runN p s k ≤ s.size := by
  have h1 := takeWhile_le p (lft s k)
  rw [lft_len] at h1
  unfold runN
  omega

theorem takeWhile_take (p : UInt8 → Bool) (l : List UInt8) : l.take (l.takeWhile p).length = l.takeWhile p := by
  induction l with
  | nil => rfl
  | cons c r ih => rw [List.takeWhile_cons]; split <;> simp [ih]
theorem run_extract (p : UInt8 → Bool) {s : ByteArray} {k j : Nat} (h : k + runN p s k = j) : s.extract k j = ⟨((lft s k).takeWhile p).toArray⟩ := by
  subst h
  apply ByteArray.ext
  apply Array.ext'
  have h1 : (s.extract k (k + runN p s k)).data.toList = (s.data.toList.drop k).take (runN p s k) := by
    simp [ByteArray.data_extract, Array.toList_extract, List.extract_eq_take_drop]
  rw [h1]
  unfold runN lft
  rw [takeWhile_take]

theorem CurAt.drewN {w : World} {g : Nat} {s : ByteArray} {k b : Nat} (h : CurAt w g s k b) (n : Nat) : CurAt (w.drewN n) g s k b := h.ext ((Ext.refl w).drewN n)

set_option maxRecDepth 100000 in
set_option maxHeartbeats 1000000 in
theorem skip_any (c : Nat) (g : Nat) (s : ByteArray) (k b : Nat) (w : World) (hc : c < 6) (hC : ClsAt w) (h : CurAt w g s k b) (hk : k ≤ s.size) (hs : s.size ≤ 4000) :
    Calls Tryz.prog 72 #[.pointer (some ⟨g, 0, none⟩), .int .i64 c] w fun e w' => e = .returned (.string ⟨((lft s k).takeWhile (clsB c)).toArray⟩) ∧ CurAt w' g s (k + runN (clsB c) s k) b ∧ Chg (· = g) w w' := by
  have hc0 := h.c0
  have hc1 := h.c1
  go_enter Tryz.func72, Tryz.ntmps72
  go_wp2_with fail
  go_loopg [] (s.size - k) (fun n wr => ∃ j, k ≤ j ∧ j + n = s.size ∧ Hid (k + runN (clsB c) s k = j + runN (clsB c) s j) ∧ Hid (CurAt wr g s j b) ∧ Chg (· = g) w wr)
  case atStart => exact ⟨k, by omega, by omega, Lib.hid rfl, Lib.hid h, Chg.refl _ _⟩
  case round =>
    obtain ⟨j, hkj, hj, HR, HC, hx⟩ := hrel
    have hcls := Lib.hid (hC.chg hx h.ne)
    have d0 := HC.out.c0
    have d1 := HC.out.c1
    have d2 := HC.out.f1
    by_cases hlt : j < s.size
    · have hl : decide ((j : Int) < (s.size : Int)) = true := decide_eq_true (by omega)
      have j0 : (0 : Int) ≤ (j : Int) := Int.natCast_nonneg _
      by_cases hb : clsB c s[j] = true
      · have HB := Lib.hid hb
        have RN := Lib.hid (runN_yes hlt hb)
        go_wp2_with fail
        go_quiet ((go_at_call 74; exact Calls.quiet_of_same (is_be c s[j] true _ hc (hcls.out.ext ((Ext.refl _).drewN _)) hb)))
        go_wp2_with fail
        go_roundg (gk - 1)
        case rel =>
          exact ⟨j + 1, by omega, by omega, Lib.hid (by rw [HR.out, RN.out]; omega), Lib.hid (by have := (HC.out.drewN nq).to (j + 1); rw [Int.natCast_add] at this; exact this), (hx.drewN nq).set rfl _⟩
        case measure => omega
      · have hb' : clsB c s[j] = false := by simpa using hb
        have RN : Hid (k + runN (clsB c) s k = j) := Lib.hid (by rw [HR.out, runN_no hlt hb']; rfl)
        go_wp2_with fail
        go_quiet ((go_at_call 74; exact Calls.quiet_of_same (is_be c s[j] false _ hc (hcls.out.ext ((Ext.refl _).drewN _)) hb')))
        go_wp2_with fail
        go_quiet (fail)
        go_wp2_with fail
        go_ret
        exact ⟨congrArg (fun v => Ending.returned (.string v)) (run_extract _ RN.out), by rw [RN.out]; exact (HC.out.drewN _).drewN _, (hx.drewN _).drewN _⟩
    · have hl : decide ((j : Int) < (s.size : Int)) = false := decide_eq_false (by omega)
      have RN : Hid (k + runN (clsB c) s k = j) := Lib.hid (by rw [HR.out, runN_end (by omega)]; rfl)
      go_wp2_with fail
      go_quiet (fail)
      go_wp2_with fail
      go_quiet (fail)
      go_wp2_with fail
      go_ret
      exact ⟨congrArg (fun v => Ending.returned (.string v)) (run_extract _ RN.out), by rw [RN.out]; exact (HC.out.drewN _).drewN _, (hx.drewN _).drewN _⟩
end Go.Proofs.YtbjghkmjnhmlfaaGreatDoor

/- Package lex: the cursor: sees, seesMinus, pass. -/
namespace Go.Proofs.YtbjghkmjnhmlfaaGreatDoor
open Go.RowKit

def headIs (s : ByteArray) (k : Nat) (x : UInt8) : Bool := match lft s k with
  | [] => false
  | c :: _ => c == x
theorem headIs_in {s : ByteArray} {k : Nat} (h : k < s.size) (x : UInt8) : headIs s k x = (s[k] == x) := by unfold headIs; rw [lft_cons s k h]
theorem headIs_end {s : ByteArray} {k : Nat} (h : s.size ≤ k) (x : UInt8) : headIs s k x = false := by
  unfold headIs lft; rw [List.drop_eq_nil_of_le (by simpa using h)]
theorem u8_beq (a b : UInt8) : (((a.toNat : Nat) : Int) == ((b.toNat : Nat) : Int)) = (a == b) := by
  rw [Bool.eq_iff_iff, beq_iff_eq, beq_iff_eq]
  constructor
  · intro h; exact UInt8.toNat_inj.1 (by omega)
  · intro h; rw [h]
theorem drewN_add (w : World) (a b : Nat) : (w.drewN a).drewN b = w.drewN (a + b) := by
  simp [World.drewN, Nat.add_assoc]

set_option maxHeartbeats 1000000 in
theorem sees_any (x : UInt8) (g : Nat) (s : ByteArray) (k b : Nat) (w : World) (h : CurAt w g s k b) (hs : s.size ≤ 4000) :
    Calls Tryz.prog 73 #[.pointer (some ⟨g, 0, none⟩), .int .u8 x.toNat] w fun e w' => e = .returned (.bool (headIs s k x)) ∧ ∃ n, w' = w.drewN n := by
  have hc0 := h.c0
  have hc1 := h.c1
  have _ := hs
  by_cases hlt : k < s.size
  · have hl : decide ((k : Int) < (s.size : Int)) = true := decide_eq_true (by omega)
    have j0 : (0 : Int) ≤ (k : Int) := Int.natCast_nonneg _
    have HE := Lib.hid ((u8_beq s[k] x).trans (headIs_in hlt x).symm)
    go_enter Tryz.func73, Tryz.ntmps73
    go_wp2_with fail
    go_quiet (fail)
    go_wp2_with fail
    go_ret
    exact ⟨ret_bool HE.out, _, rfl⟩
  · have hl : decide ((k : Int) < (s.size : Int)) = false := decide_eq_false (by omega)
    have HE := Lib.hid (headIs_end (s := s) (k := k) (by omega) x)
    go_enter Tryz.func73, Tryz.ntmps73
    go_wp2_with fail
    go_quiet (fail)
    go_wp2_with fail
    go_ret
    exact ⟨by rw [HE.out]; rfl, _, rfl⟩
theorem sees_be (x : UInt8) (g : Nat) (s : ByteArray) (k b : Nat) (r : Bool) (w : World) (h : CurAt w g s k b) (hs : s.size ≤ 4000) (hr : headIs s k x = r) (n : Nat) :
    Calls Tryz.prog 73 #[.pointer (some ⟨g, 0, none⟩), .int .u8 x.toNat] (w.drewN n) fun e w' => e = .returned (.bool r) ∧ ∃ n, w' = w.drewN n :=
  (sees_any x g s k b _ (h.drewN n) hs).mono fun _ _ ⟨e, m, k⟩ => ⟨hr ▸ e, n + m, k.trans (drewN_add _ _ _)⟩

theorem sees_any' (x : UInt8) (g : Nat) (s : ByteArray) (k b : Nat) (r : Bool) (w : World) (h : CurAt w g s k b) (hs : s.size ≤ 4000) (hr : headIs s k x = r) :
    Calls Tryz.prog 73 #[.pointer (some ⟨g, 0, none⟩), .int .u8 x.toNat] w fun e w' => e = .returned (.bool r) ∧ ∃ n, w' = w.drewN n :=
  (sees_any x g s k b _ h hs).mono fun _ _ ⟨e, k⟩ => ⟨hr ▸ e, k⟩

/-- a - with a digit right behind it -/
def minB (s : ByteArray) (k : Nat) : Bool := match lft s k with
  | [] => false
  | c :: r => c == 45 && digB (r.headD 0)

set_option maxHeartbeats 1000000 in
theorem minus_any (g : Nat) (s : ByteArray) (k b : Nat) (w : World) (hC : ClsAt w) (h : CurAt w g s k b) (hs : s.size ≤ 4000) :
    Calls Tryz.prog 76 #[.pointer (some ⟨g, 0, none⟩)] w fun e w' => e = .returned (.bool (minB s k)) ∧ ∃ n, w' = w.drewN n := by
  have hc0 := h.c0
  have hc1 := h.c1
  have HS := fun r hr n => Lib.hid (sees_be 45 g s k b r w h hs hr n)
  cases hb : headIs s k 45 with
  | false =>
    have HE : Hid (minB s k = false) := Lib.hid (by
      unfold headIs at hb; unfold minB
      cases hl : lft s k with
      | nil => rfl
      | cons c r => rw [hl] at hb; simp only at hb ⊢; rw [hb]; rfl)
    have KS := HS false hb
    go_enter Tryz.func76, Tryz.ntmps76
    go_wp2_with fail
    go_quiet ((go_at_call 73; exact (KS _).out))
    go_wp2_with fail
    go_ret
    exact ⟨by rw [HE.out]; rfl, _, rfl⟩
  | true =>
    have KS := HS true hb
    have hk : k < s.size := by
      rcases Nat.lt_or_ge k s.size with h | h
      · exact h
      · rw [headIs_end h] at hb; cases hb
    have hk1 : s[k] == 45 := by rw [← headIs_in hk]; exact hb
    by_cases h2 : k + 1 < s.size
    · obtain ⟨m, hm⟩ : ∃ m, m = k + 1 := ⟨_, rfl⟩
      have hmk : m < s.size := by omega
      have hl : decide ((m : Int) < (s.size : Int)) = true := decide_eq_true (by omega)
      have j0 : (0 : Int) ≤ (m : Int) := by omega
      have hw1 : IntKind.i64.wrap ((k : Int) + 1) = (m : Int) := by rw [IntKind.wrap_i64]; omega
      have HE : Hid (minB s k = clsB 3 s[m]) := Lib.hid (by
        unfold minB
        rw [lft_cons s k hk, ← hm, lft_cons s m hmk]
        simp only [hk1, Bool.true_and, List.headD_cons]; rfl)
      generalize hd : clsB 3 s[m] = D at HE
      have KI := fun n => Lib.hid (Calls.quiet_of_same (n := n) (is_be 3 s[m] D _ (by omega) (hC.ext ((Ext.refl _).drewN n)) hd))
      clear hb hk1 HS hd hm
      go_enter Tryz.func76, Tryz.ntmps76
      go_wp2_with fail
      go_quiet (first
        | (go_at_call 73; exact (KS _).out)
        | (go_at_call 74; exact (KI _).out))
      go_wp2_with fail
      go_ret
      exact ⟨by rw [HE.out]; rfl, _, rfl⟩
    · have hl : decide ((k : Int) + 1 < (s.size : Int)) = false := decide_eq_false (by omega)
      have hw1 : IntKind.i64.wrap ((k : Int) + 1) = (k : Int) + 1 := by rw [IntKind.wrap_i64]; omega
      have HE : Hid (minB s k = false) := Lib.hid (by
        unfold minB
        rw [lft_cons s k hk, show lft s (k + 1) = [] from List.drop_eq_nil_of_le (by simpa using h2)]
        simp only [List.headD_nil]
        rw [Bool.and_eq_false_iff]; exact .inr rfl)
      clear hb hk1 HS
      go_enter Tryz.func76, Tryz.ntmps76
      go_wp2_with fail
      go_quiet (first
        | (go_at_call 73; exact (KS _).out))
      go_wp2_with fail
      go_ret
      exact ⟨by rw [HE.out]; rfl, _, rfl⟩

theorem lft_run (p : UInt8 → Bool) (s : ByteArray) (k : Nat) : lft s (k + runN p s k) = (lft s k).dropWhile p := by
  have h : ∀ l : List UInt8, l.drop (l.takeWhile p).length = l.dropWhile p := by
    intro l
    induction l with
    | nil => rfl
    | cons c r ih => rw [List.takeWhile_cons, List.dropWhile_cons]; split <;> simp [ih]
  unfold runN
  rw [← h (lft s k)]
  unfold lft
  rw [List.drop_drop]
theorem passL_blk (l : List UInt8) : passL false (l.dropWhile blkB) = passL false l := by
  induction l with
  | nil => rfl
  | cons c r ih => rw [List.dropWhile_cons]; split
                   · rename_i h; rw [ih]; simp only [passL, h, if_true]
                   · rfl
theorem passL_row (l : List UInt8) : passL false (l.dropWhile rowB) = passL true l := by
  induction l with
  | nil => rfl
  | cons c r ih =>
    rw [List.dropWhile_cons]; split
    · rename_i h
      rw [ih]
      have : (c == 10) = false := by simpa [rowB] using h
      simp only [passL, this]; rfl
    · rename_i h
      have : (c == 10) = true := by simpa [rowB] using h
      have hb : blkB c = true := by rw [beq_iff_eq.1 this]; rfl
      simp only [passL, this, hb, if_true]
theorem head_run (p : UInt8 → Bool) (s : ByteArray) (k : Nat) : ∀ c r, lft s (k + runN p s k) = c :: r → p c = false := by
  rw [lft_run]
  generalize lft s k = l
  induction l with
  | nil => intro c r h; cases h
  | cons a t ih =>
    intro c r
    rw [List.dropWhile_cons]; split
    · exact ih c r
    · rename_i h; intro e; cases e; simpa using h
/-- a remark, and the blanks behind it -/
theorem passL_remark {s : ByteArray} {k : Nat} (h : headIs s k 37 = true) : passL false (lft s (k + runN rowB s k + runN blkB s (k + runN rowB s k))) = passL false (lft s k) ∧ k + 1 ≤ k + runN rowB s k := by
  unfold headIs at h
  have hk : k < s.size := by
    rcases Nat.lt_or_ge k s.size with h' | h'
    · exact h'
    · rw [show lft s k = [] from List.drop_eq_nil_of_le (by simpa using h')] at h; cases h
  rw [lft_cons s k hk] at h
  simp only at h
  have e : s[k] = 37 := beq_iff_eq.1 h
  have hr : rowB s[k] = true := by rw [e]; rfl
  have hb : blkB s[k] = false := by rw [e]; rfl
  have hn : (s[k] == 10) = false := by rw [e]; rfl
  refine ⟨?_, by rw [runN_yes hk hr]; omega⟩
  rw [lft_run, passL_blk, lft_run, passL_row, lft_cons s k hk]
  simp only [passL, hb, hn, h, if_true, Bool.false_eq_true, if_false]
/-- neither a blank nor a remark stands here -/
theorem passL_stay {s : ByteArray} {k : Nat} (h : headIs s k 37 = false) (hb : ∀ c r, lft s k = c :: r → blkB c = false) : passL false (lft s k) = lft s k := by
  unfold headIs at h
  cases hl : lft s k with
  | nil => rfl
  | cons c r =>
    rw [hl] at h
    simp only at h
    simp only [passL, hb c r hl, h]
    rfl

set_option maxRecDepth 100000 in
set_option maxHeartbeats 1000000 in
theorem pass_any (g : Nat) (s : ByteArray) (k b : Nat) (w : World) (hC : ClsAt w) (h : CurAt w g s k b) (hk : k ≤ s.size) (hs : s.size ≤ 4000) :
    Calls Tryz.prog 47 #[.pointer (some ⟨g, 0, none⟩)] w fun e w' => e = .returned (.tuple #[]) ∧ ∃ j, k ≤ j ∧ j ≤ s.size ∧ lft s j = passL false (lft s k) ∧ CurAt w' g s j b ∧ Chg (· = g) w w' := by
  have hg := h.ne
  go_enter Tryz.func47, Tryz.ntmps47
  go_wp2_with fail
  refine (skip_any 0 g s k b _ (by omega) hC h hk hs).mono ?_
  rintro e w1 ⟨rfl, h1, hx1⟩
  have P1 := Lib.hid ((lft_run blkB s k) ▸ passL_blk (lft s k))
  have Q1 := Lib.hid (head_run blkB s k)
  have l1 := runN_le blkB hk
  have l0 : k ≤ k + runN blkB s k := by omega
  change CurAt w1 g s (k + runN blkB s k) b at h1
  generalize k + runN blkB s k = k1 at *
  go_wp2_with fail
  go_loopg [] (s.size - k1) (fun n wr => ∃ j, k ≤ j ∧ j + n = s.size ∧ Hid (passL false (lft s j) = passL false (lft s k)) ∧ Hid (∀ c r, lft s j = c :: r → blkB c = false) ∧ Hid (CurAt wr g s j b) ∧ Chg (· = g) w wr)
  case atStart => exact ⟨k1, by omega, by omega, P1, Q1, Lib.hid h1, hx1⟩
  case round =>
    obtain ⟨j, hkj, hj, HP, HQ, HC, hx⟩ := hrel
    have HS := fun r hr => Lib.hid (sees_any' 37 g s j b r wr HC.out hs hr)
    have hcls := Lib.hid (hC.chg hx hg)
    cases hb : headIs s j 37 with
    | false =>
      have KS := HS false hb
      have FIN := Lib.hid ((passL_stay hb HQ.out).symm.trans HP.out)
      clear HS hb
      go_wp2_with (go_at_call 73; refine KS.out.mono ?_; rintro e w2 ⟨rfl, n2, rfl⟩)
      go_end0
      exact ⟨rfl, j, by omega, by omega, FIN.out, HC.out.drewN _, hx.drewN _⟩
    | true =>
      have KS := HS true hb
      obtain ⟨hr1, hr2⟩ := passL_remark hb
      have HR1 := Lib.hid (hr1.trans HP.out)
      clear HS hb hr1
      go_wp2_with (go_at_call 73; refine KS.out.mono ?_; rintro e w2 ⟨rfl, n2, rfl⟩)
      refine (skip_any 5 g s j b _ (by omega) (hcls.out.ext ((Ext.refl _).drewN _)) (HC.out.drewN _) (by omega) hs).mono ?_
      rintro e w3 ⟨rfl, h3, hx3⟩
      have hx3' : Chg (· = g) w w3 := (hx.drewN _).trans hx3
      have l3 := runN_le rowB (s := s) (k := j) (by omega)
      have Q3 := Lib.hid (head_run blkB s (j + runN rowB s j))
      change CurAt w3 g s (j + runN rowB s j) b at h3
      generalize j + runN rowB s j = j3 at *
      have H3 := Lib.hid h3
      clear h3
      go_wp2_with fail
      refine (skip_any 0 g s j3 b _ (by omega) (hC.chg hx3' hg) H3.out (by omega) hs).mono ?_
      rintro e w4 ⟨rfl, h4, hx4⟩
      have l4 := runN_le blkB (s := s) (k := j3) (by omega)
      change CurAt w4 g s (j3 + runN blkB s j3) b at h4
      have l5 : j3 ≤ j3 + runN blkB s j3 := by omega
      generalize j3 + runN blkB s j3 = j4 at *
      have H4 := Lib.hid h4
      clear h4
      go_wp2_with fail
      go_roundg (s.size - j4)
      case rel => exact ⟨j4, by omega, by omega, HR1, Q3, H4, hx3'.trans hx4⟩
      case measure => omega
end Go.Proofs.YtbjghkmjnhmlfaaGreatDoor

/- Package lex: words: strings.Clone, word. -/
namespace Go.Proofs.YtbjghkmjnhmlfaaGreatDoor
open Go.RowKit

theorem clone_any (s : ByteArray) (w : World) (hs : s.size ≤ 4000) : Calls Tryz.prog 93 #[.string s] w fun e w' => e = .returned (.string s) ∧ Ext w w' := by
  have K := fun u => Lib.hid (AnyPu.stringslite_Clone layClone s u (by omega))
  go_enter Tryz.func93, Tryz.ntmps93
  go_wp2_with fail
  refine (K _).out.mono ?_
  rintro e w1 ⟨rfl, hx⟩
  go_wp2_with fail
  go_ret
  exact ⟨rfl, hx⟩

theorem skip_tx (c : Nat) (p : UInt8 → Bool) (hp : clsB c = p) (g : Nat) (s : ByteArray) (k b : Nat) (w : World) (hc : c < 6) (hC : ClsAt w) (h : CurAt w g s k b) (hk : k ≤ s.size) (hs : s.size ≤ 4000) :
    Calls Tryz.prog 72 #[.pointer (some ⟨g, 0, none⟩), .int .i64 c] w fun e w' => ∃ tx, e = .returned (.string tx) ∧ Hid (tx = ⟨((lft s k).takeWhile p).toArray⟩) ∧ tx.size = runN p s k ∧ CurAt w' g s (k + runN p s k) b ∧ Chg (· = g) w w' :=
  hp ▸ (skip_any c g s k b w hc hC h hk hs).mono fun _ _ ⟨e, x, y⟩ => ⟨_, e, Lib.hid rfl, by unfold runN; simp [ByteArray.size], x, y⟩

/-- a word's value -/
abbrev Tok.val (t : Tok) : Value := .agg #[.int .i64 t.kind, .string t.text, .int .i64 t.n, .int .i64 t.at_]
abbrev tok0 : Tok := ⟨0, ⟨#[]⟩, 0, 0⟩

/-- what a call tells: a word and nothing wrong, the cursor behind it; or what is wrong -/
def TokOut (s : ByteArray) (g b : Nat) (w : World) (r : Sum Int (Tok × Nat)) (e : Ending) (w' : World) : Prop := Chg (· = g) w w' ∧ match r with
  | .inl x => e = .returned (.tuple #[tok0.val, .int .i64 x])
  | .inr (t, k) => e = .returned (.tuple #[t.val, .int .i64 0]) ∧ CurAt w' g s k b

theorem Chg.fresh {F : Nat → Prop} {w wz wy : World} (h : Chg F w wz) (k : Chg (· = w.heap.size) wz wy) : Chg F w wy :=
  ⟨k.os.trans h.os, k.tape.trans h.tape, k.output.trans h.output, Nat.le_trans h.size k.size, fun i hi hf => (k.block i (Nat.lt_of_lt_of_le hi h.size) (by omega)).trans (h.block i hi hf)⟩
theorem CurAt.same {w w' : World} {g : Nat} {s : ByteArray} {k b : Nat} (h : CurAt w g s k b) (e : w'.heap[g]? = w.heap[g]?) : CurAt w' g s k b :=
  ⟨cell_same e h.c0, cell_same e h.c1, cell_same e h.c2, (World.frozen?_of_block (w := w) e).trans h.f1, h.ne⟩
theorem out_ok {s : ByteArray} {g b k : Nat} {w wz : World} {r : Sum Int (Tok × Nat)} {t : Tok} {v0 v1 v2 v3 : Value} (hR : r = .inr (t, k)) (hc : Chg (· = g) w wz) (H : CurAt wz g s k b) (hg : g < w.heap.size) :
    TokOut s g b w r (.returned (.tuple #[t.val, .int .i64 0])) (set4 wz w.heap.size 0 v0 v1 v2 v3) := by
  subst hR
  exact ⟨hc.fresh (set4_chg _ _ _ _ _ _ _ rfl), rfl, H.same (set4_block _ _ _ _ _ _ _ _ (by omega))⟩
theorem out_bad {s : ByteArray} {g b : Nat} {w wz : World} {r : Sum Int (Tok × Nat)} {x : Int} {v0 v1 v2 v3 : Value} (hR : r = .inl x) (hc : Chg (· = g) w wz) :
    TokOut s g b w r (.returned (.tuple #[tok0.val, .int .i64 x])) (set4 wz w.heap.size 0 v0 v1 v2 v3) := by
  subst hR
  exact ⟨hc.fresh (set4_chg _ _ _ _ _ _ _ rfl), rfl⟩

def wordR (K : Int) (s : ByteArray) (k : Nat) : Sum Int (Tok × Nat) :=
  if ((lft s k).takeWhile innB).length ≤ 16 then .inr (⟨K, ⟨((lft s k).takeWhile innB).toArray⟩, 0, 0⟩, k + runN innB s k) else .inl 2

set_option maxHeartbeats 1000000 in
theorem lword_any (K : Int) (g : Nat) (s : ByteArray) (k b : Nat) (w : World) (hC : ClsAt w) (h : CurAt w g s k b) (hk : k ≤ s.size) (hs : s.size ≤ 4000) :
    Calls Tryz.prog 75 #[.pointer (some ⟨g, 0, none⟩), .int .i64 K] w (TokOut s g b w (wordR K s k)) := by
  have hgl := World.block_lt_of_cell? w _ h.c0
  simp only at hgl
  have hne : w.heap.size ≠ g := by omega
  by_cases h16 : ((lft s k).takeWhile innB).length ≤ 16
  · have HR : Hid (wordR K s k = .inr (⟨K, ⟨((lft s k).takeWhile innB).toArray⟩, 0, 0⟩, k + runN innB s k)) := Lib.hid (by unfold wordR; rw [if_pos h16])
    have hn : runN innB s k ≤ 16 := h16
    clear h16
    go_enter Tryz.func75, Tryz.ntmps75
    go_wp2_with fail
    refine (skip_tx 4 innB rfl g s k b _ (by omega) (hC.ext ((Ext.refl _).alloc _)) (h.ext ((Ext.refl _).alloc _)) hk hs).mono ?_
    rintro e w1 ⟨tx, rfl, HX, hsz, h1, hx1⟩
    have hsz' : decide ((16 : Int) < (tx.size : Int)) = false := decide_eq_false (by omega)
    have hx01 : Chg (· = g) w w1 := (Chg.of_ext ((Ext.refl w).alloc _)).trans hx1
    have HB := Lib.hid ((Box4.new w (.int .i64 0) (.string ⟨#[]⟩) (.int .i64 0) (.int .i64 0) 54).chg hx1 hne)
    have H1 := Lib.hid h1
    clear h1 hx1
    go_wp2_with fail
    refine (clone_any tx _ (by omega)).mono ?_
    rintro e w2 ⟨rfl, hx2⟩
    have HB2 := Lib.hid (HB.out.ext hx2)
    obtain ⟨b0, b1, b2, b3, f0, f1, f2, f3⟩ := HB2.out
    have H2 := Lib.hid (H1.out.ext hx2)
    go_wp2_with fail
    refine bodyPost_ret (v := .tuple #[Tok.val ⟨K, tx, 0, 0⟩, .int .i64 0]) (by simp [results, Tryz.results75, go_sem, *]) rfl ?_
    exact out_ok (by rw [HR.out, HX.out]) ((hx01.trans (Chg.of_ext hx2))) H2.out hgl
  · have HR : Hid (wordR K s k = .inl 2) := Lib.hid (by unfold wordR; rw [if_neg h16])
    have hn : 16 < runN innB s k := by unfold runN; omega
    clear h16
    go_enter Tryz.func75, Tryz.ntmps75
    go_wp2_with fail
    refine (skip_tx 4 innB rfl g s k b _ (by omega) (hC.ext ((Ext.refl _).alloc _)) (h.ext ((Ext.refl _).alloc _)) hk hs).mono ?_
    rintro e w1 ⟨tx, rfl, HX, hsz, h1, hx1⟩
    have hsz' : decide ((16 : Int) < (tx.size : Int)) = true := decide_eq_true (by omega)
    have hx01 : Chg (· = g) w w1 := (Chg.of_ext ((Ext.refl w).alloc _)).trans hx1
    have HB := Lib.hid ((Box4.new w (.int .i64 0) (.string ⟨#[]⟩) (.int .i64 0) (.int .i64 0) 54).chg hx1 hne)
    obtain ⟨b0, b1, b2, b3, f0, f1, f2, f3⟩ := HB.out
    clear h1 hx1
    go_wp2_with fail
    refine bodyPost_ret (v := .tuple #[tok0.val, .int .i64 2]) (by simp [results, Tryz.results75, go_sem, *]) rfl ?_
    exact out_bad HR.out hx01
end Go.Proofs.YtbjghkmjnhmlfaaGreatDoor
