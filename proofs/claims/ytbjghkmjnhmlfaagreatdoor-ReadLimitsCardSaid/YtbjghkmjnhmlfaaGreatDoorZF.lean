/- Joined: Phz, Phu. -/
import Derived.Test.YtbjghkmjnhmlfaaGreatDoorZC
import Derived.Test.YtbjghkmjnhmlfaaGreatDoorPhx
import Derived.Test.YtbjghkmjnhmlfaaGreatDoorPhya
import Derived.Test.YtbjghkmjnhmlfaaGreatDoorPhyb
import Derived.Test.YtbjghkmjnhmlfaaGreatDoorYY

/- The page's reader: guard, behind an error. -/
namespace Go.Proofs.YtbjghkmjnhmlfaaGreatDoor
open Go.RowKit

set_option maxRecDepth 100000 in
set_option maxHeartbeats 4000000 in
theorem guard_er {w : World} {g A c : Nat} {T : List Tok} {i : Nat} {e0 a d : Int} (h : PgAt w g A c T i e0 a d) (he : e0 ≠ 0) :
    Calls Tryz.prog 39 #[.pointer (some ⟨g, 0, none⟩)] w fun e w' => e = .returned (.agg zeroG.toArray) ∧ Ext w w' := by
  obtain ⟨w0, hw0⟩ : ∃ w0, w0 = w.alloc (.cells #[.int .i64 0, .int .i64 0, .string ⟨#[]⟩, .int .i64 0, .slice none 0 0, .int .i64 0, .string ⟨#[]⟩, .int .i64 0, .slice none 0 0] 95) := ⟨_, rfl⟩
  have hr0 : Box9 w0 w.heap.size zeroG := by rw [hw0]; exact Box9.new w _ _ rfl
  have hx0 : Ext w w0 := by rw [hw0]; exact (Ext.refl _).alloc _
  have c2 := (h.ext hx0).c2
  have q : (e0 != 0) = true := by simp [he]
  have HW0 := Lib.hid hw0
  obtain ⟨y0, y1, y2, y3, y4, y5, y6, y7, y8⟩ := hr0.get
  obtain ⟨z0, z1, z2, z3, z4, z5, z6, z7, z8⟩ := hr0.fzs
  have hrl := hr0.lt
  clear hw0 h hr0 he
  go_enter Tryz.func39, Tryz.ntmps39
  go_upto_region 1 with (fail)
  rw [← HW0.out]
  go_wp2_with fail
  refine bodyPost_ret (v := .agg zeroG.toArray) (by simp [results, Tryz.results39, go_sem, *]) rfl ?_
  exact ⟨rfl, ext_setCells zeroG 0 w0 (by omega) hx0⟩
/-- .. as what guard comes to -/
theorem gd_er {w w' : World} {g A c : Nat} {T : List Tok} {i : Nat} {x q d : Int} (a : Int) (h : PgAt w g A c T i x q d) (hx : x ≠ 0) {e : Ending} (he : e = .returned (.agg zeroG.toArray)) (k : Ext w w') : GdTo w g A c T a (.error (q, x)) e w' :=
  ⟨Chg.of_ext k, hx, ⟨zeroG, ⟨_, _, _, _, _, _, _, _, _, _, _, _, _, rfl⟩, he⟩, i, d, h.ext k⟩
end Go.Proofs.YtbjghkmjnhmlfaaGreatDoor

/- The page's reader: guard, from either state. -/
namespace Go.Proofs.YtbjghkmjnhmlfaaGreatDoor
open Go.RowKit

theorem gd_gs {T : List Tok} (hG : ToksG T) {w : World} {g A c : Nat} {a : Int} {S : Rs Unit} (h : Gs w g A c T a 0 S) :
    Calls Tryz.prog 39 #[.pointer (some ⟨g, 0, none⟩)] w (GdTo w g A c T a (thenS S (guardQ T))) := by
  match S, h with
  | .ok (_, j), h =>
    show Calls _ _ _ w (GdTo w g A c T a (guardQ T j))
    by_cases h19 : rl T j = 19
    · cases hn : isName (rl T (j + 1)) with
      | true => exact guard_word5 hG h h19 hn
      | false => exact guard_rest5 hG h h19 hn
    · by_cases h20 : rl T j = 20
      · cases hn : isName (rl T (j + 1)) with
        | true => exact guard_word6 hG h h20 hn
        | false => exact guard_rest6 hG h h20 hn
      · exact guard_rest0 hG h h19 h20
  | .error (q, x), ⟨hx, i', d', hE⟩ => exact (guard_er hE hx).mono fun e w' ⟨he, k⟩ => gd_er a hE hx he k
end Go.Proofs.YtbjghkmjnhmlfaaGreatDoor
