/- Open and Append where the disk may be cut; the look at a copy of the disk. -/
import Derived.Test.YtjbifbfhlmdlbaaJCut
import Derived.Test.YtjbifbfhlmdlbaaJHolds
import Derived.Test.YtjbifbfhlmdlbaaJDone
import Derived.Test.YtjbifbfhlmdlbaaJWakes
namespace Go.Proofs.Ytjbifbfhlmdlbaa
open Go.RowKit

theorem fNm_name : nameB fNm.data.toList = true := by decide

/-- Open of a disk that is not cut now -/
theorem cg_open (w : World) (d : Nat) (S : DG) (G : Nat → Prop) (ds : List (List UInt8)) (dead : Bool) (hd : IsDisk w d S G) (hg : CG S fNm.data.toList ds dead) (hc : S.cut = false) (hbig : (fileB ds).length ≤ 1000000) (hw : S.wr < 4000000000000000000) :
    Calls Try.prog 12 #[.pointer (some ⟨d, 0, none⟩), .string fNm] w fun e w' => ∃ j F G', e = .returned (.tuple #[.pointer (some ⟨j, 0, none⟩), .int .i64 0]) ∧ JAt w' j d fNm ds (fileB ds).length false F ∧ IsDisk w' d (S.opened fNm.data.toList).1 G' ∧ (∀ k, F k → w.heap.size ≤ k) ∧ (∀ k, F k → ¬ G' k) ∧ (∀ k, G' k → G k ∨ w.heap.size ≤ k) ∧ Turn G w w' := by
  have hl := hg.len
  have hn := hg.n
  obtain ⟨h0, _, _, _⟩ := hg.opened hc
  refine (jopen_any w d S G fNm hd (by decide) (by omega) (by omega) (by unfold maxLen; omega)).mono ?_
  rintro e w' ⟨hT, G', hd', hG', hcase⟩
  rw [hg.parse] at hcase
  rcases hcase with ⟨h1, _⟩ | ⟨_, j, F, he, hJ, hF, hFG⟩
  · exact absurd h0 h1
  · exact ⟨j, F, G', he, hJ, hd', hF, hFG, hG', hT⟩

set_option maxRecDepth 20000 in
set_option maxHeartbeats 2000000 in
/-- the records of a copy of the disk, opened -/
theorem kept_any (w : World) (d : Nat) (S : DG) (G : Nat → Prop) (ds : List (List UInt8)) (dead : Bool) (hd : IsDisk w d S G) (hg : CG S fNm.data.toList ds dead) (hbig : (fileB ds).length ≤ 1000000) (a : Option Addr) (n c : Nat) (hsl : Slices w a n ds) (hn : n = ds.length) :
    Calls Try.prog 25 #[.pointer (some ⟨d, 0, none⟩), .slice a n c] w fun e w' => e = .returned (.bool true) ∧ Below w.heap.size w w' := by
  have hl := hg.len
  have hx1 := copy_any d S G w hd (fun l bs hf => by
    by_cases e : l = fNm.data.toList
    · subst e
      have : S.bs fNm.data.toList = bs := by unfold DG.bs; rw [hf]; rfl
      rw [this] at hl
      omega
    · rw [hg.only l e] at hf; cases hf) (by have := hg.n; omega)
  have hgc : CG S.copy fNm.data.toList ds dead := hg.same rfl rfl
  have Hsl : Hid (Slices w a n ds) := hsl
  have Hn : Hid (n = ds.length) := hn
  clear hsl hn hd
  go_enter Try.func25, Try.ntmps25
  go_wp2_with fail
  refine hx1.mono ?_
  clear hx1
  rintro e w1 ⟨q, rfl, hd1, B1⟩
  have hx2 := cg_open w1 q S.copy _ ds dead hd1 hgc rfl hbig (by show 0 < _; omega)
  clear hd1
  rw [show (Value.string fNm) = .string ⟨#[102]⟩ from rfl] at hx2
  go_wp2_with fail
  refine hx2.mono ?_
  clear hx2
  rintro e w2 ⟨j, F, G', rfl, hJ, _, _, _, _, hT2⟩
  have B2 : Below w.heap.size w w2 := B1.trans (hT2.below B1.size (fun k hk => hk.elim (fun h => h.elim) (fun h => h.1)))
  have hx3 := holds_any w2 j _ fNm ds _ false F hJ a c (by rw [← Hn.out]; exact Hsl.out.turn B2)
  rw [← Hn.out] at hx3
  have HB2 : Hid (Below w.heap.size w w2) := B2
  clear hJ hT2 B1 B2
  go_wp2_with fail
  refine hx3.mono ?_
  clear hx3
  rintro e w3 ⟨rfl, B3⟩
  go_wp2
  go_ret
  exact ⟨rfl, HB2.out.trans (B3.mono HB2.out.size)⟩

end Go.Proofs.Ytjbifbfhlmdlbaa
