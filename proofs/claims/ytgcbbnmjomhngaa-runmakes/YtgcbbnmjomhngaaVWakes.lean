/- The law's wakes. -/
import Derived.Test.YtgcbbnmjomhngaaVFind
namespace Go.Proofs.Ytgcbbnmjomhngaa
open Go.RowKit Go.Shelf Go.Maps Go.Lib

attribute [local go_sem] Oper.semAt_some

/-- the bytes that Make answers, as a slice -/
theorem own_slice {w : World} {B n c : Nat} {ad : Option Addr} {l : List UInt8} (h : w.ownsRow B 5 1 (.slice ad n c) n (cellsOf l)) : Bytes w ad n l ∧ (ad = none → n = 0 ∧ c = 0) ∧ n ≤ c := by
  obtain ⟨ad', c', e, h1, h2⟩ := vrow_shape h
  cases e
  exact ⟨vrow_bytes h, h2, h1⟩
def wakeL : List Pr := [(7, 0), (3, 9)]
theorem wake_make {w w' : World} {v : Value} {er : Int} (h : MakeE wakeL w v er w') : er = 0 ∧ ∃ d ad cp, v = .slice ad (runB d).length cp ∧ Bytes w' ad (runB d).length (runB d) ∧ (ad = none → (runB d).length = 0) ∧ (runB d).length ≤ cp ∧ (runB d).length ≤ 100 ∧ pairsR (runB d) = some d ∧ d.length = 2 ∧ lookP d 3 = some 9 := by
  rcases h with ⟨⟨p, hp, h0⟩, _⟩ | ⟨_, h2, _⟩ | ⟨d, ad, cp, hg, hp, _, ho, rfl, rfl, hown⟩
  · simp [wakeL] at hp
    rcases hp with rfl | rfl <;> simp at h0
  · exact absurd (by decide : Once wakeL) h2
  · obtain ⟨h1, h2, h3⟩ := own_slice hown
    refine ⟨rfl, d, ad, cp, rfl, h1, fun e => (h2 e).1, h3, ?_, pairs_runB hg, by rw [hp.length_eq]; rfl, ?_⟩
    · have hl := hp.length_eq
      have : wakeL.length = 2 := rfl
      have := short_len d.length
      rw [runB_len]
      omega
    · rw [look_perm (ho.perm hp.symm) hp 3]
      rfl
set_option maxRecDepth 100000 in
set_option maxHeartbeats 4000000 in
theorem vwakes_any (w : World) : Calls Try.prog 8 #[] w fun e w' => e = .returned (.bool true) ∧ Below w.heap.size w w' := by
  have hB0 : Below w.heap.size w (w.alloc (.cells #[.int .u64 7, .int .u64 0, .int .u64 3, .int .u64 9] 47)) := (Below.refl _ w).alloc (Nat.le_refl _) _
  have hrow : RowV (w.alloc (.cells #[.int .u64 7, .int .u64 0, .int .u64 3, .int .u64 9] 47)) w.heap.size wakeL := World.alloc_heap_new w _
  have hm := make_any _ (some ⟨w.heap.size, 0, none⟩) 2 2 wakeL hrow.prs (fun p hp => by simp [wakeL] at hp; rcases hp with rfl | rfl <;> decide) (fun h => by cases h) (by omega)
  have HB0 : Hid (Below w.heap.size w (w.alloc (.cells #[.int .u64 7, .int .u64 0, .int .u64 3, .int .u64 9] 47))) := hB0
  clear hB0 hrow
  go_enter Try.func8, Try.ntmps8
  go_wp2_with fail
  refine hm.mono ?_
  clear hm
  rintro e w1 ⟨v, er, rfl, hE, hB⟩
  obtain ⟨rfl, d, ad, cp, rfl, hby, hnil, hcap, hlen, hp, hd2, hlk⟩ := wake_make hE
  have H1 : Hid (Bytes w1 ad (runB d).length (runB d) ∧ Below w.heap.size w w1) := ⟨hby, HB0.out.trans (hB.mono HB0.out.size)⟩
  have hf := find_any w1 ad (runB d).length cp 3 (runB d) hby hnil hcap (by omega)
  rw [findR_some hp hlk] at hf
  have HC : Hid (∀ W, Below w1.heap.size w1 W → Calls Try.prog 17 #[.slice ad (runB d).length cp] W fun e w' => e = .returned (.tuple #[.int .i64 2, .int .i64 0]) ∧ Below W.heap.size W w') := fun W hW => by
    refine (vcheck_any W ad (runB d).length cp (runB d) (vbytes_below hby hW) hnil hcap (by omega)).mono ?_
    rintro e w' ⟨k, er, rfl, (⟨h, _⟩ | ⟨l, h, rfl, rfl⟩), hB'⟩
    · rw [hp] at h; cases h
    · rw [hp] at h
      cases h
      rw [hd2]
      exact ⟨rfl, hB'⟩
  clear hE hB hby hnil hcap hlen hp hd2 hlk HB0
  generalize (runB d).length = N at *
  go_wp2_with first
    | (go_at_call 18; refine hf.mono ?_; clear hf; rintro e w2 ⟨rfl, hB2⟩)
    | (go_at_call 17; refine (HC.out w2 hB2).mono ?_; clear HC; rintro e w3 ⟨rfl, hB3⟩)
  go_ret
  have h2 := H1.out.2.trans (hB2.mono H1.out.2.size)
  exact ⟨rfl, h2.trans (hB3.mono h2.size)⟩
end Go.Proofs.Ytgcbbnmjomhngaa
