/- The walk of the statements' own comparison of two disks. -/
import Derived.Test.YtibnppclnapjkaaDiskNames
import Derived.Test.YtibnppclnapjkaaDiskSame
namespace Go.Proofs.Ytibnppclnapjkaa
open Go.RowKit Go.Maps

theorem equal_yes (w : World) (a b : Option Addr) (n c d : Nat) (l : List UInt8) (ha : Bytes w a n l) (hb : Bytes w b n l) :
    Calls Try.prog 23 #[.slice a n c, .slice b n d] w fun e w' => e = .returned (.bool true) ∧ w' = w :=
  (equal_any w a b n n c d l l ha hb).mono fun e w' ⟨h1, h2⟩ => ⟨by rw [h1]; simp, h2⟩

set_option maxRecDepth 20000 in
set_option maxHeartbeats 4000000 in
theorem alike_any (p q : Nat) (S T : DG) (Fp Gp : Nat → Prop) (w : World) (hd : IsDisk w p S Fp) (he : IsDisk w q T Gp) (hf : S.f = T.f) (hbig : ∀ l bs, S.f l = some bs → bs.length ≤ 140737488355328) (hn : S.n ≤ 1000000) (hn' : T.n ≤ 1000000) :
    Calls Try.prog 22 #[.pointer (some ⟨p, 0, none⟩), .pointer (some ⟨q, 0, none⟩)] w fun e w' => e = .returned (.bool true) ∧ Below w.heap.size w w' := by
  have hbs : ∀ x, S.bs x = T.bs x ∧ S.err x = T.err x := fun x => by simp [DG.bs, DG.err, hf]
  go_enter Try.func22, Try.ntmps22
  go_wp2_with fail
  refine (names_any p S Fp w hd hn).mono ?_
  rintro e w1 ⟨ns, a1, c1, rfl, hL1, ho1, B1⟩
  have he1 := he.below B1
  go_wp2_with fail
  refine (names_any q T Gp w1 he1 hn').mono ?_
  rintro e w2 ⟨ms, a2, c2, rfl, hL2, ho2, B2⟩
  obtain rfl := hL1.same hL2 (fun x => by rw [hf])
  obtain ⟨_, _, e1, h1c, hz1, hcell1⟩ := ownsRow_strs ho1
  cases e1
  obtain ⟨_, _, e2, h2c, hz2, hcell2⟩ := ownsRow_strs ho2
  cases e2
  have B2w : Below w.heap.size w w2 := B1.trans (B2.mono B1.size)
  have hd2 := hd.below B2w
  have he2 := he.below B2w
  have HL : Hid (S.Lists ns) := hL1
  have HC1 : Hid (∀ i x, ns[i]? = some x → ∃ b, a1 = some ⟨b, 0, none⟩ ∧ b < w2.heap.size ∧ w2.cell? ⟨b, i, none⟩ = some (encStr x)) := by
    intro i x hx
    obtain ⟨b, h1, _, h2, h3⟩ := hcell1 i (encStr x) (by simp [hx])
    exact ⟨b, h1, Nat.lt_of_lt_of_le h2 B2.size, by rw [B2.cell (by simpa using h2)]; exact h3⟩
  have HC2 : Hid (∀ i x, ns[i]? = some x → ∃ b, a2 = some ⟨b, 0, none⟩ ∧ b < w2.heap.size ∧ w2.cell? ⟨b, i, none⟩ = some (encStr x)) := by
    intro i x hx
    obtain ⟨b, h1, _, h2, h3⟩ := hcell2 i (encStr x) (by simp [hx])
    exact ⟨b, h1, h2, h3⟩
  have hnl : ns.length ≤ 1000000 := by rw [hL1.len]; exact hn
  have HB : Hid (∀ x, S.bs x = T.bs x ∧ S.err x = T.err x) := hbs
  have HBig : Hid (∀ l bs, S.f l = some bs → bs.length ≤ 140737488355328) := hbig
  have HD2 : Hid (IsDisk w2 p S Fp) := hd2
  have HE2 : Hid (IsDisk w2 q T Gp) := he2
  have HF : Hid (S.f = T.f) := hf
  clear hbs hcell1 hcell2 ho1 ho2 hd he he1 hL1 hL2 hbig hd2 he2 hf B1 B2 hz1 hz2 h1c h2c
  go_wp2_with fail
  go_loopw [23] (fun i wr => ∃ k : Nat, k ≤ ns.length ∧ i = .int .i64 k ∧ Below w2.heap.size w2 wr) (fun i _ => ns.length - (intOf i).toNat)
  case atStart => exact ⟨0, Nat.zero_le _, rfl, Below.refl _ _⟩
  case round =>
    obtain ⟨k, hk, rfl, hB⟩ := hrel
    by_cases hlt : k < ns.length
    · have i3 : (k : Int) < (ns.length : Int) := by omega
      have i4 : (0 : Int) ≤ (k : Int) := by omega
      obtain ⟨x, hx⟩ : ∃ x, ns[k]? = some x := ⟨ns[k], by simp [hlt]⟩
      obtain ⟨b1, rfl, hb1, hc1⟩ := HC1.out k x hx
      obtain ⟨b2, rfl, hb2, hc2⟩ := HC2.out k x hx
      have hmem := HL.out.mem x (List.mem_of_getElem? hx)
      obtain ⟨s, hs⟩ : ∃ s : ByteArray, s = ⟨x.toArray⟩ := ⟨_, rfl⟩
      have hsl : s.data.toList = x := by rw [hs]
      have henc : encStr x = .string s := by rw [hs]
      rw [henc] at hc1 hc2
      have hss : s.size ≤ maxLen := by rw [← hsl] at hmem; simpa using hmem.2
      have g1 : wr.cell? ⟨b1, k, none⟩ = some (.string s) := by rw [hB.cell (by simpa using hb1)]; exact hc1
      obtain ⟨bs, hbs⟩ := Option.isSome_iff_exists.1 hmem.1
      have hbS : S.bs x = bs := by simp [DG.bs, hbs]
      have heS : S.err x = 0 := by simp [DG.err, hbs]
      have hr1 := read_any p S Fp wr s (HD2.out.below hB) hss (by rw [hsl, hbS]; exact HBig.out _ _ hbs)
      rw [hsl, hbS, heS] at hr1
      have hr2 := fun (w3 : World) (hB3 : Below w2.heap.size w2 w3) => read_any q T Gp w3 s (HE2.out.below hB3) hss (by rw [hsl, ← (HB.out x).1, hbS]; exact HBig.out _ _ hbs)
      rw [hsl, ← (HB.out x).1, ← (HB.out x).2, hbS, heS] at hr2
      have Hr2 : Hid _ := hr2
      clear hr2 hs hsl henc hbS heS hmem hbs
      go_wp2_with fail
      refine hr1.mono ?_
      rintro e w3 ⟨a3, c3, rfl, ho3, B3, _, _⟩
      have B3w : Below w2.heap.size w2 w3 := hB.trans (B3.mono hB.size)
      have g1' : w3.cell? ⟨b1, k, none⟩ = some (.string s) := by rw [B3w.cell (by simpa using hb1)]; exact hc1
      have hr3 := Hr2.out w3 B3w
      clear Hr2 hr1
      go_wp2_with fail
      refine hr3.mono ?_
      rintro e w4 ⟨a4, c4, rfl, ho4, B4, _, _⟩
      have B4w : Below w2.heap.size w2 w4 := B3w.trans (B4.mono B3w.size)
      have h1 : w4.cell? ⟨b1, k, none⟩ = some (.string s) := by rw [B4w.cell (by simpa using hb1)]; exact hc1
      have h2 : w4.cell? ⟨b2, k, none⟩ = some (.string s) := by rw [B4w.cell (by simpa using hb2)]; exact hc2
      have hA : Bytes w4 a3 bs.length bs := (Turn.of_below (fun _ => False) B4).bytes (ownsRow_toBytes ho3).1 (fun _ _ _ => id)
      have hC : Bytes w4 a4 bs.length bs := (ownsRow_toBytes ho4).1
      have HA : Hid (Bytes w4 a3 bs.length bs) := hA
      have HCc : Hid (Bytes w4 a4 bs.length bs) := hC
      clear hr3 ho3 ho4 g1 g1' hc1 hc2 hA hC B3 B4 B3w hx
      go_wp2_with fail
      go_quiet ((go_at_call 23; refine Calls.quiet_of_same (equal_yes _ a3 a4 bs.length c3 c4 bs ⟨HA.out.1, HA.out.2⟩ ⟨HCc.out.1, HCc.out.2⟩)))
      go_wp2
      exact ⟨⟨k + 1, by omega, by simp, ⟨B4w.os, B4w.tape, B4w.output, B4w.size, B4w.block⟩⟩, by simp [intOf]; omega⟩
    · have i3 : ¬ (k : Int) < (ns.length : Int) := by omega
      go_wp2
      go_ret
      exact ⟨rfl, B2w.trans (hB.mono B2w.size)⟩

end Go.Proofs.Ytibnppclnapjkaa
