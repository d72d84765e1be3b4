import Derived.Test.YtcbmofapnjdmgaaDoorDD13
import Derived.Test.YtcbmofapnjdmgaaDoorDD18
/- Proved here: for every two rows of bytes and every number the law DiskParts returns true, and its arguments read as before. No condition. -/
namespace Go.Proofs.YtcbmofapnjdmgaaDoor
open Go.ChangeShapes Go.WideShapes Go.ChangeAt Go.RowKit Go.Maps

abbrev S0 : DG := ⟨fun _ => none, 0, 0, false, 0⟩
theorem name97 : nameB [97] = true := by decide +kernel

theorem app_first (x : List UInt8) (h : x.length ≤ 500) : ∃ S1, S0.app [97] x = (S1, 0) ∧ S1.f [97] = some x ∧ S1.n = 1 ∧ S1.cut = false ∧ S1.wr ≤ 600 ∧ ∀ l bs, S1.f l = some bs → bs.length ≤ 500 := by
  unfold DG.app
  rw [if_neg (by simp [name97]), if_neg (by simp [DG.bs]; omega), if_neg (by simp), pieces_free _ S0 _ _ rfl (Nat.le_refl _)]
  refine ⟨_, rfl, by simp [DG.add, DG.set], by simp [DG.add, DG.set], rfl, ?_, ?_⟩
  · show 0 + (if x = [] then 1 else (x.length + 31) / 32) ≤ 600
    split <;> omega
  · intro l bs hf
    simp only [DG.add, DG.set] at hf
    split at hf
    · cases hf
      simpa using h
    · cases hf

theorem app_second (S1 : DG) (x0 x1 : List UInt8) (hf : S1.f [97] = some x0) (hc : S1.cut = false) (h0 : x0.length ≤ 500) (h : x1.length ≤ 1000) :
    ∃ S2, S1.app [97] x1 = (S2, 0) ∧ S2.bs [97] = x0 ++ x1 ∧ S2.wr = S1.wr + (x1.length + 31) / 32 ∧ S2.err [97] = 0 := by
  have hbs : S1.bs [97] = x0 := by simp [DG.bs, hf]
  unfold DG.app
  rw [if_neg (by simp [name97]), if_neg (by rw [hbs, hf]; simp; omega)]
  by_cases e : x1 = []
  · rw [if_pos ⟨by simp [hf], e⟩]
    subst e
    exact ⟨S1, rfl, by simp [hbs], by simp, by simp [DG.err, hf]⟩
  · rw [if_neg (fun h' => e h'.2), pieces_free _ S1 _ _ hc (Nat.le_refl _)]
    refine ⟨_, rfl, by simp [DG.add, DG.set, DG.bs, hf], ?_, by simp [DG.add, DG.set, DG.err]⟩
    show S1.wr + (if x1 = [] then 1 else (x1.length + 31) / 32) = _
    rw [if_neg e]

theorem app_third (S1 : DG) (x0 x1 : List UInt8) (j : Nat) (hf : S1.f [97] = some x0) (hn : S1.n = 1) (h0 : x0.length ≤ 500) (h : x1.length ≤ 1000) (hj : j * 32 < x1.length) :
    ∃ S3, DG.app { S1.copy with cut := true, left := j } [97] x1 = (S3, 6) ∧ S3.bs [97] = x0 ++ x1.take (j * 32) := by
  have hbs : DG.bs { S1.copy with cut := true, left := j } [97] = x0 := by simp [DG.bs, DG.copy, hf]
  have hf' : DG.f { S1.copy with cut := true, left := j } [97] = some x0 := hf
  have hn' : DG.n { S1.copy with cut := true, left := j } = 1 := hn
  have hp := pieces_cut (x1.length + 1) { S1.copy with cut := true, left := j } [97] x1 rfl (Nat.le_refl _) hj
  rw [hbs] at hp
  unfold DG.app
  rw [if_neg (by simp [name97]), if_neg (by rw [hbs, hf']; simp; omega), if_neg (by intro h'; rw [h'.2] at hj; simp at hj)]
  exact ⟨_, Prod.ext rfl hp.1, hp.2.1⟩

theorem mod_small (k : Int) (P : Nat) (h0 : 0 < P) (h : P ≤ 32) : ∃ j : Nat, wrap64 ((IntKind.u64.wrap k).tmod (P : Int)) = (j : Int) ∧ j < P := by
  rw [IntKind.wrap_u64]
  have h1 : 0 ≤ k % 18446744073709551616 := by omega
  rw [Int.tmod_eq_emod_of_nonneg h1]
  have h2 : 0 ≤ (k % 18446744073709551616) % (P : Int) := Int.emod_nonneg _ (by omega)
  have h3 : (k % 18446744073709551616) % (P : Int) < (P : Int) := Int.emod_lt_of_pos _ (by omega)
  generalize (k % 18446744073709551616) % (P : Int) = x at *
  refine ⟨x.toNat, ?_, by omega⟩
  unfold wrap64
  omega

theorem Bytes.below {w w' : World} {a : Option Addr} {n : Nat} {l : List UInt8} (h : Bytes w a n l) (hB : Below w.heap.size w w') : Bytes w' a n l := (Turn.of_below (fun _ => False) hB).bytes h (fun _ _ _ => id)
theorem Bytes.lt {w : World} {a : Option Addr} {n : Nat} {l : List UInt8} (h : Bytes w a n l) (h0 : 0 < n) (x : Addr) (hx : a = some x) : x.block < w.heap.size := by
  obtain ⟨b, off, e, hc⟩ := h.2 h0
  rw [e] at hx
  cases hx
  exact World.block_lt_of_cell? w _ (hc 0 h0)

set_option maxRecDepth 20000 in
/-- a slice of bytes that came in -/
theorem bytes_arg {H : Type} {enc : TypeId × Value → H} {W : World} {base : Nat} {v : Value} {d : DataW H} {ps : List MemPlace} (hok : Value.okWide Tryd.prog W .any base 32 v)
    (h : DataW.Trod enc Tryd.prog W 0 (fun _ => true) true 32 v d ps) :
    ∃ a n cap l, v = .slice a n cap ∧ Bytes W a n l ∧ n ≤ cap ∧ (n = 0 ∨ ∃ el sp, d = .slice el sp ∧ n ≤ el.length + sp.length) := by
  obtain ⟨a, n, cap, rfl⟩ := okWide_slice Tryd.underlying32 hok
  obtain ⟨fuel, hf⟩ := h
  rcases open_ints Tryd.underlying32 Tryd.underlying5 (by kernel_rfl) hf with ⟨hcs, _⟩ | ⟨x, l, c, zs, hcs, _, hl, hm, hz, hx, hcell, hwz⟩
  · simp [Value.cells] at hcs
    obtain ⟨rfl, rfl, rfl⟩ := hcs
    exact ⟨none, 0, 0, [], rfl, ⟨rfl, fun h0 => by omega⟩, Nat.le_refl _, .inl rfl⟩
  · simp [Value.cells] at hcs
    obtain ⟨rfl, rfl, rfl⟩ := hcs
    simp only [Prod.mk.injEq] at hx
    simp only [if_true] at hz
    refine ⟨some x, n, cap, (zs.take n).map (fun z => UInt8.ofNat z.toNat), rfl, ⟨by simp; omega, fun h0 => ?_⟩, hl, .inr ⟨_, _, hx.1, ?_⟩⟩
    · obtain ⟨b, off, spot⟩ := x
      have hc := hcell 0 (by omega)
      have hspot : spot = none := by simpa [Addr.add] using World.cell?_spot hc
      subst hspot
      refine ⟨b, off, rfl, fun i hi => ?_⟩
      have hci := hcell i (by omega)
      rw [Addr.add_lit] at hci
      rw [hci]
      have hb : 0 ≤ zs.getD i 0 ∧ zs.getD i 0 ≤ 255 := by
        rw [List.getD_eq_getElem?_getD]
        exact range_u8 hwz i
      have e : bt ((zs.take n).map (fun z => UInt8.ofNat z.toNat)) i = zs.getD i 0 := by
        unfold bt
        have e1 : ((zs.take n).map (fun z => UInt8.ofNat z.toNat)).getD i 0 = UInt8.ofNat (zs.getD i 0).toNat := by
          simp [List.getD, hi, show i < zs.length by omega]
        rw [e1, UInt8.toNat_ofNat']
        omega
      rw [e]
    · simp [lits]; omega

set_option maxRecDepth 20000 in
theorem nil_arg {H : Type} {enc : TypeId × Value → H} {W : World} {n c : Nat} {d : DataW H} {ps : List MemPlace} (h : DataW.Trod enc Tryd.prog W 0 (fun _ => true) true 32 (.slice none n c) d ps) : n = 0 ∧ c = 0 := by
  obtain ⟨m, hm⟩ := h
  rcases open_ints Tryd.underlying32 Tryd.underlying5 (by kernel_rfl) hm with ⟨hcs, _⟩ | ⟨x, l, c, zs, hcs, _⟩
  · simp [Value.cells] at hcs
    exact hcs
  · simp [Value.cells] at hcs

end Go.Proofs.YtcbmofapnjdmgaaDoor
