import Derived.Test.YtdjodigimhgklaaGreatDoorMC14
import Derived.Test.YtdjodigimhgklaaGreatDoorMC06
import Derived.Test.YtdjodigimhgklaaGreatDoorMC17
/- The walk of Names: the names of all files, rising. -/
namespace Go.Proofs.YtdjodigimhgklaaGreatDoor
open Go.RowKit Go.Maps

/-- these are the names of the disk's files, rising -/
def DG.Lists (S : DG) (ns : List (List UInt8)) : Prop := ∃ ks : List (List UInt8), ks.Nodup ∧ (∀ x, x ∈ ks ↔ (S.f x).isSome = true) ∧ ks.length = S.n ∧ (∀ x ∈ ks, x.length ≤ maxLen) ∧ ns = ks.mergeSort leB

theorem DG.Lists.same {S T : DG} {ns ms : List (List UInt8)} (h : S.Lists ns) (k : T.Lists ms) (e : ∀ x, (S.f x).isSome = (T.f x).isSome) : ns = ms := by
  obtain ⟨ks, n1, m1, _, _, rfl⟩ := h
  obtain ⟨js, n2, m2, _, _, rfl⟩ := k
  exact mergeSort_of_perm ((List.perm_ext_iff_of_nodup n1 n2).2 fun x => by rw [m1, m2, e])
theorem DG.Lists.mem {S : DG} {ns : List (List UInt8)} (h : S.Lists ns) (x : List UInt8) (hx : x ∈ ns) : (S.f x).isSome = true ∧ x.length ≤ maxLen := by
  obtain ⟨ks, n1, m1, _, hl, rfl⟩ := h
  have : x ∈ ks := (List.mergeSort_perm ks leB).mem_iff.1 hx
  exact ⟨(m1 x).1 this, hl x this⟩
theorem DG.Lists.len {S : DG} {ns : List (List UInt8)} (h : S.Lists ns) : ns.length = S.n := by
  obtain ⟨ks, _, _, hl, _, rfl⟩ := h
  rw [List.length_mergeSort, hl]

theorem ownsRow_strs {w : World} {B n : Nat} {v : Value} {xs : List Value} (h : w.ownsRow B 9 1 v n xs) : ∃ ad c, v = .slice ad n c ∧ n ≤ c ∧ (ad = none → n = 0) ∧ ∀ i u, xs[i]? = some u → ∃ b, ad = some ⟨b, 0, none⟩ ∧ B ≤ b ∧ b < w.heap.size ∧ w.cell? ⟨b, i, none⟩ = some u := by
  have hl := h.1
  rcases h.2 with ⟨rfl, rfl⟩ | ⟨g, cap, cur, rfl, hb, _, hc, _⟩
  · refine ⟨none, 0, rfl, Nat.le_refl _, fun _ => rfl, fun i u hu => ?_⟩
    have := (List.getElem?_eq_some_iff.1 hu).1
    omega
  · refine ⟨_, _, rfl, hc, (fun h => by cases h), fun i u hu => ⟨g, rfl, hb, (h.lt g rfl).2, ?_⟩⟩
    have := h.cells (g := g) rfl i u hu
    rw [Addr.add_lit, Nat.zero_add] at this
    exact this

set_option maxHeartbeats 1000000 in
theorem names_any (p : Nat) (S : DG) (Fp : Nat → Prop) (w : World) (hd : IsDisk w p S Fp) (hn : S.n ≤ 1000000) :
    Calls Tryz.prog 26 #[.pointer (some ⟨p, 0, none⟩)] w fun e w' => ∃ ns a c, e = .returned (.slice a ns.length c) ∧ S.Lists ns ∧ w'.ownsRow w.heap.size 9 1 (.slice a ns.length c) ns.length (ns.map encStr) ∧ Below w.heap.size w w' := by
  obtain ⟨b, M, hd⟩ := hd
  have c0 := hd.c0
  have hK := callsIn_wide.1 (Tryz.maps_Keys_64 (some b) w)
  have hS := callsIn_wide.1 (Tryz.slices_Sorted_keys_63_64 b (size M) M rv w hd.own (by rw [hd.sz]; unfold maxLen; omega) (by rw [hd.sz]; omega))
  have hND := strKeys_nodup hd.own
  have hlen := strKeys_length hd.own
  have hle := strKeys_le hd.own Tryz.underlying9
  have hhas := hd.has
  have hsz := hd.sz
  clear hd
  go_enter Tryz.func26, Tryz.ntmps26
  go_wp2_with fail
  refine hK.mono ?_
  rintro e w1 ⟨rfl, rfl⟩
  go_wp2_with fail
  refine hS.mono ?_
  rintro e w2 ⟨v, ss, rfl, hperm, hrow, _, hB⟩
  go_wp2
  go_ret
  have hll : ss.length = (ss.mergeSort leB).length := by rw [List.length_mergeSort]
  have hrow' : w2.ownsRow (w.alloc (.cells #[.map (some b)] 83)).heap.size 9 1 v (ss.mergeSort leB).length ((ss.mergeSort leB).map encStr) := by rw [← hll]; exact hrow
  obtain ⟨a, c, rfl, _⟩ := ownsRow_strs hrow'
  refine ⟨ss.mergeSort leB, a, c, rfl, ⟨ss, hperm.nodup_iff.2 hND.1, fun x => ?_, ?_, fun x hx => hle x (hperm.mem_iff.1 hx), rfl⟩, ?_, ?_⟩
  · rw [hperm.mem_iff, hND.2, hhas]
  · rw [hperm.length_eq, hlen, hsz]
  · refine ⟨hrow'.1, ?_⟩
    rcases hrow'.2 with h0 | ⟨g, cap, cur, e, hb, h2⟩
    · exact .inl h0
    · exact .inr ⟨g, cap, cur, e, by simp at hb; omega, h2⟩
  · exact ((Below.refl _ w).alloc (Nat.le_refl _) _).trans (hB.mono (by simp))

end Go.Proofs.YtdjodigimhgklaaGreatDoor

/- A payload put behind the others: what the list of payloads is then. -/
namespace Go.Proofs.YtdjodigimhgklaaGreatDoor
open Go.RowKit

theorem Tryz.info33 : (Tryz.prog.info? 33).map (fun i => (i.zero, i.size, i.bytes)) = some (some (.slice none 0 0), 1, 24) := by kernel_rfl

theorem ownsRow_shape' {w : World} {e : TypeId} {B n : Nat} {v : Value} {xs : List Value} (h : w.ownsRow B e 1 v n xs) : ∃ ad c, v = .slice ad n c ∧ n ≤ c ∧ (ad = none → n = 0 ∧ c = 0) := by
  rcases h.2 with ⟨rfl, rfl⟩ | ⟨g, cap, cur, rfl, _, _, hc, _⟩
  · exact ⟨none, 0, rfl, Nat.le_refl _, fun _ => ⟨rfl, rfl⟩⟩
  · exact ⟨_, _, rfl, hc, fun h => by cases h⟩

/-- a slice of the array that leads to a payload of these bytes at that place -/
def NewElt (g off : Nat) (l : List UInt8) (x : Value) : Prop := ∃ a c, x = .slice a l.length c ∧ l.length ≤ c ∧ (a = none → l.length = 0 ∧ c = 0) ∧ (0 < l.length → a = some ⟨g, off, none⟩)

theorem add_end {w w2 w3 : World} {p o g na : Nat} {rs : List (List UInt8)} {full l : List UInt8} {A v v' x : Value} {xs : List Value} {X : Obj} {Fp : Nat → Prop} (h : PayAt w p o rs g na full A v xs) (hA : ∀ k, A.ownBlock = some k → Fp k) (hv : ∀ k, v.ownBlock = some k → Fp k)
    (hp : Fp p) (hlt : ∀ k, Fp k → k < w.heap.size) (hgr : w.grownBy w2 A.ownBlock) (hown2 : w2.ownsRow 0 5 1 A na (cellsOf (splice full rs.flatten.length l))) (hgr3' : (w2.alloc X).drew.grownBy w3 v.ownBlock)
    (hown3 : w3.ownsRow 0 33 1 v' (rs.length + 1) (xs ++ [x])) (hat3 : v'.ownBlock = v.ownBlock ∨ v'.ownBlock = some (w2.heap.size + 1)) (hx : NewElt g rs.flatten.length l x) (hfit : rs.flatten.length + l.length ≤ na) :
    IsPay ((w3.setCell ⟨p, o + 2, none⟩ v').setCell ⟨p, o + 1, none⟩ (.int .i64 ((rs.flatten.length + l.length : Nat) : Int))) p o (rs ++ [l]) (grow Fp w ((w3.setCell ⟨p, o + 2, none⟩ v').setCell ⟨p, o + 1, none⟩ (.int .i64 ((rs.flatten.length + l.length : Nat) : Int)))) ∧
      Turn Fp w ((w3.setCell ⟨p, o + 2, none⟩ v').setCell ⟨p, o + 1, none⟩ (.int .i64 ((rs.flatten.length + l.length : Nat) : Int))) ∧
      Rest p o w ((w3.setCell ⟨p, o + 2, none⟩ v').setCell ⟨p, o + 1, none⟩ (.int .i64 ((rs.flatten.length + l.length : Nat) : Int))) := by
  obtain ⟨W, hW⟩ : ∃ W, W = (w3.setCell ⟨p, o + 2, none⟩ v').setCell ⟨p, o + 1, none⟩ (.int .i64 ((rs.flatten.length + l.length : Nat) : Int)) := ⟨_, rfl⟩
  have hgr3 : (w2.alloc X).grownBy w3 v.ownBlock := ⟨hgr3'.os, hgr3'.tape, hgr3'.output, hgr3'.size, hgr3'.block⟩
  have hplt := hlt p hp
  have hAp : ¬ A.ownBlock = some p := fun e => by
    rcases h.sh with ⟨e1, _⟩ | e1
    · rw [e1] at e; cases e
    · rw [e1] at e
      have : g = p := by simpa [Value.ownBlock] using e
      exact h.gp (by rw [e1]; rfl) this
  have hvp : ¬ v.ownBlock = some p := h.vp
  have hAv : ∀ k, A.ownBlock = some k → ¬ v.ownBlock = some k := fun k hk => by
    rcases h.sh with ⟨e1, _⟩ | e1
    · rw [e1] at hk; cases hk
    · rw [e1] at hk
      have : g = k := by simpa [Value.ownBlock] using hk
      subst this
      exact h.gv (by rw [e1]; rfl)
  have hT2 : Turn Fp w w2 := Turn.of_grownBy hgr (fun k hk => .inl (hA k hk))
  have hTa : Turn Fp w (w2.alloc X) := hT2.trans (Turn.of_grownBy (Fp := fun _ => False) (World.grownBy_alloc w2 X none) (by simp)) (fun _ _ h => h.elim)
  have hsa : (w2.alloc X).heap.size = w2.heap.size + 1 := by simp
  have hT3 : Turn Fp w w3 := hTa.trans (Turn.of_grownBy (Fp := Fp) hgr3 (fun k hk => .inl (hv k hk))) (fun _ _ h => h)
  have hTW : Turn Fp w W := by rw [hW]; exact (hT3.trans (turn_setCell w3 p (o + 2) _) (fun i _ hi => by subst hi; exact hp)).trans (turn_setCell _ p (o + 1) _) (fun i _ hi => by subst hi; exact hp)
  have ne0 : ∀ k, k < w.heap.size → ¬ A.ownBlock = some k → ¬ v.ownBlock = some k → w3.heap[k]? = w.heap[k]? := fun k hk h1 h2 => by
    rw [hgr3.block k (by have := hgr.size; omega) (fun e => h2 e.symm), (World.grownBy_alloc w2 X none).block k (by have := hgr.size; omega) (by simp), hgr.block k hk (fun e => h1 e.symm)]
  have hp3 : w3.heap[p]? = w.heap[p]? := ne0 p hplt hAp hvp
  have hWk : ∀ k, k ≠ p → W.heap[k]? = w3.heap[k]? := fun k hk => by
    rw [hW, Below.heap_setCell _ _ _ _ hk, Below.heap_setCell _ _ _ _ hk]
  have hv'p : ∀ k, v'.ownBlock = some k → k ≠ p := fun k hk e => by
    subst e
    rcases hat3 with e | e
    · exact hvp (by rw [← e]; exact hk)
    · rw [e] at hk
      have := hgr.size
      simp only [Option.some.injEq] at hk
      omega
  have hv'A : ∀ k, A.ownBlock = some k → ¬ v'.ownBlock = some k := fun k hk e => by
    rcases hat3 with e1 | e1
    · exact hAv k hk (by rw [← e1]; exact e)
    · rw [e1] at e
      have := hlt k (hA k hk)
      have := hgr.size
      simp only [Option.some.injEq] at e
      omega
  have hfl : (rs ++ [l]).flatten = rs.flatten ++ l := by simp
  have hll := h.alt
  have hxl : xs.length = rs.length := by have := h.row.1; omega
  have cell3 : ∀ j y, w.cell? ⟨p, j, none⟩ = some y → w3.cell? ⟨p, j, none⟩ = some y := fun j y hy => by rw [World.cell?_of_block hp3]; exact hy
  have hR : Rest p o w W := by rw [hW]; exact ((Rest.of_block hp3).trans (Rest.setCell _ _ _ (.inr (.inr rfl)))).trans (Rest.setCell _ _ _ (.inr (.inl rfl)))
  rw [← hW]
  refine ⟨⟨g, na, splice full rs.flatten.length l, A, v', xs ++ [x], ?_, fun k hk => .inl (hA k hk), ?_⟩, hTW, hR⟩
  · refine { ca := ?_, cu := ?_, cl := ?_, fa := ?_, fu := ?_, fl := ?_, arr := ?_, sh := h.sh, pre := ?_, fit := ?_, row := ?_, el := ?_, gp := h.gp, vp := fun e => hv'p p e rfl, gv := fun e => hv'A g e }
    · rw [hW, World.cell?_setCell_other _ _ _ _ (by simp), World.cell?_setCell_other _ _ _ _ (by simp)]; exact cell3 _ _ h.ca
    · rw [hW, World.cell?_setCell_same _ _ _ (by rw [World.cell?_setCell_other _ _ _ _ (by simp)]; exact cell3 _ _ h.cu), hfl, List.length_append]
    · rw [hW, World.cell?_setCell_other _ _ _ _ (by simp)]; exact World.cell?_setCell_same _ _ _ (cell3 _ _ h.cl)
    · rw [hW, World.frozen?_setCell, World.frozen?_setCell, World.frozen?_of_block hp3]; exact h.fa
    · rw [hW, World.frozen?_setCell, World.frozen?_setCell, World.frozen?_of_block hp3]; exact h.fu
    · rw [hW, World.frozen?_setCell, World.frozen?_setCell, World.frozen?_of_block hp3]; exact h.fl
    · refine ownsRow_move' hown2 (fun k hk => ?_)
      have hk2 := (hown2.lt k hk).2
      rw [hWk k (fun e => hAp (by rw [← e]; exact hk)), hgr3.block k (by omega) (fun e => hAv k hk e.symm), (World.grownBy_alloc w2 X none).block k hk2 (by simp)]
    · rw [hfl, List.length_append, splice_head _ _ _ (by have := h.fit; omega), h.pre]
    · rw [hfl, List.length_append]; exact hfit
    · rw [List.length_append, List.length_singleton]
      exact ownsRow_move' hown3 (fun k hk => hWk k (hv'p k hk))
    · intro k hk
      rw [List.length_append, List.length_singleton] at hk
      by_cases e : k = rs.length
      · subst e
        obtain ⟨a, c, h1, h2, h3, h4⟩ := hx
        refine ⟨a, c, ?_, ?_, ?_, ?_⟩
        · rw [rc_last, ← hxl, List.getElem?_append_right (Nat.le_refl _), h1]; simp
        · rw [rc_last]; exact h2
        · rw [rc_last]; exact h3
        · rw [rc_last, offs_snoc _ _ _ (Nat.le_refl _), offs_all]; exact h4
      · obtain ⟨a, c, h1, h2⟩ := h.el k (by omega)
        refine ⟨a, c, ?_, ?_⟩
        · rw [rc_snoc _ _ _ (by omega), List.getElem?_append_left (by omega)]; exact h1
        · rw [rc_snoc _ _ _ (by omega), offs_snoc _ _ _ (by omega)]; exact h2
  · intro k hk
    rcases hat3 with e | e
    · rw [e] at hk; exact .inl (hv k hk)
    · refine .inr ⟨?_, ?_⟩
      · rw [e] at hk
        have := hgr.size
        simp only [Option.some.injEq] at hk
        omega
      · have := (hown3.lt k hk).2
        rw [hW]; simp [World.setCell]; omega

end Go.Proofs.YtdjodigimhgklaaGreatDoor
