import Derived.Test.YtdjodigimhgklaaGreatDoorMD40
import Derived.Test.YtdjodigimhgklaaGreatDoorMD39
import Derived.Deep.CutRange
import Derived.Deep.CutBlock
import Derived.Deep.LoopGhost
/- The document's Add. -/
namespace Go.Proofs.YtdjodigimhgklaaGreatDoor
open Go.RowKit Go.Shelf Go.Maps

attribute [local go_sem] Oper.semAt_some

/-- a memo's three cells in a block -/
abbrev wmCells (pa : Option Addr) (pc : Nat) (ja : Option Addr) (jc : Nat) (m : Wm) : Obj := .cells #[.slice pa m.parts.length pc, .int .i64 (m.last : Int), .slice ja m.jn.length jc] 35
theorem wm_cells {w : World} {B : Nat} {a b c : Value} {t : TypeId} (h : w.heap[B]? = some (.cells #[a, b, c] t (0, 0))) : w.cell? ⟨B, 0, none⟩ = some a ∧ w.cell? ⟨B, 1, none⟩ = some b ∧ w.cell? ⟨B, 2, none⟩ = some c ∧ w.frozen? ⟨B, 0, none⟩ = false ∧ w.frozen? ⟨B, 1, none⟩ = false ∧ w.frozen? ⟨B, 2, none⟩ = false := by
  refine ⟨?_, ?_, ?_, ?_, ?_, ?_⟩ <;> simp [World.cell?, World.frozen?, h]
/-- a block of three cells, filled -/
def put3 (w : World) (B : Nat) (a b c : Value) : World := ((w.setCell ⟨B, 0, none⟩ a).setCell ⟨B, 1, none⟩ b).setCell ⟨B, 2, none⟩ c
theorem put3_turn (w : World) (B : Nat) (a b c : Value) : Turn (fun k => k = B) w (put3 w B a b c) :=
  ((turn_setCell w B 0 a).trans (turn_setCell _ B 1 b) fun _ _ e => e).trans (turn_setCell _ B 2 c) fun _ _ e => e
theorem put3_heap {w : World} {B : Nat} {x y z : Value} {t : TypeId} (h : w.heap[B]? = some (.cells #[x, y, z] t (0, 0))) (a b c : Value) : (put3 w B a b c).heap[B]? = some (.cells #[a, b, c] t (0, 0)) := by
  unfold put3
  simp [World.setCell, Array.getElem?_modify, h, Array.setIfInBounds]
/-- what the document's Add answers, in memory -/
def DaddA (w : World) (Q : Nat → Prop) (m : Wm) (l P : List Pr) (e : Ending) (w' : World) : Prop :=
  ∃ pa' pc' ja' jc' m' b er, e = .returned (.tuple #[wmVal pa' pc' ja' jc' m', .bool b, .int .i64 er]) ∧ DocA m l P m' b er ∧ WmV w' Q pa' pc' ja' jc' m' ∧ Below w.heap.size w w'
theorem dadd_fin {w W : World} {Q : Nat → Prop} {m : Wm} {l P : List Pr} (tm : Array Value) (B : Nat) (pa' : Option Addr) (pc' : Nat) (ja' : Option Addr) (jc' : Nat) (m' : Wm) (b : Bool) (er : Int) (t4 : tm.getD 4 undef = .pointer (some ⟨B, 0, none⟩)) (t5 : tm.getD 5 undef = .bool b) (t6 : tm.getD 6 undef = .int .i64 er)
    (hz : W.heap[B]? = some (wmCells pa' pc' ja' jc' m')) (hD : DocA m l P m' b er) (hV : WmV W Q pa' pc' ja' jc' m') (hB : Below w.heap.size w W) : bodyPost Tryz.prog Tryz.f14 (DaddA w Q m l P) Exit.ret ⟨tm, []⟩ W := by
  obtain ⟨z0, z1, z2, _⟩ := wm_cells hz
  refine bodyPost_ret (v := .tuple #[wmVal pa' pc' ja' jc' m', .bool b, .int .i64 er]) ?_ rfl ⟨pa', pc', ja', jc', m', b, er, rfl, hD, hV, hB⟩
  rw [Array.getD_eq_getD_getElem?] at t4 t5 t6
  simp [results, Tryz.results14, go_sem, t4, t5, t6, z0, z1, z2]
/-- what holds while the boxes stand as they were -/
structure DaI (w w0 : World) (pa : Option Addr) (pc : Nat) (ja : Option Addr) (jc : Nat) (m : Wm) : Prop where
  below : Below w.heap.size w w0
  size : w.heap.size + 2 ≤ w0.heap.size
  b2 : w0.heap[w.heap.size]? = some (wmCells pa pc ja jc m)
  b4 : w0.heap[w.heap.size + 1]? = some (.cells #[.slice none 0 0, .int .i64 0, .slice none 0 0] 35)
theorem DaI.kept {w w0 wr : World} {pa : Option Addr} {pc : Nat} {ja : Option Addr} {jc : Nat} {m : Wm} (h : DaI w w0 pa pc ja jc m) (hB : Below w0.heap.size w0 wr) : DaI w wr pa pc ja jc m where
  below := h.below.trans (hB.mono h.below.size)
  size := Nat.le_trans h.size hB.size
  b2 := (hB.block _ (by have := h.size; omega)).trans h.b2
  b4 := (hB.block _ (by have := h.size; omega)).trans h.b4
theorem DaI.back {w wr : World} {Q : Nat → Prop} {pa : Option Addr} {pc : Nat} {ja : Option Addr} {jc : Nat} {m : Wm} {l P : List Pr} (h : DaI w wr pa pc ja jc m) (hW : WmV w Q pa pc ja jc m) (tm : Array Value) (er : Int) (t4 : tm.getD 4 undef = .pointer (some ⟨w.heap.size + 1, 0, none⟩)) (t5 : tm.getD 5 undef = .bool false) (t6 : tm.getD 6 undef = .int .i64 er) (hD : DocA m l P m false er) :
    bodyPost Tryz.prog Tryz.f14 (DaddA w Q m l P) Exit.ret ⟨tm, []⟩ (put3 wr (w.heap.size + 1) (.slice pa m.parts.length pc) (.int .i64 (m.last : Int)) (.slice ja m.jn.length jc)) := by
  have hT := put3_turn wr (w.heap.size + 1) (.slice pa m.parts.length pc) (.int .i64 (m.last : Int)) (.slice ja m.jn.length jc)
  have hB := h.below.trans (hT.below (B := w.heap.size) h.below.size (fun k e => by omega))
  exact dadd_fin tm (w.heap.size + 1) pa pc ja jc m false er t4 t5 t6 (put3_heap h.b4 _ _ _) hD (hW.below hB) hB
/-- the runs are new, the record is not written -/
structure AddM (w wx : World) (Q : Nat → Prop) (pa' : Option Addr) (pc' : Nat) (ja : Option Addr) (jc : Nat) (m : Wm) (M : List (Nat × List Pr)) (F P : List Pr) : Prop where
  below : Below w.heap.size w wx
  b2 : wx.heap[w.heap.size]? = some (.cells #[.slice pa' M.length pc', .int .i64 (m.last : Int), .slice ja m.jn.length jc] 35)
  b4 : wx.heap[w.heap.size + 1]? = some (.cells #[.slice none 0 0, .int .i64 0, .slice none 0 0] 35)
  parts : PtV wx (fun k => Q k ∨ k = w.heap.size ∨ k = w.heap.size + 1) pa' M.length M
  pcap : M.length ≤ pc'
  pnil : pa' = none → M.length = 0 ∧ pc' = 0
  rel : ∃ q, (m.parts.length < 4 ∧ q = F ∧ M = (m.last + 1, q) :: m.parts) ∨ (4 ≤ m.parts.length ∧ SortR (F ++ P) q ∧ M = [(m.last + 1, q)])
set_option maxRecDepth 100000 in
set_option maxHeartbeats 16000000 in
theorem dadd_any (w : World) (Q : Nat → Prop) (pa : Option Addr) (pc : Nat) (ja : Option Addr) (jc : Nat) (m : Wm) (h : WmV w Q pa pc ja jc m) (hQ : ∀ k, Q k → k < w.heap.size) (P : List Pr) (hP : Ris P) (hlk : ∀ x, lookP P x = lookP m.flat x) (hPok : PrOk P) (hPl : P.length ≤ 2000) (hfl : m.flat.length ≤ 2000) (hp4 : m.parts.length ≤ 4) (hn : ∀ p ∈ m.parts, p.1 < 100000) (hla : m.last < 100000) (hjl : m.jn.length ≤ 100000)
    (la : Option Addr) (lc : Nat) (l : List Pr) (hl : PrV w la l.length lc l) (hok : PrOk l) (h40 : l.length ≤ 40) :
    Calls Tryz.prog 14 #[wmVal pa pc ja jc m, .slice la l.length lc] w (DaddA w Q m l P) := by
  obtain ⟨w0, hw0⟩ : ∃ w0, w0 = (w.alloc (wmCells pa pc ja jc m)).alloc (.cells #[.slice none 0 0, .int .i64 0, .slice none 0 0] 35) := ⟨_, rfl⟩
  have hB0 : Below w.heap.size w w0 := by rw [hw0]; exact ((Below.refl _ w).alloc (Nat.le_refl _) _).alloc (by simp) _
  have hs0 : w0.heap.size = w.heap.size + 2 := by rw [hw0]; simp
  have hb2 : w0.heap[w.heap.size]? = some (wmCells pa pc ja jc m) := by
    rw [hw0]
    exact (Below.heap_alloc _ _ _ (by simp)).trans (World.alloc_heap_new w _)
  have hb4 : w0.heap[w.heap.size + 1]? = some (.cells #[.slice none 0 0, .int .i64 0, .slice none 0 0] 35) := by
    rw [hw0]
    have := World.alloc_heap_new (w.alloc (wmCells pa pc ja jc m)) (.cells #[.slice none 0 0, .int .i64 0, .slice none 0 0] 35)
    rwa [World.size_alloc] at this
  have H0 : Hid (DaI w w0 pa pc ja jc m) := ⟨hB0, by omega, hb2, hb4⟩
  have HW : Hid (WmV w Q pa pc ja jc m ∧ PrV w la l.length lc l ∧ PrOk l ∧ (∀ k, Q k → k < w.heap.size)) := ⟨h, hl, hok, hQ⟩
  have HP : Hid (Ris P ∧ (∀ x, lookP P x = lookP m.flat x) ∧ m.flat.length ≤ 2000 ∧ (∀ p ∈ m.parts, p.1 < 100000) ∧ m.last < 100000 ∧ m.jn.length ≤ 100000 ∧ PrOk P ∧ P.length ≤ 2000) := ⟨hP, hlk, hfl, hn, hla, hjl, hPok, hPl⟩
  have i0 : ¬ (65536 : Int) < (l.length : Int) := by omega
  have h40' : l.length ≤ 40 := h40
  have hPl' : P.length ≤ 2000 := hPl
  clear hB0 hs0 hb2 hb4 h hl hok hQ hP hlk hfl hn hla hjl h40 hPok hPl
  go_enter Tryz.func14, Tryz.ntmps14
  go_upto_block 0 with fail
  rw [← hw0]
  clear hw0
  have HI0 : Hid (DaI w w0 pa pc ja jc m ∧ ∀ p ∈ l.take 0, p.1 ≠ 0) := ⟨H0.out, by simp⟩
  go_wp2_with fail
  go_loopg [22] l.length (fun gk i wr => ∃ k : Nat, k + gk = l.length ∧ i = .int .i64 (k : Int) ∧ Hid (DaI w wr pa pc ja jc m ∧ ∀ p ∈ l.take k, p.1 ≠ 0))
  case atStart => exact ⟨0, by omega, rfl, HI0⟩
  case round =>
    clear HI0
    obtain ⟨k, hk, rfl, HI⟩ := hrel
    cases gk with
    | zero =>
      obtain rfl : k = l.length := by omega
      have i5 : ¬ ((l.length : Nat) : Int) < (l.length : Int) := by omega
      clear hk
      have HA : Hid (DaI w wr pa pc ja jc m ∧ ∀ p ∈ l, p.1 ≠ 0) := ⟨HI.out.1, by have := HI.out.2; rwa [List.take_length] at this⟩
      have hso := rsorted_any wr la l.length lc l (HW.out.2.1.kept HI.out.1.below).prs (by omega)
      clear HI
      go_upto_if 36 with (go_at_call 44; refine hso.mono ?_; clear hso; rintro e w2 ⟨sa, sm, sc, rfl, d, hpd, hSd, hB2⟩; have hsm := hpd.prs.1; subst hsm; have HS : Hid (DaI w w2 pa pc ja jc m ∧ SortR l d) := ⟨HA.out.1.kept hB2, hSd⟩; clear hpd hSd hB2)
      by_cases ho : Once l
      · have hdl : d.length = l.length := HS.out.2.one.2 ho
        have i6 : ((d.length : Int) != (l.length : Int)) = false := by simp [hdl]
        obtain ⟨c20, c21, c22, _⟩ := wm_cells HS.out.1.b2
        have hpp := dpairs_any w2 Q pa pc ja jc m (HW.out.1.below HS.out.1.below) P HP.out.1 HP.out.2.1 (by have := HP.out.2.2.1; omega) hp4
        have HO : Hid (Once l) := ho
        clear hdl ho
        go_upto_region 13 with (go_at_call 45; refine hpp.mono ?_; clear hpp; rintro e w3 ⟨ha, hc, rfl, hpP, hB3⟩; have HT : Hid (DaI w w3 pa pc ja jc m ∧ PrV w3 ha P.length hc P) := ⟨HS.out.1.kept hB3, hpP⟩; clear hpP hB3)
        have hso := rsorted_any w3 la l.length lc l (HW.out.2.1.kept HT.out.1.below).prs (by omega)
        clear i6 c20 c21 c22 HS
        go_upto_block 2 with (go_at_call 44; refine hso.mono ?_; clear hso; rintro e w4 ⟨ta, tm, tc, rfl, e2, hpe, hSe, hB4⟩; have htm := hpe.prs.1; subst htm; have HU : Hid (DaI w w4 pa pc ja jc m ∧ PrV w4 ha P.length hc P ∧ PrV w4 ta e2.length tc e2 ∧ SortR l e2) := ⟨HT.out.1.kept hB4, HT.out.2.kept hB4, hpe, hSe⟩; clear hpe hSe hB4)
        go_wp2_with fail
        have HV0 : Hid (Below w4.heap.size w4 w4 ∧ w4.ownsRow w4.heap.size 39 2 (.slice none 0 0) ((e2.take 0).filter (fun p => (lookP P p.1).isNone)).length (prCells ((e2.take 0).filter (fun p => (lookP P p.1).isNone))) ∧ ∀ p ∈ e2.take 0, lookP P p.1 = none ∨ lookP P p.1 = some p.2) := ⟨Below.refl _ _, World.ownsRow_nil _ _ _ _, by simp⟩
        clear HT
        have hel : e2.length ≤ 40 := Nat.le_trans HU.out.2.2.2.len h40'
        go_loopg [10, 43] e2.length (fun gk v i wr => ∃ k : Nat, k + gk = e2.length ∧ i = .int .i64 (k : Int) ∧ Hid (Below w4.heap.size w4 wr ∧ wr.ownsRow w4.heap.size 39 2 v ((e2.take k).filter (fun p => (lookP P p.1).isNone)).length (prCells ((e2.take k).filter (fun p => (lookP P p.1).isNone))) ∧ ∀ p ∈ e2.take k, lookP P p.1 = none ∨ lookP P p.1 = some p.2))
        case atStart => exact ⟨0, by omega, rfl, HV0⟩
        case round =>
          clear HV0
          obtain ⟨k, hk, rfl, HI⟩ := hrel
          cases gk with
          | zero =>
            obtain rfl : k = e2.length := by omega
            have i6 : ¬ ((e2.length : Nat) : Int) < (e2.length : Int) := by omega
            clear hk
            obtain ⟨fa, fc, rfl, hfc, hfn⟩ := row_shapeV HI.out.2.1
            obtain ⟨F, hF⟩ : ∃ F, F = e2.filter (fun p => (lookP P p.1).isNone) := ⟨_, rfl⟩
            have hFl : F.length ≤ 40 := by rw [hF]; exact Nat.le_trans (List.length_filter_le _ _) hel
            have HF2 : Hid (Below w4.heap.size w4 wr ∧ wr.ownsRow w4.heap.size 39 2 (.slice fa F.length fc) F.length (prCells F) ∧ (∀ p ∈ e2, lookP P p.1 = none ∨ lookP P p.1 = some p.2) ∧ F = e2.filter (fun p => (lookP P p.1).isNone) ∧ F.length ≤ fc ∧ (fa = none → F.length = 0 ∧ fc = 0)) := by
              have := HI.out
              rw [List.take_length, ← hF] at this
              rw [List.take_length, ← hF] at hfc hfn
              exact ⟨this.1, this.2.1, this.2.2, hF, hfc, hfn⟩
            rw [List.take_length, ← hF]
            clear HI hfc hfn hF
            have HX := HU.out.1.kept HF2.out.1
            obtain ⟨c20, c21, c22, f20, f21, f22⟩ := wm_cells HX.b2
            obtain ⟨c40, c41, c42, f40, f41, f42⟩ := wm_cells HX.b4
            have HX : Hid (DaI w wr pa pc ja jc m) := HX
            by_cases hF0 : F = []
            · have i7 : ((F.length : Int) == 0) = true := by simp [hF0]
              have HF0 : Hid (F = []) := hF0
              clear hF0
              go_wp2_with fail
              refine HX.out.back HW.out.1 _ 0 rfl rfl rfl (.inl ⟨rfl, rfl, .inr (.inr ⟨HA.out.2, HO.out, e2, HU.out.2.2.2, .inr ⟨fun p hp => ?_, rfl⟩⟩)⟩)
              rcases HF2.out.2.2.1 p hp with e | e
              · have : p ∈ F := by rw [HF2.out.2.2.2.1]; exact List.mem_filter.2 ⟨hp, by rw [e]; rfl⟩
                rw [HF0.out] at this
                cases this
              · exact e
            · have hFp : 0 < F.length := List.length_pos_iff.2 hF0
              have i7 : ((F.length : Int) == 0) = false := by simp; omega
              have HF0 : Hid (F ≠ []) := hF0
              have hlast : m.last < 100000 := HP.out.2.2.2.2.1
              clear hF0
              go_upto_if 85 with fail
              go_cut [10] from 82 to 115 (fun _ wx => ∃ (pa' : Option Addr) (pc' : Nat) (M : List (Nat × List Pr)), Hid (AddM w wx Q pa' pc' ja jc m M F P))
              case first =>
                by_cases h4 : m.parts.length < 4
                · have i9 : (m.parts.length : Int) < 4 := by omega
                  have hpv : PtV w (fun k => Q k ∨ k = w.heap.size ∨ k = w.heap.size + 1) pa m.parts.length m.parts := HW.out.1.parts.more fun k h1 h2 h => by
                    rcases h with h | h | h
                    · exact h2 h
                    · omega
                    · omega
                  obtain ⟨xs, hxs, hxc⟩ := (hpv.below HX.out.below).list
                  clear hpv
                  have hpn := HW.out.1.pnil
                  have hsz4 : w4.heap.size ≤ wr.heap.size := HF2.out.1.size
                  have hBA : Below wr.heap.size wr (wr.alloc (.cells #[.int .i64 ((m.last : Int) + 1), .slice fa F.length fc] 99)) := (Below.refl _ wr).alloc (Nat.le_refl _) _
                  have hXA := HX.out.kept hBA
                  obtain ⟨cA0, _⟩ := wm_cells hXA.b2
                  have HL : Hid (PtL wr (fun k => Q k ∨ k = w.heap.size ∨ k = w.heap.size + 1) m.parts xs ∧ (0 < m.parts.length → ∃ b o, pa = some ⟨b, o, none⟩ ∧ ∀ j u, xs[j]? = some u → (wr.alloc (.cells #[.int .i64 ((m.last : Int) + 1), .slice fa F.length fc] 99)).cell? ⟨b, o + j, none⟩ = some u)) := ⟨hxs, fun h0 => by
                    obtain ⟨b, o, e, hc⟩ := hxc h0
                    exact ⟨b, o, e, fun j u hu => (hBA.cell (p := ⟨b, o + j, none⟩) (World.block_lt_of_cell? wr _ (hc j u hu))).trans (hc j u hu)⟩⟩
                  have HQ4 : Hid (∀ k, w4.heap.size ≤ k → ¬ (Q k ∨ k = w.heap.size ∨ k = w.heap.size + 1)) := fun k hk hq => by
                    have h1 := HU.out.1.size
                    rcases hq with hq | hq | hq
                    · have := HW.out.2.2.2 k hq; omega
                    · omega
                    · omega
                  clear hxs hxc hBA hXA
                  go_wp2_with (at_builtin; refine wpList_appT rfl _ _ rfl wr.heap.size 1 m.parts.length pc _ [.int .i64 ((m.last : Int) + 1), .slice fa F.length fc] xs pa rfl rfl (pt_one wr wr.heap.size (Nat.le_refl _) _ _) HL.out.1.1 HL.out.2 HL.out.1.2.2 hpn (by omega) (by rw [World.size_alloc]; omega) ?_; intro a6 c6 w6 hc6 hown6 hB6; have hB46 : Below w4.heap.size w4 w6 := HF2.out.1.trans ((((Below.refl _ wr).alloc (Nat.le_refl _) _).trans hB6).mono hsz4); have hX6 := HU.out.1.kept hB46; obtain ⟨d20, d21, d22, g20, g21, g22⟩ := wm_cells hX6.b2; have HR6 : Hid (w6.ownsRow wr.heap.size 99 2 (.slice a6 (1 + m.parts.length) c6) (1 + m.parts.length) ([.int .i64 ((m.last : Int) + 1), .slice fa F.length fc] ++ xs) ∧ Below wr.heap.size (wr.alloc (.cells #[.int .i64 ((m.last : Int) + 1), .slice fa F.length fc] 99)) w6 ∧ Below w4.heap.size w4 w6 ∧ 1 + m.parts.length ≤ c6 ∧ w4.heap.size ≤ wr.heap.size) := ⟨hown6, hB6, hB46, hc6, hsz4⟩; clear hown6 hB6 hB46 hX6 c20 c21 c22 f20 f21 f22 c40 c41 c42 f40 f41 f42)
                  have HN : Hid (AddM w (w6.setCell ⟨w.heap.size, 0, none⟩ (.slice a6 (1 + m.parts.length) c6)) Q a6 c6 ja jc m ((m.last + 1, F) :: m.parts) F P) := by
                    have hX6 := HU.out.1.kept HR6.out.2.2.1
                    have hT := turn_setCell w6 w.heap.size 0 (.slice a6 (1 + m.parts.length) c6)
                    have hpf : Pv wr (fun k => Q k ∨ k = w.heap.size ∨ k = w.heap.size + 1) fa F.length fc F := by
                      refine ⟨⟨own_prs HF2.out.2.1 rfl, HF2.out.2.2.2.2.2, HF2.out.2.2.2.2.1⟩, fun _ x ex => ?_⟩
                      obtain ⟨h1, h2⟩ := HF2.out.2.1.lt x.block (by rw [ex]; rfl)
                      exact ⟨h2, HQ4.out _ h1⟩
                    have hall6 : PtL w6 (fun k => Q k ∨ k = w.heap.size ∨ k = w.heap.size + 1) ((m.last + 1, F) :: m.parts) ([.int .i64 ((m.last : Int) + 1), .slice fa F.length fc] ++ xs) :=
                      (HL.out.1.cons (m.last + 1) hpf).below (((Below.refl _ wr).alloc (Nat.le_refl _) _).trans HR6.out.2.1)
                    have hlen : 1 + m.parts.length = ((m.last + 1, F) :: m.parts).length := by simp; omega
                    refine ⟨hX6.below.trans (hT.below hX6.below.size fun k e => by omega), ?_, ?_, ?_, by rw [← hlen]; exact HR6.out.2.2.2.1, fun e => ?_, F, .inl ⟨h4, rfl, rfl⟩⟩
                    · rw [← hlen]; exact (three_set hX6.b2 _).2.2
                    · exact (hT.block _ (by have := hX6.size; omega) (by omega)).trans hX6.b4
                    · rw [← hlen]
                      exact (own_ptv HR6.out.1 hall6 fun k hk => HQ4.out k (Nat.le_trans HR6.out.2.2.2.2 hk)).mv hT fun k _ e => .inr (.inl e)
                    · subst e
                      rcases HR6.out.1.2 with ⟨_, h0⟩ | ⟨_, _, _, e, _⟩
                      · omega
                      · cases e
                  go_meet
                  case rel => exact ⟨a6, c6, (m.last + 1, F) :: m.parts, HN⟩
                · have i9 : ¬ (m.parts.length : Int) < 4 := by omega
                  have HH4 : Hid (4 ≤ m.parts.length) := (by omega : 4 ≤ m.parts.length)
                  have HQ4 : Hid (∀ k, w4.heap.size ≤ k → ¬ (Q k ∨ k = w.heap.size ∨ k = w.heap.size + 1)) := fun k hk hq => by
                    have h1 := HU.out.1.size
                    rcases hq with hq | hq | hq
                    · have := HW.out.2.2.2 k hq; omega
                    · omega
                    · omega
                  have hFr : Ris F := by
                    rw [HF2.out.2.2.2.1]
                    exact HU.out.2.2.2.ris.sublist List.filter_sublist
                  have HV0 : Hid (Below w4.heap.size w4 wr ∧ PrV wr fa F.length fc F ∧ SortR (F ++ P.take 0) F ∧ ∀ q, fa = some q → w4.heap.size ≤ q.block) := by
                    refine ⟨HF2.out.1, ⟨own_prs HF2.out.2.1 rfl, HF2.out.2.2.2.2.2, HF2.out.2.2.2.2.1⟩, ?_, fun q e => (HF2.out.2.1.lt q.block (by rw [e]; rfl)).1⟩
                    rw [List.take_zero, List.append_nil]
                    exact ⟨hFr, fun _ => rfl, id, Nat.le_refl _, ⟨fun _ => Ris.once hFr, fun _ => rfl⟩⟩
                  clear h4 hFr
                  go_upto_block 4 with fail
                  go_wp2_with fail
                  go_loopg [10, 98] P.length (fun gk v i wx => ∃ (k : Nat) (ga : Option Addr) (gc : Nat) (L : List Pr), k + gk = P.length ∧ i = .int .i64 (k : Int) ∧ v = .slice ga L.length gc ∧ Hid (Below w4.heap.size w4 wx ∧ PrV wx ga L.length gc L ∧ SortR (F ++ P.take k) L ∧ ∀ q, ga = some q → w4.heap.size ≤ q.block))
                  case atStart => exact ⟨0, fa, fc, F, by omega, rfl, rfl, HV0⟩
                  case round =>
                    clear HV0 c20 c21 c22 f20 f21 f22 c40 c41 c42 f40 f41 f42
                    obtain ⟨k, ga, gc, L, hk, rfl, rfl, HI⟩ := hrel
                    cases gk with
                    | zero =>
                      obtain rfl : k = P.length := by omega
                      have i10 : ¬ ((P.length : Nat) : Int) < (P.length : Int) := by omega
                      clear hk
                      have hXk := HU.out.1.kept HI.out.1
                      obtain ⟨_, d21, _⟩ := wm_cells hXk.b2
                      have hBA : Below wr.heap.size wr (wr.alloc (.cells #[.int .i64 ((m.last : Int) + 1), .slice ga L.length gc] 99)) := (Below.refl _ wr).alloc (Nat.le_refl _) _
                      have hXA := hXk.kept hBA
                      obtain ⟨d20, _, _, g20, _⟩ := wm_cells hXA.b2
                      have hT := turn_setCell (wr.alloc (.cells #[.int .i64 ((m.last : Int) + 1), .slice ga L.length gc] 99)) w.heap.size 0 (.slice (some ⟨wr.heap.size, 0, none⟩) 1 1)
                      have HN : Hid (AddM w ((wr.alloc (.cells #[.int .i64 ((m.last : Int) + 1), .slice ga L.length gc] 99)).setCell ⟨w.heap.size, 0, none⟩ (.slice (some ⟨wr.heap.size, 0, none⟩) 1 1)) Q (some ⟨wr.heap.size, 0, none⟩) 1 ja jc m [(m.last + 1, L)] F P) := by
                        have hpl : Pv wr (fun k => Q k ∨ k = w.heap.size ∨ k = w.heap.size + 1) ga L.length gc L := ⟨HI.out.2.1, fun h0 x e => by
                          obtain ⟨b, o, e2, hcs⟩ := HI.out.2.1.prs.2 h0
                          rw [e] at e2
                          cases e2
                          obtain ⟨z, hz⟩ : ∃ z, L[0]? = some z := ⟨_, List.getElem?_eq_getElem h0⟩
                          exact ⟨World.block_lt_of_cell? wr _ (hcs 0 z hz).1, HQ4.out _ (HI.out.2.2.2 _ e)⟩⟩
                        have hpt := (((PtL.nil wr _).cons (m.last + 1) hpl).below hBA)
                        refine ⟨hXA.below.trans (hT.below hXA.below.size fun k e => by omega), (three_set hXA.b2 _).2.2, (hT.block _ (by have := hXA.size; omega) (by omega)).trans hXA.b4, ?_, Nat.le_refl _, fun e => (by cases e), L, .inr ⟨HH4.out, by have := HI.out.2.2.1; rwa [List.take_length] at this, rfl⟩⟩
                        exact (own_ptv (pt_one wr w4.heap.size HI.out.1.size _ _) hpt HQ4.out).mv hT fun k _ e => .inr (.inl e)
                      clear hBA hXA hXk hT
                      go_wp2_with fail
                      go_meet
                      case rel => exact ⟨some ⟨wr.heap.size, 0, none⟩, 1, [(m.last + 1, L)], HN⟩
                    | succ g =>
                      obtain ⟨⟨x, y⟩, hx⟩ : ∃ x, P[k]? = some x := ⟨_, List.getElem?_eq_getElem (by omega)⟩
                      obtain ⟨hb, ho', rfl, hcs⟩ := (HU.out.2.1.kept HI.out.1).prs.2 (by omega)
                      obtain ⟨q1, q2⟩ := hcs k _ hx
                      simp only at q1 q2
                      have i10 : (k : Int) < (P.length : Int) := by omega
                      obtain ⟨wd, hwd⟩ : ∃ wd, wd = wr.alloc (.cells #[.int .u64 (x : Int), .int .u64 (y : Int)] 39) := ⟨_, rfl⟩
                      have hBd : Below wr.heap.size wr wd := by rw [hwd]; exact (Below.refl _ wr).alloc (Nat.le_refl _) _
                      have hbd : wd.heap[wr.heap.size]? = some (.cells #[.int .u64 (x : Int), .int .u64 (y : Int)] 39) := by rw [hwd]; exact World.alloc_heap_new wr _
                      have cd0 : wd.cell? ⟨wr.heap.size, 0, none⟩ = some (.int .u64 (x : Int)) := by simp [World.cell?, hbd]
                      have cd1 : wd.cell? ⟨wr.heap.size, 1, none⟩ = some (.int .u64 (y : Int)) := by simp [World.cell?, hbd]
                      have hLl : L.length ≤ 4000 := by
                        have h1 := HI.out.2.2.1.len
                        rw [List.length_append, List.length_take] at h1
                        omega
                      have hput := rputC_any wd ga L.length gc x y L (HI.out.2.1.kept hBd) (by omega)
                      have HD : Hid (Below w4.heap.size w4 wd ∧ SortR (F ++ P.take k) L ∧ P.take (k + 1) = P.take k ++ [(x, y)] ∧ (∀ q, ga = some q → w4.heap.size ≤ q.block) ∧ w4.heap.size ≤ wd.heap.size) := ⟨HI.out.1.trans (hBd.mono HI.out.1.size), HI.out.2.2.1, by rw [List.take_add_one, hx]; rfl, HI.out.2.2.2, by have := HI.out.1.size; have := hBd.size; omega⟩
                      clear hcs hx hbd hBd HI
                      go_upto_region 31 with fail
                      rw [← hwd]
                      clear hwd q1 q2
                      go_wp2_with (go_at_call 47; refine hput.mono ?_; clear hput; rintro e w5 ⟨ad, mm, c', L3, rfl, hp3, hR3, hB5, hloc⟩; have HN : Hid (Below w4.heap.size w4 w5 ∧ PrV w5 ad mm c' L3 ∧ SortR (F ++ P.take (k + 1)) L3 ∧ (∀ q, ad = some q → w4.heap.size ≤ q.block) ∧ mm = L3.length) := ⟨HD.out.1.trans (hB5.mono HD.out.1.size), hp3, by rw [HD.out.2.2.1, ← List.append_assoc]; exact HD.out.2.1.step hR3, fun q e => (by rcases hloc with h | h; exact HD.out.2.2.2.1 q (h ▸ e); have := h q e; have := HD.out.2.2.2.2; omega), hp3.prs.1.symm⟩; clear hp3 hR3 hB5 HD hloc)
                      have hmm := HN.out.2.2.2.2
                      subst hmm
                      have HN2 : Hid (Below w4.heap.size w4 w5 ∧ PrV w5 ad L3.length c' L3 ∧ SortR (F ++ P.take (k + 1)) L3 ∧ ∀ q, ad = some q → w4.heap.size ≤ q.block) := ⟨HN.out.1, HN.out.2.1, HN.out.2.2.1, HN.out.2.2.2.1⟩
                      go_roundg g
                      case measure => omega
                      case rel => exact ⟨k + 1, ad, c', L3, by omega, by go_num, rfl, HN2⟩
              case rest =>
                obtain ⟨pa', pc', M, HM⟩ := hcut
                have HJ : Hid (∀ q, ((m.parts.length < 4 ∧ q = F ∧ M = (m.last + 1, q) :: m.parts) ∨ (4 ≤ m.parts.length ∧ SortR (F ++ P) q ∧ M = [(m.last + 1, q)])) → M.length ≤ 4 ∧ ∀ p ∈ M, p.1 < 1000000) := by
                  rintro q (⟨h4, _, rfl⟩ | ⟨_, _, rfl⟩)
                  · refine ⟨by simp; omega, fun p hp => ?_⟩
                    rcases List.mem_cons.1 hp with rfl | hp
                    · show m.last + 1 < 1000000; omega
                    · have := HP.out.2.2.2.1 p hp; omega
                  · refine ⟨by simp, fun p hp => ?_⟩
                    rw [List.mem_singleton.1 hp]
                    show m.last + 1 < 1000000
                    omega
                have hM4 : M.length ≤ 4 ∧ ∀ p ∈ M, p.1 < 1000000 := by
                  obtain ⟨q, hq⟩ := HM.out.rel
                  exact HJ.out q hq
                have hjw := HW.out.1.jn
                have hwm : WmV wc (fun k => k = w.heap.size) pa' pc' ja jc ⟨M, m.last, m.jn⟩ := {
                  parts := HM.out.parts.sub fun k e => .inr (.inl e)
                  pcap := HM.out.pcap
                  pnil := HM.out.pnil
                  jn := ⟨vbytes_below hjw.1 HM.out.below, fun h0 x e => ⟨Nat.lt_of_lt_of_le (hjw.2 h0 x e).1 HM.out.below.size, fun e2 => by have := (hjw.2 h0 x e).1; omega⟩⟩
                  jcap := HW.out.1.jcap
                  jnil := HW.out.1.jnil }
                have hrec := drecord_any wc w.heap.size pa' pc' ja jc ⟨M, m.last, m.jn⟩ HM.out.b2 hwm hM4.1 hM4.2 (by show m.last < 1000000; omega) (by have := HP.out.2.2.2.2.2.1; show m.jn.length ≤ 1000000; omega)
                obtain ⟨J, hJ⟩ : ∃ J, J = m.jn ++ recB (encR (Wm.nums ⟨M, m.last, m.jn⟩)) := ⟨_, rfl⟩
                obtain ⟨NN, hNN⟩ : ∃ NN, NN = (Wm.nums ⟨M, m.last, m.jn⟩).foldl max m.last := ⟨_, rfl⟩
                have hrec2 : Calls Tryz.prog 48 #[.pointer (some ⟨w.heap.size, 0, none⟩)] wc fun e w' => (∃ v, e = .returned v) ∧ ∃ ja' jc', w'.heap[w.heap.size]? = some (wmCells pa' pc' ja' jc' ⟨M, NN, J⟩) ∧ Bytes w' ja' J.length J ∧ (∀ x, ja' = some x → wc.heap.size ≤ x.block) ∧ J.length ≤ jc' ∧ (ja' = none → J.length = 0 ∧ jc' = 0) ∧ Turn (fun k => k = w.heap.size) wc w' := by
                  rw [hJ, hNN]; exact hrec
                have HJ2 : Hid (J = m.jn ++ recB (encR (Wm.nums ⟨M, m.last, m.jn⟩)) ∧ NN = (Wm.nums ⟨M, m.last, m.jn⟩).foldl max m.last) := ⟨hJ, hNN⟩
                clear hjw hwm hM4 hJ hNN hrec
                go_upto_region 35 with (go_at_call 48; refine hrec2.mono ?_; clear hrec2; rintro e w7 ⟨⟨v7, rfl⟩, ja', jc', hb7, hj7, hjl7, hjc7, hjn7, hT7⟩; have HZ : Hid (w7.heap[w.heap.size]? = some (wmCells pa' pc' ja' jc' ⟨M, NN, J⟩) ∧ Bytes w7 ja' J.length J ∧ (∀ x, ja' = some x → wc.heap.size ≤ x.block) ∧ J.length ≤ jc' ∧ (ja' = none → J.length = 0 ∧ jc' = 0) ∧ Turn (fun k => k = w.heap.size) wc w7) := ⟨hb7, hj7, hjl7, hjc7, hjn7, hT7⟩; clear hb7 hj7 hjl7 hjc7 hjn7 hT7)
                obtain ⟨hb7, hj7, hjl7, hjc7, hjn7, hT7⟩ := HZ.out
                have hb4 := (hT7.block _ (by have := (Array.getElem?_eq_some_iff.1 HM.out.b4).1; omega) (by omega)).trans HM.out.b4
                obtain ⟨c20, c21, c22, _⟩ := wm_cells hb7
                obtain ⟨c40, c41, c42, f40, f41, f42⟩ := wm_cells hb4
                have HB4 : Hid (w7.heap[w.heap.size + 1]? = some (.cells #[.slice none 0 0, .int .i64 0, .slice none 0 0] 35)) := hb4
                clear hb7 hj7 hjl7 hjc7 hjn7 hT7 hb4
                go_wp2_with fail
                have hT := put3_turn w7 (w.heap.size + 1) (.slice pa' M.length pc') (.int .i64 (NN : Int)) (.slice ja' J.length jc')
                have hB : Below w.heap.size w (put3 w7 (w.heap.size + 1) (.slice pa' M.length pc') (.int .i64 (NN : Int)) (.slice ja' J.length jc')) :=
                  (HM.out.below.trans (HZ.out.2.2.2.2.2.below HM.out.below.size fun k e => by omega)).trans (hT.below (by have := HM.out.below.size; have := HZ.out.2.2.2.2.2.size; omega) fun k e => by omega)
                have hV : WmV (put3 w7 (w.heap.size + 1) (.slice pa' M.length pc') (.int .i64 (NN : Int)) (.slice ja' J.length jc')) Q pa' pc' ja' jc' ⟨M, NN, J⟩ := by
                  have hparts := (HM.out.parts.mv HZ.out.2.2.2.2.2 fun k _ e => .inr (.inl e)).mv hT fun k _ e => .inr (.inr e)
                  have hwc := HM.out.below.size
                  have h74 := (Array.getElem?_eq_some_iff.1 HM.out.b4).1
                  refine { parts := hparts.sub fun k hk => .inl hk, pcap := HM.out.pcap, pnil := HM.out.pnil, jn := ⟨hT.bytes HZ.out.2.1 fun _ x e hx => ?_, fun h0 x e => ⟨?_, fun hq => ?_⟩⟩, jcap := HZ.out.2.2.2.1, jnil := HZ.out.2.2.2.2.1 }
                  · have := HZ.out.2.2.1 x e; omega
                  · obtain ⟨b, o, e2, hc⟩ := HZ.out.2.1.2 h0
                    rw [e] at e2
                    cases e2
                    exact Nat.lt_of_lt_of_le (World.block_lt_of_cell? w7 _ (hc 0 h0)) hT.size
                  · have := HZ.out.2.2.1 x e
                    have := HW.out.2.2.2 _ hq
                    omega
                have hD : DocA m l P ⟨M, NN, J⟩ true 0 := by
                  obtain ⟨q, hq⟩ := HM.out.rel
                  refine .inr ⟨HA.out.2, HO.out, rfl, rfl, e2, q, HU.out.2.2.2, HF2.out.2.2.1, by rw [← HF2.out.2.2.2.1]; exact HF0.out, ?_, HJ2.out.2, HJ2.out.1⟩
                  rw [← HF2.out.2.2.2.1]; exact hq
                exact dadd_fin _ (w.heap.size + 1) pa' pc' ja' jc' ⟨M, NN, J⟩ true 0 rfl rfl rfl (put3_heap HB4.out _ _ _) hD hV hB
          | succ g =>
            obtain ⟨⟨x, y⟩, hx⟩ : ∃ x, e2[k]? = some x := ⟨_, List.getElem?_eq_getElem (by omega)⟩
            obtain ⟨tb, to', rfl, hcs⟩ := (HU.out.2.2.1.kept HI.out.1).prs.2 (by omega)
            obtain ⟨q1, q2⟩ := hcs k _ hx
            simp only at q1 q2
            have i6 : (k : Int) < (e2.length : Int) := by omega
            obtain ⟨wb, hwb⟩ : ∃ wb, wb = wr.alloc (.cells #[.int .u64 (x : Int), .int .u64 (y : Int)] 39) := ⟨_, rfl⟩
            have hBa : Below wr.heap.size wr wb := by rw [hwb]; exact (Below.refl _ wr).alloc (Nat.le_refl _) _
            have hbb : wb.heap[wr.heap.size]? = some (.cells #[.int .u64 (x : Int), .int .u64 (y : Int)] 39) := by rw [hwb]; exact World.alloc_heap_new wr _
            have cb0 : wb.cell? ⟨wr.heap.size, 0, none⟩ = some (.int .u64 (x : Int)) := by simp [World.cell?, hbb]
            have cb1 : wb.cell? ⟨wr.heap.size, 1, none⟩ = some (.int .u64 (y : Int)) := by simp [World.cell?, hbb]
            have hB4b : Below w4.heap.size w4 wb := HI.out.1.trans (hBa.mono HI.out.1.size)
            have hPb : PrV wb ha P.length hc P := HU.out.2.1.kept hB4b
            have hf := rfind_any wb ha P.length hc x P hPb.prs (by omega)
            obtain ⟨F, hF⟩ : ∃ F, F = (e2.take k).filter (fun p => (lookP P p.1).isNone) := ⟨_, rfl⟩
            have hFl : F.length ≤ 40 := by
              rw [hF]
              refine Nat.le_trans (List.length_filter_le _ _) ?_
              rw [List.length_take]
              omega
            have HB : Hid (Below w4.heap.size w4 wb ∧ wb.ownsRow w4.heap.size 39 2 u10 F.length (prCells F) ∧ (∀ p ∈ e2.take k, lookP P p.1 = none ∨ lookP P p.1 = some p.2) ∧ e2[k]? = some (x, y) ∧ F = (e2.take k).filter (fun p => (lookP P p.1).isNone)) := ⟨hB4b, row_keptV (by rw [hF]; exact HI.out.2.1) hBa, HI.out.2.2, hx, hF⟩
            have htk : e2.take (k + 1) = e2.take k ++ [(x, y)] := by rw [List.take_add_one, hx]; rfl
            have HTK : Hid (e2.take (k + 1) = e2.take k ++ [(x, y)]) := htk
            clear hcs hx hbb hBa HI hB4b hF htk
            go_upto_region 16 with fail
            rw [← hwb]
            clear hwb q1 q2
            cases hlk : lookP P x with
            | none =>
              have hix := idxF_none P x 0 hlk
              rw [hix] at hf
              have HL : Hid (lookP P x = none) := hlk
              clear hix hlk hPb
              go_upto_region 17 with (go_at_call 46; refine hf.mono ?_; clear hf; rintro e w5 ⟨rfl, hw5⟩; subst w5)
              go_quiet (fail)
              have hBd : Below wb.heap.size wb (wb.drewN nq) := vbelow_drewN (Below.refl _ _) nq
              have cd0 := (hBd.cell (p := ⟨wr.heap.size, 0, none⟩) (World.block_lt_of_cell? wb _ cb0)).trans cb0
              have cd1 := (hBd.cell (p := ⟨wr.heap.size, 1, none⟩) (World.block_lt_of_cell? wb _ cb1)).trans cb1
              generalize wb.drewN nq = wd at *
              have HX : Hid (Below w4.heap.size w4 wd ∧ wd.ownsRow w4.heap.size 39 2 u10 F.length (prCells F)) := ⟨HB.out.1.trans (hBd.mono HB.out.1.size), row_keptV HB.out.2.1 hBd⟩
              clear hBd cb0 cb1
              go_wp2_with (at_builtin; refine wpList_appV rfl _ _ rfl w4.heap.size F.length 1 1 u10 F [(x, y)] (some ⟨wd.heap.size, 0, none⟩) rfl rfl (row_keptV HX.out.2 ((Below.refl _ wd).alloc (Nat.le_refl _) _)) (prs_one wd x y) (fun e => by cases e) (by omega) (by have := HX.out.1.size; simp; omega) ?_; intro a6 c6 w6 hc6 hown6 hB6; have HZ : Hid (Below w4.heap.size w4 w6 ∧ w6.ownsRow w4.heap.size 39 2 (.slice a6 (F.length + 1) c6) (F.length + 1) (prCells (F ++ [(x, y)]))) := ⟨HX.out.1.trans (((Below.refl _ wd).alloc HX.out.1.size _).trans hB6), hown6⟩; clear hown6 hB6 HX)
              have HN : Hid (Below w4.heap.size w4 w6 ∧ w6.ownsRow w4.heap.size 39 2 (.slice a6 (F.length + 1) c6) ((e2.take (k + 1)).filter (fun p => (lookP P p.1).isNone)).length (prCells ((e2.take (k + 1)).filter (fun p => (lookP P p.1).isNone))) ∧ ∀ p ∈ e2.take (k + 1), lookP P p.1 = none ∨ lookP P p.1 = some p.2) := by
                have e : (e2.take (k + 1)).filter (fun p => (lookP P p.1).isNone) = F ++ [(x, y)] := by
                  rw [HTK.out, List.filter_append, ← HB.out.2.2.2.2]
                  simp [HL.out]
                rw [e, List.length_append]
                refine ⟨HZ.out.1, HZ.out.2, fun p hp => ?_⟩
                rw [HTK.out] at hp
                rcases List.mem_append.1 hp with hp | hp
                · exact HB.out.2.2.1 p hp
                · rw [List.mem_singleton.1 hp]; exact .inl HL.out
              go_roundg g
              case measure => omega
              case rel => exact ⟨k + 1, by omega, by go_num, HN⟩
            | some z =>
              obtain ⟨j, hj1, hj2⟩ := idxF_some P x 0 z hlk
              rw [Nat.zero_add] at hj1
              rw [hj1] at hf
              have hjl := (List.getElem?_eq_some_iff.1 hj2).1
              obtain ⟨hb', ho', rfl, hcp⟩ := hPb.prs.2 (by omega)
              obtain ⟨r1, r2⟩ := hcp j _ hj2
              simp only at r1 r2
              have HL : Hid (lookP P x = some z) := hlk
              have i7 : (0 : Int) ≤ (j : Int) := by omega
              have i8 : ¬ ((j : Int) < 0) := by omega
              have i9 : (j : Int) < (P.length : Int) := by omega
              clear hlk hPb hcp hj1 hj2
              by_cases hzy : z = y
              · subst hzy
                go_upto_region 17 with (go_at_call 46; refine hf.mono ?_; clear hf; rintro e w5 ⟨rfl, hw5⟩; subst w5)
                go_quiet (fail)
                have hBd : Below wb.heap.size wb (wb.drewN nq) := vbelow_drewN (Below.refl _ _) nq
                generalize wb.drewN nq = wd at *
                have HN : Hid (Below w4.heap.size w4 wd ∧ wd.ownsRow w4.heap.size 39 2 u10 ((e2.take (k + 1)).filter (fun p => (lookP P p.1).isNone)).length (prCells ((e2.take (k + 1)).filter (fun p => (lookP P p.1).isNone))) ∧ ∀ p ∈ e2.take (k + 1), lookP P p.1 = none ∨ lookP P p.1 = some p.2) := by
                  have e : (e2.take (k + 1)).filter (fun p => (lookP P p.1).isNone) = F := by
                    rw [HTK.out, List.filter_append, ← HB.out.2.2.2.2]
                    simp [HL.out]
                  rw [e]
                  refine ⟨HB.out.1.trans (hBd.mono HB.out.1.size), row_keptV HB.out.2.1 hBd, fun p hp => ?_⟩
                  rw [HTK.out] at hp
                  rcases List.mem_append.1 hp with hp | hp
                  · exact HB.out.2.2.1 p hp
                  · rw [List.mem_singleton.1 hp]; exact .inr HL.out
                clear hBd
                go_wp2_with fail
                go_roundg g
                case measure => omega
                case rel => exact ⟨k + 1, by omega, by go_num, HN⟩
              · have i10 : ((z : Int) != (y : Int)) = true := by simp; omega
                have HZ : Hid (z ≠ y) := hzy
                clear hzy
                go_upto_region 17 with (go_at_call 46; refine hf.mono ?_; clear hf; rintro e w5 ⟨rfl, hw5⟩; subst w5)
                go_quiet (fail)
                have hBd : Below wb.heap.size wb (wb.drewN nq) := vbelow_drewN (Below.refl _ _) nq
                generalize wb.drewN nq = wd at *
                have HX := (HU.out.1.kept HB.out.1).kept hBd
                obtain ⟨c20, c21, c22, _⟩ := wm_cells HX.b2
                obtain ⟨c40, c41, c42, f40, f41, f42⟩ := wm_cells HX.b4
                have HX : Hid (DaI w wd pa pc ja jc m) := HX
                clear hBd
                go_wp2_with fail
                exact HX.out.back HW.out.1 _ 5 rfl rfl rfl (.inl ⟨rfl, rfl, .inr (.inr ⟨HA.out.2, HO.out, e2, HU.out.2.2.2, .inl ⟨⟨(x, y), List.mem_of_getElem? HB.out.2.2.2.1, z, HL.out, HZ.out⟩, rfl⟩⟩)⟩)
      · have hdl : d.length ≠ l.length := fun e => ho (HS.out.2.one.1 e)
        have i6 : ((d.length : Int) != (l.length : Int)) = true := by simp; omega
        obtain ⟨c20, c21, c22, _⟩ := wm_cells HS.out.1.b2
        obtain ⟨c40, c41, c42, f40, f41, f42⟩ := wm_cells HS.out.1.b4
        have HO : Hid (¬ Once l) := ho
        clear hdl ho
        go_wp2_with fail
        exact HS.out.1.back HW.out.1 _ 5 rfl rfl rfl (.inl ⟨rfl, rfl, .inr (.inl ⟨HA.out.2, HO.out, rfl⟩)⟩)
    | succ g =>
      obtain ⟨⟨x, y⟩, hx⟩ : ∃ x, l[k]? = some x := ⟨_, List.getElem?_eq_getElem (by omega)⟩
      obtain ⟨lb, lo, rfl, hcs⟩ := (HW.out.2.1.kept HI.out.1.below).prs.2 (by omega)
      obtain ⟨q1, q2⟩ := hcs k _ hx
      simp only at q1 q2
      have i5 : (k : Int) < (l.length : Int) := by omega
      obtain ⟨wb, hwb⟩ : ∃ wb, wb = wr.alloc (.cells #[.int .u64 (x : Int), .int .u64 (y : Int)] 39) := ⟨_, rfl⟩
      have hBa : Below wr.heap.size wr wb := by rw [hwb]; exact (Below.refl _ wr).alloc (Nat.le_refl _) _
      have hbb : wb.heap[wr.heap.size]? = some (.cells #[.int .u64 (x : Int), .int .u64 (y : Int)] 39) := by rw [hwb]; exact World.alloc_heap_new wr _
      have cb0 : wb.cell? ⟨wr.heap.size, 0, none⟩ = some (.int .u64 (x : Int)) := by simp [World.cell?, hbb]
      have HB : Hid (DaI w wb pa pc ja jc m ∧ (∀ p ∈ l.take k, p.1 ≠ 0) ∧ l[k]? = some (x, y)) := ⟨HI.out.1.kept hBa, HI.out.2, hx⟩
      clear hcs hx hbb hBa HI
      go_upto_region 6 with fail
      rw [← hwb]
      clear hwb q1 q2
      by_cases hx0 : x = 0
      · have i6 : ((x : Int) == 0) = true := by simp [hx0]
        obtain ⟨c20, c21, c22, _⟩ := wm_cells HB.out.1.b2
        obtain ⟨c40, c41, c42, f40, f41, f42⟩ := wm_cells HB.out.1.b4
        go_wp2_with fail
        exact HB.out.1.back HW.out.1 _ 2 rfl rfl rfl (.inl ⟨rfl, rfl, .inl ⟨⟨(x, y), List.mem_of_getElem? HB.out.2.2, hx0⟩, rfl⟩⟩)
      · have i6 : ((x : Int) == 0) = false := by simp; omega
        have HN : Hid (DaI w wb pa pc ja jc m ∧ ∀ p ∈ l.take (k + 1), p.1 ≠ 0) := ⟨HB.out.1, fun p hp => by
          rw [List.take_add_one, HB.out.2.2] at hp
          rcases List.mem_append.1 hp with hp | hp
          · exact HB.out.2.1 p hp
          · rw [List.mem_singleton.1 hp]; exact hx0⟩
        clear HB hx0
        go_wp2_with fail
        go_roundg g
        case measure => omega
        case rel => exact ⟨k + 1, by omega, by go_num, HN⟩
end Go.Proofs.YtdjodigimhgklaaGreatDoor
