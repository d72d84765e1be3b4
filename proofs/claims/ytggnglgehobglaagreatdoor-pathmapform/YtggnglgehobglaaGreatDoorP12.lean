import Derived.Test.YtggnglgehobglaaGreatDoorP11
import Derived.Test.YtggnglgehobglaaGreatDoorP05
import Derived.Deep.DeepCutAuto
/- The walks of a table's upper and rule. -/
namespace Go.Proofs.YtggnglgehobglaaGreatDoor
open Go.RowKit Go.Shelf Go.Maps

attribute [local go_sem] Oper.semAt_some

/-- the last rule that stands at one of these -/
def lastT (g : Tb) (ls : List (List UInt8)) : Ru := ls.foldl (fun a l => (g l).getD a) noR
/-- what the rule of a row would be without one of just that row -/
def uprT (g : Tb) (l : List UInt8) : Ru := lastT g (begL l)
def ruleT (g : Tb) (l : List UInt8) : Ru := (g l).getD (uprT g l)
theorem lastT_snoc (g : Tb) (ls : List (List UInt8)) (l : List UInt8) : lastT g (ls ++ [l]) = (g l).getD (lastT g ls) := by simp [lastT]
theorem boxR_keep {X Y : World} {row : Option Nat} {B b0 : Nat} {k : Int} {f t : ByteArray} (h : BoxR X B k f t) (hg : X.grownBy Y row) (hr : ∀ r, row = some r → b0 ≤ r ∧ ∃ o : Obj, X.heap[r]? = some o ∧ o.isCells = false) : BoxR Y B k f t :=
  (hg.block B h.lt (fun e => by
    obtain ⟨_, o, ho, hc⟩ := hr B e.symm
    rw [show X.heap[B]? = _ from h] at ho
    cases ho
    cases hc)).trans h
theorem set3_boxed {W : World} {B g : Nat} {t : TypeId} {u : Value} (h : Boxed W B t u) (hk : B ≠ g) (a b c : Value) : Boxed (((W.setCell ⟨g, 0, none⟩ a).setCell ⟨g, 1, none⟩ b).setCell ⟨g, 2, none⟩ c) B t u :=
  (Below.heap_setCell _ _ _ _ hk).trans ((Below.heap_setCell _ _ _ _ hk).trans ((Below.heap_setCell _ _ _ _ hk).trans h))
theorem mrule_ret_d {n k : Nat} {fn : Func} {W : World} {p D : Nat} {kk : Int} {f t : ByteArray} {tmps : Array Value} {P : Ending → World → Prop} (hf : fn.results = #[ResultVar.cell k 31]) (hb : BoxR W p kk f t) (ha : tmps[k]?.getD undef = .pointer (some ⟨p, 0, none⟩)) (hK : W.heap[D]? = some (.deferred (some []))) (hP : P (.returned (rv kk f t)) (W.putObj D (.deferred none))) :
    bodyPostM Fence.wide n Tryz.prog fn P Exit.ret { tmps := tmps, defers := [{ target := .collected D, args := #[] }] } W := by
  have hb' : BoxR (W.putObj D (.deferred none)) p kk f t := boxR_keep (b0 := 0) hb (grownBy_putObj' _ D (.deferred none)) (fun r e => by cases e; exact ⟨Nat.zero_le _, _, hK, rfl⟩)
  obtain ⟨c0, c1, c2⟩ := hb'.cell
  refine ⟨by simp, .inl ⟨_, _, rfl, run_takeDeferred hK, ?_⟩⟩
  exact ⟨rv kk f t, by simp [results, hf, go_sem, ha, c0, c1, c2], hP⟩
/-- what stands while the beginnings are gone through -/
structure UprI {s : ByteArray} (w : World) (b : Nat) (g : Tb) (n : Nat) (pre : List (Bg s)) (W : World) : Prop where
  tb : Boxed W w.heap.size 58 (.map (some b))
  rs : BoxR W (w.heap.size + 1) 0 ⟨#[]⟩ ⟨#[]⟩
  la : BoxR W (w.heap.size + 2) (lastT g (pre.map Bg.at)).1 (mk (lastT g (pre.map Bg.at)).2.1) (mk (lastT g (pre.map Bg.at)).2.2)
  p : Boxed W (w.heap.size + 3) 9 (.string s)
  t : TbAt W b g n
  bl : Below w.heap.size w W
theorem uprI_own {s : ByteArray} (w : World) (b : Nat) (hb : b < w.heap.size) (g : Tb) (n b0 : Nat) (h0 : w.heap.size ≤ b0) : OwnFrom b0 (UprI (s := s) w b g n) := fun _ _ _ _ hs hg hr =>
  ⟨boxed_keep hs.tb hg hr, boxR_keep hs.rs hg hr, boxR_keep hs.la hg hr, boxed_keep hs.p hg hr, hs.t.kept (hg.block b hs.t.lt (fun e => by have := (hr b e.symm).1; omega)), below_keep hs.bl (Nat.le_refl _) h0 hg hr⟩
theorem UprI.alloc {s : ByteArray} {w : World} {b : Nat} {g : Tb} {n : Nat} {pre : List (Bg s)} {W : World} (h : UprI w b g n pre W) (o : Obj) : UprI w b g n pre (W.alloc o) :=
  ⟨h.tb.alloc _, (Below.heap_alloc _ _ _ h.rs.lt).trans h.rs, (Below.heap_alloc _ _ _ h.la.lt).trans h.la, h.p.alloc _, h.t.below ((Below.refl _ W).alloc (Nat.le_refl _) _), h.bl.alloc h.bl.size _⟩

set_option maxRecDepth 100000 in
set_option maxHeartbeats 4000000 in
theorem upper_any (w : World) (b : Nat) (g : Tb) (n : Nat) (s : ByteArray) (hT : TbAt w b g n) (hs : s.size ≤ maxLen) :
    Calls Tryz.prog 38 #[.map (some b), .string s] w fun e w' => e = .returned (ruV (uprT g (bs s))) ∧ Below w.heap.size w w' := by
  have hbl := hT.lt
  refine (callsIn_wide (n := 5)).1 ?_
  refine callsIn_of_wp_marks Tryz.func38 rfl trivial ?_ rfl
  simp only [Tryz.ntmps38, List.size_toArray, List.length_cons, List.length_nil, Nat.reduceAdd, Nat.reduceSub, Array.replicate_succ, Array.replicate_zero, List.push_toArray, List.append_toArray, List.nil_append, List.cons_append]
  refine wpIn_wide.2 ?_
  go_wp2_with fail
  refine (begin_any s _).mono ?_
  rintro e w' ⟨rfl, rfl⟩
  go_wp2_with fail
  obtain ⟨w4, hw4⟩ : ∃ w4, w4 = (((w.alloc (.cells #[.map (some b)] 58)).alloc (.cells #[.int .i64 0, .string ⟨#[]⟩, .string ⟨#[]⟩] 31)).alloc (.cells #[.int .i64 0, .string ⟨#[]⟩, .string ⟨#[]⟩] 31)).alloc (.cells #[.string s] 9) := ⟨_, rfl⟩
  have hs4 : w4.heap.size = w.heap.size + 4 := by rw [hw4]; simp
  have hB4 : Below w.heap.size w w4 := by
    rw [hw4]; exact ((((Below.refl _ w).alloc (Nat.le_refl _) _).alloc (by simp) _).alloc (by simp; omega) _).alloc (by simp; omega) _
  have h0 : UprI (s := s) w b g n [] w4 := by
    refine ⟨?_, ?_, ?_, ?_, ?_, hB4⟩
    · rw [hw4]; exact ((((Boxed.new w 58 (.map (some b))).alloc _).alloc _).alloc _)
    · rw [hw4]
      have h := BoxR.new (w.alloc (.cells #[.map (some b)] 58)) 0 ⟨#[]⟩ ⟨#[]⟩
      rw [World.size_alloc] at h
      exact (Below.heap_alloc _ _ _ (by simp)).trans ((Below.heap_alloc _ _ _ (by simp)).trans h)
    · rw [hw4]
      have h := BoxR.new ((w.alloc (.cells #[.map (some b)] 58)).alloc (.cells #[.int .i64 0, .string ⟨#[]⟩, .string ⟨#[]⟩] 31)) 0 ⟨#[]⟩ ⟨#[]⟩
      rw [World.size_alloc, World.size_alloc] at h
      exact (Below.heap_alloc _ _ _ (by simp)).trans h
    · rw [hw4]
      have h := Boxed.new (((w.alloc (.cells #[.map (some b)] 58)).alloc (.cells #[.int .i64 0, .string ⟨#[]⟩, .string ⟨#[]⟩] 31)).alloc (.cells #[.int .i64 0, .string ⟨#[]⟩, .string ⟨#[]⟩] 31)) 9 (.string s)
      rw [World.size_alloc, World.size_alloc, World.size_alloc] at h
      exact h
    · exact hT.kept (hB4.block b hbl)
  rw [← hw4]
  clear hw4 hT
  refine (wpIn_wide (n := 5)).1 ?_
  refine wpIn_rangeFunc_ownG (w := w4) (w0 := w4) rfl (by omega) (gf := 83) (lb := #[.pointer (some ⟨w.heap.size + 3, 0, none⟩)]) rfl trivial (enters_of Tryz.func83 (by kernel_rfl) rfl)
    (begin_stops s hs w4 (w.heap.size + 3) h0.p 4 (by omega)) KpB.t (fun W l o o' hl ho _ hw => ⟨KeepsWalks.putObj _ ho hw, World.putObj_heap_other (by omega)⟩) (Below.refl _ _) (fun _ => rfl)
    (UprI w b g n) (fun _ _ _ => False) (uprI_own w b hbl g n _ (by omega)) (fun _ _ _ _ _ h _ _ => h)
    h0 ?act ?assign ?body ?done ?stop
  case assign =>
    intro l x W K hK
    gi_wp2
    exact hK
  case body =>
    rintro l pre x W hI hlen
    have cT := hI.tb.cell
    have hlk := hI.t.look x.1 (Nat.le_trans x.2 hs)
    have H : Hid (UprI w b g n pre W) := hI
    clear hI hlen h0 hB4
    cases hg : g (bs x.1) with
    | none =>
      rw [hg] at hlk
      simp only [Option.getD_none, Option.isSome_none] at hlk
      rw [show ruV noR = rv 0 ⟨#[]⟩ ⟨#[]⟩ from rfl] at hlk
      have HX : Hid (UprI w b g n (pre ++ [x]) (W.alloc (.cells #[.int .i64 0, .string ⟨#[]⟩, .string ⟨#[]⟩] 31))) := by
        have h := H.out.alloc (.cells #[.int .i64 0, .string ⟨#[]⟩, .string ⟨#[]⟩] 31)
        have e : lastT g ((pre ++ [x]).map Bg.at) = lastT g (pre.map Bg.at) := by
          rw [List.map_append, List.map_singleton, lastT_snoc]
          show (g (bs x.1)).getD _ = _
          rw [hg]; rfl
        exact ⟨h.tb, h.rs, by rw [e]; exact h.la, h.p, h.t, h.bl⟩
      clear hg
      gi_wp2
      exact ⟨(KeepsOthers.alloc _ _).from _, ⟨(KeepsOthers.alloc _ _).walks, HX.out.p.trans H.out.p.symm⟩, HX.out⟩
    | some r =>
      rw [hg] at hlk
      simp only [Option.getD_some, Option.isSome_some] at hlk
      obtain ⟨k, f, t⟩ := r
      obtain ⟨f', hf'⟩ : ∃ f', f' = mk f := ⟨_, rfl⟩
      obtain ⟨t', ht'⟩ : ∃ t', t' = mk t := ⟨_, rfl⟩
      rw [show ruV (k, f, t) = rv k f' t' by rw [hf', ht']] at hlk
      have h := H.out
      obtain ⟨d0, d1, d2⟩ := (BoxR.new W k f' t').cell
      obtain ⟨z0, z1, z2⟩ := H.out.la.frozen
      obtain ⟨y0, y1, y2⟩ := H.out.la.cell
      have hne2 : w.heap.size + 2 ≠ W.heap.size := by have := H.out.la.lt; omega
      have hne3 : w.heap.size + 2 < W.heap.size := H.out.la.lt
      have HX : Hid (UprI w b g n (pre ++ [x]) ((((W.setCell ⟨w.heap.size + 2, 0, none⟩ (.int .i64 k)).setCell ⟨w.heap.size + 2, 1, none⟩ (.string f')).setCell ⟨w.heap.size + 2, 2, none⟩ (.string t')).alloc (.cells #[.int .i64 k, .string f', .string t'] 31))) := by
        have e : lastT g ((pre ++ [x]).map Bg.at) = (k, f, t) := by
          rw [List.map_append, List.map_singleton, lastT_snoc]
          show (g (bs x.1)).getD _ = _
          rw [hg]; rfl
        refine UprI.alloc ⟨set3_boxed h.tb (by omega) _ _ _, ?_, ?_, set3_boxed h.p (by omega) _ _ _, ?_, ?_⟩ _
        · exact (Below.heap_setCell _ _ _ _ (show w.heap.size + 1 ≠ w.heap.size + 2 by omega)).trans ((Below.heap_setCell _ _ _ _ (show w.heap.size + 1 ≠ w.heap.size + 2 by omega)).trans ((Below.heap_setCell _ _ _ _ (show w.heap.size + 1 ≠ w.heap.size + 2 by omega)).trans h.rs))
        · rw [e]
          have := h.la.all k f' t'
          rw [hf', ht'] at this ⊢
          exact this
        · refine h.t.kept ?_
          rw [Below.heap_setCell _ _ _ _ (show b ≠ w.heap.size + 2 by omega), Below.heap_setCell _ _ _ _ (show b ≠ w.heap.size + 2 by omega), Below.heap_setCell _ _ _ _ (show b ≠ w.heap.size + 2 by omega)]
        · exact ((h.bl.setCell (p := ⟨w.heap.size + 2, 0, none⟩) (by show w.heap.size ≤ w.heap.size + 2; omega) _).setCell (p := ⟨w.heap.size + 2, 1, none⟩) (by show w.heap.size ≤ w.heap.size + 2; omega) _).setCell (p := ⟨w.heap.size + 2, 2, none⟩) (by show w.heap.size ≤ w.heap.size + 2; omega) _
      have HK : Hid (KeepsOthers W ((((W.setCell ⟨w.heap.size + 2, 0, none⟩ (.int .i64 k)).setCell ⟨w.heap.size + 2, 1, none⟩ (.string f')).setCell ⟨w.heap.size + 2, 2, none⟩ (.string t')).alloc (.cells #[.int .i64 k, .string f', .string t'] 31))) := (((KeepsOthers.setCell _ _ _).trans (KeepsOthers.setCell _ _ _)).trans (KeepsOthers.setCell _ _ _)).trans (KeepsOthers.alloc _ _)
      clear hg h hf' ht'
      gi_wp2
      exact ⟨HK.out.from _, ⟨HK.out.walks, HX.out.p.trans H.out.p.symm⟩, HX.out⟩
  case done =>
    rintro D xs W hD hS hI hK
    have hla : BoxR W (w.heap.size + 2) (uprT g (bs s)).1 (mk (uprT g (bs s)).2.1) (mk (uprT g (bs s)).2.2) := by
      have h := hI.la
      rw [hS] at h
      exact h
    obtain ⟨k, hk⟩ : ∃ k, k = (uprT g (bs s)).1 := ⟨_, rfl⟩
    obtain ⟨f', hf'⟩ : ∃ f', f' = mk (uprT g (bs s)).2.1 := ⟨_, rfl⟩
    obtain ⟨t', ht'⟩ : ∃ t', t' = mk (uprT g (bs s)).2.2 := ⟨_, rfl⟩
    have HU : Hid (ruV (uprT g (bs s)) = rv k f' t') := by show _ = _; rw [hk, hf', ht']
    rw [← hk, ← hf', ← ht'] at hla
    clear hk hf' ht'
    obtain ⟨d0, d1, d2⟩ := hla.cell
    obtain ⟨z0, z1, z2⟩ := hI.rs.frozen
    obtain ⟨y0, y1, y2⟩ := hI.rs.cell
    have HE : Hid (BoxR (((W.setCell ⟨w.heap.size + 1, 0, none⟩ (.int .i64 k)).setCell ⟨w.heap.size + 1, 1, none⟩ (.string f')).setCell ⟨w.heap.size + 1, 2, none⟩ (.string t')) (w.heap.size + 1) k f' t') := hI.rs.all k f' t'
    have H : Hid (Below w.heap.size w (((W.setCell ⟨w.heap.size + 1, 0, none⟩ (.int .i64 k)).setCell ⟨w.heap.size + 1, 1, none⟩ (.string f')).setCell ⟨w.heap.size + 1, 2, none⟩ (.string t')) ∧ (((W.setCell ⟨w.heap.size + 1, 0, none⟩ (.int .i64 k)).setCell ⟨w.heap.size + 1, 1, none⟩ (.string f')).setCell ⟨w.heap.size + 1, 2, none⟩ (.string t')).heap[D]? = some (.deferred (some [])) ∧ w4.heap.size ≤ D) := by
      refine ⟨((hI.bl.setCell (p := ⟨w.heap.size + 1, 0, none⟩) (by show w.heap.size ≤ w.heap.size + 1; omega) _).setCell (p := ⟨w.heap.size + 1, 1, none⟩) (by show w.heap.size ≤ w.heap.size + 1; omega) _).setCell (p := ⟨w.heap.size + 1, 2, none⟩) (by show w.heap.size ≤ w.heap.size + 1; omega) _, ?_, hD⟩
      rw [Below.heap_setCell _ _ _ _ (show D ≠ w.heap.size + 1 by omega), Below.heap_setCell _ _ _ _ (show D ≠ w.heap.size + 1 by omega), Below.heap_setCell _ _ _ _ (show D ≠ w.heap.size + 1 by omega)]
      exact hK
    clear hI hS hK hD h0 hB4 hla
    gi_wp2
    go_wp2_with fail
    exact mrule_ret_d (k := 4) rfl HE.out rfl H.out.2.1 ⟨by rw [HU.out], H.out.1.trans (belowK_b (w := w) (Nat.le_refl _) _ D _ _ (by have := H.out.2.2; omega) H.out.2.1 rfl rfl)⟩
  case stop =>
    rintro D c pre W hD hS hX hK
    exact hX.elim
set_option maxRecDepth 100000 in
theorem trule_any (w : World) (b : Nat) (g : Tb) (n : Nat) (s : ByteArray) (hT : TbAt w b g n) (hs : s.size ≤ maxLen) :
    Calls Tryz.prog 31 #[.map (some b), .string s] w fun e w' => e = .returned (ruV (ruleT g (bs s))) ∧ Below w.heap.size w w' := by
  have hT1 := hT.below ((Below.refl _ w).alloc (Nat.le_refl _) (.cells #[.int .i64 0, .string ⟨#[]⟩, .string ⟨#[]⟩] 31))
  have hb1 := BoxR.new w 0 ⟨#[]⟩ ⟨#[]⟩
  have hBl : Below w.heap.size w (w.alloc (.cells #[.int .i64 0, .string ⟨#[]⟩, .string ⟨#[]⟩] 31)) := (Below.refl _ w).alloc (Nat.le_refl _) _
  have hsz : (w.alloc (.cells #[.int .i64 0, .string ⟨#[]⟩, .string ⟨#[]⟩] 31)).heap.size = w.heap.size + 1 := World.size_alloc _ _
  have HT : Hid (TbAt (w.alloc (.cells #[.int .i64 0, .string ⟨#[]⟩, .string ⟨#[]⟩] 31)) b g n ∧ Below w.heap.size w (w.alloc (.cells #[.int .i64 0, .string ⟨#[]⟩, .string ⟨#[]⟩] 31)) ∧ BoxR (w.alloc (.cells #[.int .i64 0, .string ⟨#[]⟩, .string ⟨#[]⟩] 31)) w.heap.size 0 ⟨#[]⟩ ⟨#[]⟩ ∧ (w.alloc (.cells #[.int .i64 0, .string ⟨#[]⟩, .string ⟨#[]⟩] 31)).heap.size = w.heap.size + 1) := ⟨hT1, hBl, hb1, hsz⟩
  have hlk := hT1.look s hs
  clear hT hT1 hb1 hBl hsz
  cases hg : g (bs s) with
  | some r =>
    obtain ⟨k, f, t⟩ := r
    rw [hg] at hlk
    simp only [Option.getD_some, Option.isSome_some] at hlk
    have e : ruleT g (bs s) = (k, f, t) := by unfold ruleT; rw [hg]; rfl
    rw [e]
    obtain ⟨f', hf'⟩ : ∃ f', f' = mk f := ⟨_, rfl⟩
    obtain ⟨t', ht'⟩ : ∃ t', t' = mk t := ⟨_, rfl⟩
    rw [show ruV (k, f, t) = rv k f' t' by rw [hf', ht']] at hlk ⊢
    clear hg e hf' ht'
    go_enter Tryz.func31, Tryz.ntmps31
    go_upto_region 1 with fail
    generalize w.alloc (.cells #[.int .i64 0, .string ⟨#[]⟩, .string ⟨#[]⟩] 31) = w1 at *
    obtain ⟨hT1, hB1, hb1, hs1⟩ := HT.out
    have hb2 := BoxR.new w1 k f' t'
    obtain ⟨d0, d1, d2⟩ := hb2.cell
    have hb3 : BoxR (w1.alloc (.cells #[.int .i64 k, .string f', .string t'] 31)) w.heap.size 0 ⟨#[]⟩ ⟨#[]⟩ := (Below.heap_alloc _ _ _ hb1.lt).trans hb1
    obtain ⟨y0, y1, y2⟩ := hb3.cell
    obtain ⟨z0, z1, z2⟩ := hb3.frozen
    have HE : Hid (BoxR ((((w1.alloc (.cells #[.int .i64 k, .string f', .string t'] 31)).setCell ⟨w.heap.size, 0, none⟩ (.int .i64 k)).setCell ⟨w.heap.size, 1, none⟩ (.string f')).setCell ⟨w.heap.size, 2, none⟩ (.string t')) w.heap.size k f' t' ∧ Below w.heap.size w ((((w1.alloc (.cells #[.int .i64 k, .string f', .string t'] 31)).setCell ⟨w.heap.size, 0, none⟩ (.int .i64 k)).setCell ⟨w.heap.size, 1, none⟩ (.string f')).setCell ⟨w.heap.size, 2, none⟩ (.string t'))) :=
      ⟨hb3.all k f' t', (((hB1.alloc hB1.size _).setCell (p := ⟨w.heap.size, 0, none⟩) (Nat.le_refl _) _).setCell (p := ⟨w.heap.size, 1, none⟩) (Nat.le_refl _) _).setCell (p := ⟨w.heap.size, 2, none⟩) (Nat.le_refl _) _⟩
    clear HT hT1 hB1 hb1 hs1 hb2 hb3
    go_wp2
    exact mrule_ret (k := 4) rfl HE.out.1 rfl rfl ⟨rfl, HE.out.2⟩
  | none =>
    rw [hg] at hlk
    simp only [Option.getD_none, Option.isSome_none] at hlk
    rw [show ruV noR = rv 0 ⟨#[]⟩ ⟨#[]⟩ from rfl] at hlk
    have e : ruleT g (bs s) = uprT g (bs s) := by unfold ruleT; rw [hg]; rfl
    rw [e]
    have hupf := fun W hT => upper_any W b g n s hT hs
    generalize uprT g (bs s) = U at *
    obtain ⟨k, f, t⟩ := U
    obtain ⟨f', hf'⟩ : ∃ f', f' = mk f := ⟨_, rfl⟩
    obtain ⟨t', ht'⟩ : ∃ t', t' = mk t := ⟨_, rfl⟩
    rw [show ruV (k, f, t) = rv k f' t' by rw [hf', ht']] at hupf ⊢
    clear hg e hf' ht'
    go_enter Tryz.func31, Tryz.ntmps31
    go_upto_region 1 with fail
    generalize w.alloc (.cells #[.int .i64 0, .string ⟨#[]⟩, .string ⟨#[]⟩] 31) = w1 at *
    have hT2 := HT.out.1.below ((Below.refl _ w1).alloc (Nat.le_refl _) (.cells #[.int .i64 0, .string ⟨#[]⟩, .string ⟨#[]⟩] 31))
    have hup := hupf _ hT2
    clear hT2 hupf
    go_wp2_with fail
    refine hup.mono ?_
    clear hup hlk
    rintro e w3 ⟨rfl, hB3⟩
    have hb2 : BoxR (w1.alloc (.cells #[.int .i64 0, .string ⟨#[]⟩, .string ⟨#[]⟩] 31)) w.heap.size 0 ⟨#[]⟩ ⟨#[]⟩ := (Below.heap_alloc _ _ _ HT.out.2.2.1.lt).trans HT.out.2.2.1
    have hb3 : BoxR w3 w.heap.size 0 ⟨#[]⟩ ⟨#[]⟩ := hb2.below hB3 hb2.lt
    have hB4 : Below w.heap.size w w3 := (HT.out.2.1.alloc HT.out.2.1.size _).trans (hB3.mono (HT.out.2.1.alloc HT.out.2.1.size _).size)
    obtain ⟨y0, y1, y2⟩ := hb3.cell
    obtain ⟨z0, z1, z2⟩ := hb3.frozen
    have HE : Hid (BoxR (((w3.setCell ⟨w.heap.size, 0, none⟩ (.int .i64 k)).setCell ⟨w.heap.size, 1, none⟩ (.string f')).setCell ⟨w.heap.size, 2, none⟩ (.string t')) w.heap.size k f' t' ∧ Below w.heap.size w (((w3.setCell ⟨w.heap.size, 0, none⟩ (.int .i64 k)).setCell ⟨w.heap.size, 1, none⟩ (.string f')).setCell ⟨w.heap.size, 2, none⟩ (.string t'))) :=
      ⟨hb3.all k f' t', ((hB4.setCell (p := ⟨w.heap.size, 0, none⟩) (Nat.le_refl _) _).setCell (p := ⟨w.heap.size, 1, none⟩) (Nat.le_refl _) _).setCell (p := ⟨w.heap.size, 2, none⟩) (Nat.le_refl _) _⟩
    clear HT hB3 hb2 hb3 hB4
    go_wp2
    exact mrule_ret (k := 4) rfl HE.out.1 rfl rfl ⟨rfl, HE.out.2⟩
end Go.Proofs.YtggnglgehobglaaGreatDoor

/- A Map in memory; the walks of its image and source. -/
namespace Go.Proofs.YtggnglgehobglaaGreatDoor
open Go.RowKit Go.Shelf Go.Maps

attribute [local go_sem] Oper.semAt_some

/-- all rules have paths -/
def FOk (F : List Ru) : Prop := ∀ r ∈ F, isP r.2.1 = true ∧ isP r.2.2 = true
theorem isP_len {l : List UInt8} (h : isP l = true) : l.length ≤ 200 := ((isP_iff l).1 h).1
theorem tabL_mem : ∀ (F : List Ru) (l : List UInt8) (r : Ru), tabL F l = some r → r ∈ F ∧ r.2.1 = l := by
  intro F
  have key : ∀ (F : List Ru) (g : Tb) (l : List UInt8) (r : Ru), F.foldl (fun g r => setT g r.2.1 r) g l = some r → (r ∈ F ∧ r.2.1 = l) ∨ g l = some r := by
    intro F
    induction F with
    | nil => intro g l r h; exact .inr h
    | cons x F ih =>
      intro g l r h
      rw [List.foldl_cons] at h
      rcases ih _ _ _ h with h1 | h1
      · exact .inl ⟨List.mem_cons_of_mem _ h1.1, h1.2⟩
      · unfold setT at h1
        split at h1
        · rename_i e
          cases h1
          exact .inl ⟨by simp, e.symm⟩
        · exact .inr h1
  intro l r h
  rcases key F _ l r h with h1 | h1
  · exact h1
  · cases h1
theorem lastT_mem (g : Tb) (ls : List (List UInt8)) : lastT g ls = noR ∨ ∃ l ∈ ls, g l = some (lastT g ls) := by
  have key : ∀ (ls : List (List UInt8)) (a : Ru), ls.foldl (fun a l => (g l).getD a) a = a ∨ ∃ l ∈ ls, g l = some (ls.foldl (fun a l => (g l).getD a) a) := by
    intro ls
    induction ls with
    | nil => intro a; exact .inl rfl
    | cons x ls ih =>
      intro a
      rw [List.foldl_cons]
      cases h : g x with
      | none =>
        rcases ih a with e | ⟨l, hl, e⟩
        · exact .inl e
        · exact .inr ⟨l, by simp [hl], e⟩
      | some r =>
        rcases ih r with e | ⟨l, hl, e⟩
        · exact .inr ⟨x, by simp, by rw [h]; exact congrArg some e.symm⟩
        · exact .inr ⟨l, by simp [hl], e⟩
  exact key ls noR
theorem ruleT_mem (F : List Ru) (l : List UInt8) : ruleT (tabL F) l = noR ∨ ruleT (tabL F) l ∈ F := by
  unfold ruleT
  cases h : tabL F l with
  | some r => exact .inr (tabL_mem F l r h).1
  | none =>
    rcases lastT_mem (tabL F) (begL l) with e | ⟨k, _, e⟩
    · exact .inl e
    · exact .inr (tabL_mem F k _ e).1
theorem ruleT_ok {F : List Ru} (h : FOk F) (l : List UInt8) : isP (ruleT (tabL F) l).2.1 = true ∧ isP (ruleT (tabL F) l).2.2 = true := by
  rcases ruleT_mem F l with e | e
  · rw [e]; exact ⟨isP_nil, isP_nil⟩
  · exact h _ e
/-- block m is a Map of these rules -/
structure MpAt (w : World) (m : Nat) (F : List Ru) : Prop where
  ex : ∃ a n c b, w.cell? ⟨m, 0, none⟩ = some (.slice a n c) ∧ w.cell? ⟨m, 1, none⟩ = some (.map (some b)) ∧ Rus w a n F ∧ n ≤ c ∧ TbAt w b (tabL F) n ∧ n ≤ 1000 ∧ (a = none → n = 0 ∧ c = 0)
  ok : FOk F
theorem MpAt.below {w w' : World} {m : Nat} {F : List Ru} (h : MpAt w m F) (hB : Below w.heap.size w w') : MpAt w' m F := by
  obtain ⟨a, n, c, b, c0, c1, h1, h2, h3, h4⟩ := h.ex
  exact ⟨⟨a, n, c, b, (hB.cell (p := ⟨m, 0, none⟩) (World.block_lt_of_cell? w _ c0)).trans c0, (hB.cell (p := ⟨m, 1, none⟩) (World.block_lt_of_cell? w _ c1)).trans c1, h1.kept hB, h2, h3.below hB, h4⟩, h.ok⟩
/-- To of a rule, as this layer takes it -/
def tgtR (r : Ru) : List UInt8 := if r.1 = 1 then r.2.1 else r.2.2
/-- the image of a row -/
def imgL (F : List Ru) (l : List UInt8) : Option (List UInt8) := if letsK (ruleT (tabL F) l).1 then some (joinR (tgtR (ruleT (tabL F) l)) ((restP l (ruleT (tabL F) l).2.1).getD [])) else none
theorem movB_R (r : Ru) (s : ByteArray) : movB r.1 (mk r.2.1) (mk r.2.2) s = mk (joinR (tgtR r) ((restP (bs s) r.2.1).getD [])) := by
  unfold movB joinB
  congr 1
  have e1 : bs (tgt r.1 (mk r.2.1) (mk r.2.2)) = tgtR r := by
    unfold tgt tgtR
    split <;> rw [bs_mk]
  have e2 : bs (restS s (mk r.2.1)) = (restP (bs s) r.2.1).getD [] := by unfold restS; rw [bs_mk, bs_mk]
  rw [e1, e2]
set_option maxRecDepth 100000 in
theorem image_any (w : World) (m : Nat) (F : List Ru) (s : ByteArray) (hM : MpAt w m F) (hs : s.size ≤ 400000) :
    Calls Tryz.prog 25 #[.pointer (some ⟨m, 0, none⟩), .string s] w fun e w' => e = .returned (.tuple #[.string (mk ((imgL F (bs s)).getD [])), .bool (imgL F (bs s)).isSome]) ∧ Below w.heap.size w w' := by
  obtain ⟨a, n, c, b, c0, c1, h1, h2, h3, h4⟩ := hM.ex
  have hru := trule_any w b (tabL F) n s h3 (by unfold maxLen; omega)
  have hok := ruleT_ok hM.ok (bs s)
  have hmv := movB_R (ruleT (tabL F) (bs s)) s
  have HI : Hid (imgL F (bs s) = if letsK (ruleT (tabL F) (bs s)).1 then some (joinR (tgtR (ruleT (tabL F) (bs s))) ((restP (bs s) (ruleT (tabL F) (bs s)).2.1).getD [])) else none) := rfl
  generalize imgL F (bs s) = I at *
  generalize ruleT (tabL F) (bs s) = r at *
  obtain ⟨k, f, t⟩ := r
  simp only at hok hmv HI
  obtain ⟨f', hf'⟩ : ∃ f', f' = mk f := ⟨_, rfl⟩
  obtain ⟨t', ht'⟩ : ∃ t', t' = mk t := ⟨_, rfl⟩
  rw [show ruV (k, f, t) = rv k f' t' by rw [hf', ht']] at hru
  have hfs : f'.size ≤ 500000 := by rw [hf', ← bs_len, bs_mk]; have := isP_len hok.1; omega
  have hts : t'.size ≤ 500000 := by rw [ht', ← bs_len, bs_mk]; have := isP_len hok.2; omega
  have hfr : rightB (bs f') = true := by rw [hf', bs_mk]; exact right_path f hok.1
  have hmo := fun W => moved_any k f' t' s W hfs hts (by omega) hfr
  have hle := fun W => lets_any k f' t' W
  rw [← hf', ← ht'] at hmv
  rw [hmv] at hmo
  generalize joinR (tgtR (k, f, t)) ((restP (bs s) f).getD []) = J at *
  clear hmv hf' ht' h1 h2 h3 h4 hM c0 hfs hts hfr hok
  cases hl : letsK k with
  | true =>
    rw [hl] at hle
    have HI2 : Hid (I = some J) := by show _ = _; rw [HI.out, hl]; rfl
    clear HI hl
    go_enter Tryz.func25, Tryz.ntmps25
    go_wp2_with fail
    refine hru.mono ?_
    clear hru c1
    rintro e w1 ⟨rfl, hB1⟩
    have HB1 : Hid (Below w.heap.size w w1) := hB1
    have HBx : Hid (BoxR (w1.alloc (.cells #[.int .i64 k, .string f', .string t'] 31)) w1.heap.size k f' t' ∧ Below w.heap.size w (w1.alloc (.cells #[.int .i64 k, .string f', .string t'] 31))) := ⟨BoxR.new w1 k f' t', hB1.alloc hB1.size _⟩
    clear hB1
    go_upto_region 2 with fail
    generalize w1.alloc (.cells #[.int .i64 k, .string f', .string t'] 31) = w2 at *
    obtain ⟨d0, d1, d2⟩ := HBx.out.1.cell
    go_wp2_with fail
    refine (hle _).mono ?_
    clear hle d0 d1 d2
    rintro e w3 ⟨rfl, hB3⟩
    obtain ⟨d0, d1, d2⟩ := (HBx.out.1.below hB3 HBx.out.1.lt).cell
    have HB3 : Hid (Below w.heap.size w w3) := HBx.out.2.trans (hB3.mono HBx.out.2.size)
    clear hB3
    go_wp2_with fail
    refine (hmo _).mono ?_
    clear hmo d0 d1 d2
    rintro e w4 ⟨rfl, hB4⟩
    have HB4 : Hid (Below w.heap.size w w4) := HB3.out.trans (hB4.mono HB3.out.size)
    clear hB4
    go_wp2
    go_ret2
    exact ⟨by rw [HI2.out]; rfl, HB4.out⟩
  | false =>
    rw [hl] at hle
    have HI2 : Hid (I = none) := by show _ = _; rw [HI.out, hl]; rfl
    clear HI hl hmo
    go_enter Tryz.func25, Tryz.ntmps25
    go_wp2_with fail
    refine hru.mono ?_
    clear hru c1
    rintro e w1 ⟨rfl, hB1⟩
    have HB1 : Hid (Below w.heap.size w w1) := hB1
    have HBx : Hid (BoxR (w1.alloc (.cells #[.int .i64 k, .string f', .string t'] 31)) w1.heap.size k f' t' ∧ Below w.heap.size w (w1.alloc (.cells #[.int .i64 k, .string f', .string t'] 31))) := ⟨BoxR.new w1 k f' t', hB1.alloc hB1.size _⟩
    clear hB1
    go_upto_region 2 with fail
    generalize w1.alloc (.cells #[.int .i64 k, .string f', .string t'] 31) = w2 at *
    obtain ⟨d0, d1, d2⟩ := HBx.out.1.cell
    go_wp2_with fail
    refine (hle _).mono ?_
    clear hle d0 d1 d2
    rintro e w3 ⟨rfl, hB3⟩
    have HB3 : Hid (Below w.heap.size w w3) := HBx.out.2.trans (hB3.mono HBx.out.2.size)
    clear hB3
    go_wp2
    go_ret2
    exact ⟨by rw [HI2.out]; rfl, HB3.out⟩
end Go.Proofs.YtggnglgehobglaaGreatDoor
