import Derived.Test.YtiafhbpklddlnaaGreatDoorD42
import Derived.Test.YtiafhbpklddlnaaGreatDoorD51
import Derived.Test.YtiafhbpklddlnaaGreatDoorD25
import Derived.Test.YtiafhbpklddlnaaGreatDoorD52
/- The walk of the law RefsDoes. -/
namespace Go.Proofs.YtiafhbpklddlnaaGreatDoor
open Go.RowKit Go.Shelf Go.Maps

attribute [local go_sem] Oper.semAt_some

/-- the document's Set, one contract for all that it may answer -/
theorem dset_one (w : World) (a : Option Addr) (c : Nat) (L : List Ch) (hL : Chs w a L.length L) (g : List UInt8 → Int) (N : Nat) (hA : AllR g N L) (hn : L.length ≤ 1000) (la : Option Addr) (m lc : Nat) (l : List Ch) (hl : Chs w la m l) (hmc : m ≤ lc) (hs : ∀ x ∈ l, x.1.size ≤ 1000) (hm : m ≤ 1000) :
    Calls Tryz.prog 10 #[.agg #[.slice a L.length c], .slice la m lc] w fun e w' => ∃ oa oc va vc O V, e = .returned (.tuple #[.agg #[.slice oa (List.length O) oc], .slice va (List.length V) vc, .int .i64 (chkR g N l)]) ∧ Below w.heap.size w w' ∧ Chs w' oa O.length O ∧ Chs w' va V.length V ∧ (∀ y, oa = some y → a = some y ∨ (w.heap.size ≤ y.block ∧ y.block < w'.heap.size)) ∧ (∀ y, va = some y → w.heap.size ≤ y.block) ∧ (chkR g N l = 0 → O = (newsR g l).foldl withR L ∧ V = newsR g l) ∧ (chkR g N l ≠ 0 → O = L ∧ V = []) := by
  refine (dset_any w a _ c L hL g N hA hn la m lc l hl hmc hs hm).mono ?_
  rintro e w' ⟨hB, ⟨h0, he⟩ | ⟨h0, oa, oc, va, vc, he, hO, hV, ho, hv⟩⟩
  · exact ⟨a, c, none, 0, L, [], he, hB, hL.kept hB, ⟨rfl, fun h => by simp at h⟩, fun y hy => .inl hy, (fun y hy => by cases hy), fun h => absurd h h0, fun _ => ⟨rfl, rfl⟩⟩
  · exact ⟨oa, oc, va, vc, _, _, by rw [h0]; exact he, hB, hO, hV, ho, hv, fun _ => ⟨rfl, rfl⟩, fun h => absurd h0 h⟩

theorem after_set {w w' : World} {r d : Nat} {g g' : List UInt8 → Int} {n n' : Nat} {rs rs' : List (List UInt8)} {S S' : DG} {F G F' G' : Nat → Prop} {l L O V : List Ch} {m : Nat} (hA : AllR g n L) (P : SetG w w' r d g g' n n' rs rs' S S' F G F' G' l m) (hok : chkR g n l = 0 → O = (newsR g l).foldl withR L ∧ V = newsR g l) (hbad : chkR g n l ≠ 0 → O = L ∧ V = []) :
    AllR g' n' O ∧ (V = [] → rs' = rs) ∧ (V ≠ [] → rs' = rs ++ [encR V]) ∧ (∀ x ∈ V, x ∈ l) ∧ V.length ≤ l.length := by
  have hr := P.recs
  unfold recR at hr
  by_cases h0 : chkR g n l = 0
  · obtain ⟨rfl, rfl⟩ := hok h0
    have hg := P.good h0
    have hf := fold_all (newsR g l) (g, n) L hA
    rw [← hg] at hf
    refine ⟨hf, fun e => ?_, fun e => ?_, newsR_sub g l, List.length_filter_le _ _⟩
    · rw [if_neg (fun h => h.2 e)] at hr; exact hr
    · rw [if_pos ⟨h0, e⟩] at hr; exact hr
  · obtain ⟨rfl, rfl⟩ := hbad h0
    obtain ⟨rfl, rfl⟩ := P.bad h0
    refine ⟨hA, fun _ => ?_, fun e => absurd rfl e, (fun x hx => by cases hx), Nat.zero_le _⟩
    rw [if_neg (fun h => h0 h.1)] at hr; exact hr

/-- what stands ahead of round k -/
structure DRd (w W : World) (r d : Nat) (g : List UInt8 → Int) (n : Nat) (rs : List (List UInt8)) (S : DG) (F G : Nat → Prop) (k B : Nat) (wa : Option Addr) (wc : Nat) (L : List Ch) (rv : Value) : Prop where
  inv : DInv w W r d g n rs S F G B wa L.length wc L rv (fileB rs)
  all : AllR g n L
  len : (fileB rs).length ≤ k * 17470

theorem infoStrR : (Tryz.prog.info? 9).map (fun i => (i.zero, i.size, i.bytes)) = some (some (.string ⟨#[]⟩), 1, 16) := by kernel_rfl
theorem recB_ge (l : List UInt8) : l.length ≤ (recB l).length := by
  unfold recB
  simp only [List.length_append]
  omega

set_option maxRecDepth 100000 in
set_option maxHeartbeats 8000000 in
theorem refsDoes_walk (w : World) (a : Option Addr) (m c : Nat) (E : Nat → Els) (hsc : Scr w a m E) :
    Calls Tryz.prog 3 #[.slice a m c] w fun e w' => e = .returned (.bool true) ∧ Below w.heap.size w w' := by
  have hwk := rwakes_any
  have hnw := new_any
  have HOP : Hid (∀ W d S G, IsDisk W d S G → JGd S refNm.data.toList [] → Calls Tryz.prog 7 #[.pointer (some ⟨d, 0, none⟩)] W fun e w' => ∃ r F G', e = .returned (.tuple #[.pointer (some ⟨r, 0, none⟩), .int .i64 0]) ∧ RfG w' r d (fun _ => 0) 0 [] S F G' ∧ Turn G W w' ∧ (∀ k, F k → W.heap.size ≤ k) ∧ (∀ k, G' k → G k ∨ W.heap.size ≤ k)) := fun W d S G hd hg => ropen_good W d _ 0 [] S G hd hg rfl (by simp [fileB]) (fun p hp => by cases hp)
  have HSC : Hid (Scr w a m E) := hsc
  clear hsc
  go_enter Tryz.func3, Tryz.ntmps3
  go_wp2_with first
    | (go_at_call 5; refine (hwk _).mono ?_; rintro e w1 ⟨rfl, B1⟩)
    | (go_at_call 6; refine (hnw _).mono ?_; clear hnw; rintro e w2 ⟨rfl, hd2, B2⟩)
    | (go_at_call 7; refine (HOP.out _ _ _ _ hd2 (JGd.new _)).mono ?_; clear HOP; rintro e w3 ⟨r, F, G, rfl, hR3, hT3, hF3, hG3⟩; have HI : Hid (DRd w (w3.alloc (.cells #[.slice none 0 0] 32)) r (w1.heap.size + 1) (fun _ => 0) 0 [] ⟨fun _ => none, 0, 0, false, 0⟩ F G 0 w3.heap.size none 0 [] (.slice none 0 0)) := (by
          have hb1 := B1.size
          have hb2 := B2.size
          have Ba : Below w3.heap.size w3 (w3.alloc (.cells #[.slice none 0 0] 32)) := (Below.refl _ w3).alloc (Nat.le_refl _) _
          have B13 : Below w.heap.size w w3 := (B1.trans (B2.mono B1.size)).trans (hT3.below (Nat.le_trans B1.size B2.size) (fun k hk => by omega))
          have hlt : ∀ z, F z ∨ G z → z < w3.heap.size := fun z hz => by
            obtain ⟨j, b, M, FJ, hr⟩ := hR3.rf
            exact hz.elim (hr.lt z) (hR3.dk.lt z)
          refine ⟨⟨hR3.below Ba, ⟨fun k hk => absurd rfl hk, by omega⟩, B13.trans (Ba.mono B13.size), fun z hz => ?_, Boxed.new _ _ _, ⟨B13.size, fun e => by have := hlt _ e; omega, (fun e => by cases e)⟩, ⟨rfl, (fun h => by simp at h)⟩, (fun y hy => by cases hy), World.ownsRow_nil _ _ _ _, (fun y hy => by cases hy)⟩, ⟨[], List.nodup_nil, fun x => by simp, rfl, by simp⟩, by simp [fileB]⟩
          exact hz.elim (fun h => by have := hF3 z h; omega) (fun h => (hG3 z h).elim (fun h => by omega) (fun h => by omega)) : DRd w (w3.alloc (.cells #[.slice none 0 0] 32)) r (w1.heap.size + 1) (fun _ => 0) 0 [] ⟨fun _ => none, 0, 0, false, 0⟩ F G 0 w3.heap.size none 0 [] (.slice none 0 0)); clear hR3 hT3 hF3 hG3 hd2 B1 B2)
  generalize w1.heap.size + 1 = d at *
  generalize w3.heap.size = B at *
  have HCUT : Hid (∀ W k, Below w.heap.size w W → k < m → (∃ bl o, a = some ⟨bl, o, none⟩ ∧ W.cell? ⟨bl, o + k, none⟩ = some (.slice (E k).x (E k).m (E k).c)) ∧ Calls Tryz.prog 8 #[.slice (E k).x (E k).m (E k).c] W fun e w' => ∃ ad cp, e = .returned (.slice ad (cutR (E k).l).length cp) ∧ w'.ownsRow W.heap.size 38 2 (.slice ad (cutR (E k).l).length cp) (cutR (E k).l).length (chCells (cutR (E k).l)) ∧ Below W.heap.size W w') := fun W k hW hk => by
    obtain ⟨bl, o, e, hc⟩ := HSC.out.1 (by omega)
    obtain ⟨h1, h2, h3⟩ := HSC.out.2 k hk
    exact ⟨⟨bl, o, e, (hW.cell (p := ⟨bl, o + k, none⟩) (World.block_lt_of_cell? w _ (hc k hk))).trans (hc k hk)⟩, lcut_any W _ _ _ _ (h1.kept hW) h2⟩
  obtain ⟨i0, hi0, hzz0, hzz1, hzz2⟩ := info_parts infoRef
  go_loopw [4, 7, 37] (fun v4 v7 i wr => ∃ (k r : Nat) (g : List UInt8 → Int) (n : Nat) (rs : List (List UInt8)) (S : DG) (F G : Nat → Prop) (wa : Option Addr) (wc : Nat) (L : List Ch) (ra : Option Addr) (rn rc : Nat), k ≤ m ∧ k ≤ 25 ∧ i = .int .i64 (k : Int) ∧ v4 = .pointer (some ⟨r, 0, none⟩) ∧ v7 = .slice ra rn rc ∧ Hid (DRd w wr r d g n rs S F G k B wa wc L (.slice ra rn rc) ∧ rn = (fileB rs).length) ∧ rn ≤ 3000000) (fun _ _ i _ => m - (intOf i).toNat)
  case atStart => exact ⟨0, r, _, _, _, _, _, _, _, _, _, none, 0, 0, Nat.zero_le _, by omega, rfl, rfl, rfl, ⟨HI.out, by simp [fileB]⟩, by omega⟩
  case round =>
    clear HI F G
    obtain ⟨k, r, g, n, rs, S, F, G, wa, wc, L, ra, rn, rc, hkm, hk25, rfl, rfl, rfl, H, hrn⟩ := hrel
    obtain ⟨wq, hwq⟩ : ∃ wq, wq = wr := ⟨_, rfl⟩
    subst hwq
    by_cases hlt : k < m
    · have i1 : (k : Int) < (m : Int) := by omega
      obtain ⟨⟨bl, o, rfl, hcell⟩, hcut⟩ := HCUT.out wq k H.out.1.inv.bel hlt
      have i2 : ¬ m ≤ k := by omega
      by_cases hk : k = 25
      · subst hk
        clear hcut
        have HB : Hid (Below w.heap.size w wq) := H.out.1.inv.bel
        go_wp2_with (go_at_call 5; refine (hwk _).mono ?_; rintro e w22 ⟨rfl, hB22⟩)
        go_ret
        exact ⟨rfl, HB.out.trans (hB22.mono HB.out.size)⟩
      · have i3 : ((k : Int) == 25) = false := beq_eq_false_iff_ne.2 (by omega)
        obtain ⟨x, em, ec, el, hE⟩ : ∃ x em ec el, E k = ⟨x, em, ec, el⟩ := ⟨_, _, _, _, rfl⟩
        rw [hE] at hcell hcut
        simp only at hcell hcut
        have hids := cutR_ids (l := el) (by have := (HSC.out.2 k hlt).2.2; rw [hE] at this; exact this)
        have hshort := cutR_short el
        have hlen := cutR_len el
        clear hE
        generalize cutR el = l at *
        obtain ⟨N, hN⟩ : ∃ N, N = l.length := ⟨_, rfl⟩
        rw [← hN] at hcut
        have hN80 : N ≤ 80 := by omega
        have HL : Hid (N = l.length ∧ (∀ x ∈ l, 0 ≤ x.2 ∧ x.2 ≤ 18446744073709551615) ∧ ∀ x ∈ l, x.1.size ≤ 250) := ⟨hN, hids, hshort⟩
        clear hN hids hshort hlen
        go_wp2_with first
          | (go_at_call 8; refine hcut.mono ?_; clear hcut; rintro e w5 ⟨la, lc, rfl, hrow5, hB5⟩; obtain ⟨_, _, hla, hNlc, hnil5⟩ := row_shapeC hrow5; cases hla; have HR5 : Hid (w5.ownsRow wq.heap.size 38 2 (.slice la N lc) N (chCells l) ∧ Below wq.heap.size wq w5) := ⟨hrow5, hB5⟩; have hch5 := own_chs hrow5 HL.out.1.symm; clear hrow5 hB5)
          | (at_make; refine wpList_make_own _ rfl _ _ 30 rfl w5.heap.size 38 i0 _ 2 Tryz.underlying30 hi0 hzz0 hzz1 _ _ _ (N + 4) rfl rfl (by simp) (by rw [hzz2]; omega) (by unfold maxLen; omega) (Nat.le_refl _) ?_; intro w6 ho6 hg6; have hB6 : Below w5.heap.size w5 w6 := (Below.refl _ w5).grown hg6 (Nat.le_refl _) (by simp); have hch6 := hch5.kept hB6; clear hg6 hch5)
          | (at_builtin; refine wpList_app2 _ w5.heap.size hB6.size rfl _ _ rfl _ 0 [] rfl ho6 la N lc l rfl hch6 hnil5 (by omega) ?_; intro v7 w7 ho7 hg7; have hB7 : Below w5.heap.size w5 w7 := hB6.trans (below_grC ho6 hB6.size hg7); simp only [Nat.zero_add, List.nil_append] at ho7; obtain ⟨ad7, c7, hv7, _⟩ := row_shapeC ho7; subst hv7; clear ho6 hg7 hch6 hB6)
          | (at_builtin; refine wpList_app2 _ w5.heap.size (by simp; have := hB7.size; omega) rfl _ _ rfl _ N _ rfl (ho7.alloc _) (some ⟨w7.heap.size, 0, none⟩) 1 1 [(⟨#[126]⟩, 0)] rfl (chs_lit w7 (⟨#[126]⟩, 0)) (fun h => by cases h) (by omega) ?_; intro v8 w8 ho8 hg8; have hB8 : Below w5.heap.size w5 w8 := (hB7.alloc hB7.size _).trans (below_grC (ho7.alloc _) (by simp; have := hB7.size; omega) hg8); obtain ⟨ad8, c8, hv8, hc8, hn8⟩ := row_shapeC ho8; subst hv8; obtain ⟨fg, hfg, hfb, hfl⟩ := row_at ho8 (by omega); subst hfg; have HD8 : Hid (DInv w w8 r d g n rs S F G B wa L.length wc L (.slice ra rn rc) (fileB rs) ∧ Rnd wq w8 la N l fg) := (by
              obtain ⟨hrow5, hB5⟩ := HR5.out
              have hB58 : Below wq.heap.size wq w8 := hB5.trans (hB8.mono hB5.size)
              obtain ⟨hch, hlq⟩ := row_chs_at hrow5 HL.out.1.symm
              refine ⟨H.out.1.inv.below hB58, hch.kept hB8, own_chs ho8 (by rw [List.length_append, ← HL.out.1]; rfl), fun y hy => ⟨(hlq y hy).1, Nat.lt_of_lt_of_le (hlq y hy).2 hB8.size⟩, ⟨by have := hB5.size; omega, hfl⟩, hB58.size⟩ : DInv w w8 r d g n rs S F G B wa L.length wc L (.slice ra rn rc) (fileB rs) ∧ Rnd wq w8 la N l fg); have HDlt : Hid (∀ z, F z ∨ G z → z < wq.heap.size) := H.out.1.inv.lt; have hset := rset_g w8 r d g n rs S F G HD8.out.1.rf HD8.out.1.nm (some ⟨fg, 0, none⟩) N c8 l (HD8.out.2.fch.pre HL.out.1.symm) (fun j x hx => by have := HL.out.2.2 x (List.mem_of_getElem? hx); unfold maxLen; omega) HL.out.2.1 (by omega) (by have := H.out.2; omega); have HA : Hid (AllR g n L ∧ L.length ≤ 64 ∧ (fileB rs).length ≤ k * 17470) := ⟨H.out.1.all, by rw [H.out.1.all.len]; exact H.out.1.inv.nm.2, H.out.1.len⟩; obtain ⟨ck, hck⟩ : ∃ ck, ck = chkR g n l := ⟨_, rfl⟩; have HCK : Hid (ck = chkR g n l) := hck; rw [← hck] at hset; clear ho7 hg8 hB7 ho8 hB8 hck hfb hfl)
          | (go_at_call 9; refine hset.mono ?_; clear hset; rintro e w9 ⟨rfl, g', n', rs', S', F', G', hP⟩; have HD9 : Hid (DInv w w9 r d g' n' rs' S' F' G' B wa L.length wc L (.slice ra rn rc) (fileB rs) ∧ Rnd wq w9 la N l fg) := ⟨HD8.out.1.set hP, HD8.out.2.turn hP.tn HDlt.out⟩; have HP : Hid (SetG w8 w9 r d g g' n n' rs rs' S S' F G F' G' l N) := hP; have c9 := HD9.out.1.box.cell; have hds := dset_one w9 wa wc L HD9.out.1.want g n HA.out.1 (by have := HA.out.2.1; omega) la N lc l HD9.out.2.lch hNlc (fun x hx => by have := HL.out.2.2 x hx; omega) (by omega); rw [← HCK.out] at hds; clear hP HD8)
          | (go_at_call 10; refine hds.mono ?_; clear hds; rintro e w10 ⟨oa, oc, va, vc, O, V, rfl, hB10, hO, hV, ho, hva, hok, hbad⟩; have HD10 : Hid (DInv w w10 r d g' n' rs' S' F' G' B wa L.length wc L (.slice ra rn rc) (fileB rs) ∧ Rnd wq w10 la N l fg ∧ Nxt F' G' B (.slice ra rn rc) w10 oa O ∧ (Chs w10 va V.length V ∧ ∀ y, va = some y → y.block ≠ B) ∧ AllR g' n' O ∧ (V = [] → rs' = rs) ∧ (V ≠ [] → rs' = rs ++ [encR V]) ∧ ((∀ x ∈ V, x ∈ l) ∧ V.length ≤ l.length) ∧ (fileB rs').length ≤ (k + 1) * 17470) := (by
              obtain ⟨q1, q2, q3, q4⟩ := after_set HA.out.1 HP.out (by rw [← HCK.out]; exact hok) (by rw [← HCK.out]; exact hbad)
              refine ⟨HD9.out.1.below hB10, HD9.out.2.below hB10, HD9.out.1.next hB10 hO ho, ⟨hV, fun y hy e => by have := hva y hy; have := HD9.out.1.box.lt; omega⟩, q1, q2, q3, q4, ?_⟩
              have := HP.out.len; have := HA.out.2.2; have : N * 218 ≤ 80 * 218 := Nat.mul_le_mul hN80 (Nat.le_refl _); rw [Nat.add_mul]; omega : DInv w w10 r d g' n' rs' S' F' G' B wa L.length wc L (.slice ra rn rc) (fileB rs) ∧ Rnd wq w10 la N l fg ∧ Nxt F' G' B (.slice ra rn rc) w10 oa O ∧ (Chs w10 va V.length V ∧ ∀ y, va = some y → y.block ≠ B) ∧ AllR g' n' O ∧ (V = [] → rs' = rs) ∧ (V ≠ [] → rs' = rs ++ [encR V]) ∧ ((∀ x ∈ V, x ∈ l) ∧ V.length ≤ l.length) ∧ (fileB rs').length ≤ (k + 1) * 17470); clear hB10 hO hV ho hva hok hbad c9 HD9 HP)
        obtain ⟨w11, hw11⟩ : ∃ w11, w11 = w10.alloc (.cells #[.slice oa O.length oc] 32) := ⟨_, rfl⟩
        have HD11 : Hid (DInv w w11 r d g' n' rs' S' F' G' B wa L.length wc L (.slice ra rn rc) (fileB rs) ∧ Rnd wq w11 la N l fg ∧ Nxt F' G' B (.slice ra rn rc) w11 oa O ∧ (Chs w11 va V.length V ∧ ∀ y, va = some y → y.block ≠ B) ∧ Boxed w11 w10.heap.size 32 (.slice oa O.length oc)) := by
          have B11 : Below w10.heap.size w10 w11 := by rw [hw11]; exact (Below.refl _ _).alloc (Nat.le_refl _) _
          obtain ⟨p1, p2, p3, p4, _⟩ := HD10.out
          exact ⟨p1.below B11, p2.below B11, p3.below B11, ⟨p4.1.kept B11, p4.2⟩, by rw [hw11]; exact Boxed.new _ _ _⟩
        have HV : Hid (AllR g' n' O ∧ (V = [] → rs' = rs) ∧ (V ≠ [] → rs' = rs ++ [encR V]) ∧ ((∀ x ∈ V, x ∈ l) ∧ V.length ≤ l.length) ∧ (fileB rs').length ≤ (k + 1) * 17470 ∧ rn = (fileB rs).length) := ⟨HD10.out.2.2.2.2.1, HD10.out.2.2.2.2.2.1, HD10.out.2.2.2.2.2.2.1, HD10.out.2.2.2.2.2.2.2.1, HD10.out.2.2.2.2.2.2.2.2, H.out.2⟩
        have HM : Hid (m - (intOf (Value.int .i64 ((k : Int) + 1))).toNat < m - (intOf (Value.int .i64 (k : Int))).toNat) := (by simp [intOf]; omega : m - (intOf (Value.int .i64 ((k : Int) + 1))).toNat < m - (intOf (Value.int .i64 (k : Int))).toNat)
        rw [← hw11]
        have HBW : Hid (B < wq.heap.size) := H.out.1.inv.box.lt
        have HRV : Hid (∀ k, (Value.slice ra rn rc).ownBlock = some k → k < wq.heap.size) := fun k hk => (H.out.1.inv.row.lt k hk).2
        clear hw11 HD10 H HA HCK HR5 HDlt hcell
        generalize w10.heap.size = nb at *
        go_loopw [70] (fun q W => ∃ t : Nat, t ≤ N ∧ q = .int .i64 (t : Int) ∧ Hid (Below w11.heap.size w11 W)) (fun q _ => N - (intOf q).toNat)
        case atStart => exact ⟨0, Nat.zero_le _, rfl, Below.refl _ _⟩
        case round =>
          obtain ⟨t, ht, rfl, HT⟩ := hrel
          by_cases htn : t < N
          · obtain ⟨y, hy⟩ : ∃ y, l[t]? = some y := ⟨_, List.getElem?_eq_getElem (by rw [← HL.out.1]; exact htn)⟩
            obtain ⟨b1, o1, rfl, hc1⟩ := HD11.out.2.1.lch.2 (by omega)
            obtain ⟨b2, o2, e2, hc2⟩ := HD11.out.2.1.fch.2 (by omega)
            cases e2
            obtain ⟨t1, t2⟩ := hc1 t y hy
            obtain ⟨s1, s2⟩ := hc2 t y (by rw [List.getElem?_append_left (List.getElem?_eq_some_iff.1 hy).1]; exact hy)
            have hB := HT.out
            have q1 := (hB.cell (p := ⟨b1, o1 + t * 2, none⟩) (World.block_lt_of_cell? w11 _ t1)).trans t1
            have q2 := (hB.cell (p := ⟨b1, o1 + t * 2 + 1, none⟩) (World.block_lt_of_cell? w11 _ t2)).trans t2
            have q3 := (hB.cell (p := ⟨fg, 0 + t * 2, none⟩) (World.block_lt_of_cell? w11 _ s1)).trans s1
            have q4 := (hB.cell (p := ⟨fg, 0 + t * 2 + 1, none⟩) (World.block_lt_of_cell? w11 _ s2)).trans s2
            rw [Nat.zero_add] at q3 q4
            have j2 : (t : Int) < (N : Int) := by omega
            have j3 : ¬ N ≤ t := by omega
            have j4 : ¬ N + 1 ≤ t := by omega
            clear hc1 hc2 hy t1 t2 s1 s2 hB
            obtain ⟨nm, iv⟩ := y
            simp only at q1 q2 q3 q4
            go_wp2_with fail
            go_quiet (fail)
            go_wp2_with fail
            go_roundw
            case rel => exact ⟨t + 1, by omega, by simp, below_drewR HT.out _⟩
            case measure => simp [intOf]; omega
          · obtain rfl : t = N := by omega
            have j2 : ¬ (t : Int) < (t : Int) := by omega
            obtain ⟨w12, hw12⟩ : ∃ w12, w12 = wr := ⟨_, rfl⟩
            subst hw12
            have HD12 : Hid (DInv w w12 r d g' n' rs' S' F' G' B wa L.length wc L (.slice ra rn rc) (fileB rs) ∧ Rnd wq w12 la t l fg ∧ Nxt F' G' B (.slice ra rn rc) w12 oa O ∧ (Chs w12 va V.length V ∧ ∀ y, va = some y → y.block ≠ B)) := ⟨HD11.out.1.below HT.out, HD11.out.2.1.below HT.out, HD11.out.2.2.1.below HT.out, HD11.out.2.2.2.1.1.kept HT.out, HD11.out.2.2.2.1.2⟩
            have c12 : w12.cell? ⟨fg, t * 2, none⟩ = some (.string ⟨#[126]⟩) := by
              obtain ⟨b2, o2, e2, hc2⟩ := HD12.out.2.1.fch.2 (by omega)
              cases e2
              have := (hc2 t (⟨#[126]⟩, 0) (by rw [List.getElem?_append_right (by rw [← HL.out.1]; exact Nat.le_refl _)]; simp [← HL.out.1])).1
              rw [Nat.zero_add] at this
              exact this
            have b12 : Boxed w12 nb 32 (.slice oa O.length oc) := (HT.out.block _ HD11.out.2.2.2.2.lt).trans HD11.out.2.2.2.2
            have cn12 := b12.cell
            have cB12 := HD12.out.1.box.cell
            have fB12 := HD12.out.1.box.frozen
            have j3 : ¬ t + 1 ≤ t := by omega
            have j5 : (t : Int) < (t : Int) + 1 := by omega
            clear HT HD11 b12
            have hVl : V.length ≤ 80 := by have := HV.out.2.2.2.1.2; have := HL.out.1; omega
            have hk26 : (k + 1) * 17470 ≤ 26 * 17470 := Nat.mul_le_mul (by omega) (Nat.le_refl _)
            have hfl : (fileB rs').length ≤ 454220 := by have := HV.out.2.2.2.2.1; omega
            obtain ⟨rn', hrn'⟩ : ∃ rn', rn' = (fileB rs').length := ⟨_, rfl⟩
            have HRN : Hid (rn' = (fileB rs').length) := hrn'
            rw [← hrn'] at hfl
            clear hrn' hk26
            go_upto_if 98 with fail
            obtain ⟨w13, hw13⟩ : ∃ w13, w13 = w12.setCell ⟨B, 0, none⟩ (.slice oa O.length oc) := ⟨_, rfl⟩
            have HD13 : Hid (DInv w w13 r d g' n' rs' S' F' G' B oa O.length oc O (.slice ra rn rc) (fileB rs) ∧ Rnd wq w13 la t l fg ∧ Chs w13 va V.length V) := by
              rw [hw13]
              have hT : Turn (fun k => k = B) w12 (w12.setCell ⟨B, 0, none⟩ (.slice oa O.length oc)) := turn_setCell w12 _ 0 _
              exact ⟨HD12.out.1.store HD12.out.2.2.1, HD12.out.2.1.turn hT (fun k hk => hk ▸ HBW.out), HD12.out.2.2.2.1.turn hT HD12.out.2.2.2.2⟩
            rw [← hw13]
            clear hw13 HD12 c12 cn12 cB12 fB12 j3 j5 j2
            go_cut [7] from 38 to 169 (fun v7 wx => ∃ ra rc, v7 = .slice ra rn' rc ∧ Hid (DInv w wx r d g' n' rs' S' F' G' B oa O.length oc O (.slice ra rn' rc) (fileB rs') ∧ Rnd wq wx la t l fg))
            case first =>
              by_cases hV0 : V = []
              · have hrs := HV.out.2.1 hV0
                have hrr : rn' = rn := by rw [HRN.out, hrs, HV.out.2.2.2.2.2]
                subst hrs hV0 hrr
                go_wp2_with fail
                go_meet
                case rel => exact ⟨ra, rc, rfl, HD13.out.1, HD13.out.2.1⟩
              · have hrs := HV.out.2.2.1 hV0
                have h0 : 0 < V.length := List.length_pos_iff.2 hV0
                have h0' : (0 : Int) < (V.length : Int) := by omega
                have hrl : (fileB rs').length = (fileB rs).length + (recB (encR V)).length := by rw [hrs, fileB_snoc, List.length_append]
                have hel := recB_ge (encR V)
                have hrE := HRN.out
                have hrnE := HV.out.2.2.2.2.2
                have hpay := payload_any w13 va V.length vc V HD13.out.2.2 (fun x hx => HL.out.2.1 x (HV.out.2.2.2.1.1 x hx)) (by omega) (by omega)
                obtain ⟨EN, hEN⟩ : ∃ EN, EN = (encR V).length := ⟨_, rfl⟩
                obtain ⟨RN, hRN⟩ : ∃ RN, RN = (recB (encR V)).length := ⟨_, rfl⟩
                rw [← hEN] at hpay hel
                rw [← hRN] at hel hrl
                have HEN : Hid (EN = (encR V).length ∧ RN = (recB (encR V)).length ∧ rs' = rs ++ [encR V] ∧ rn' = rn + RN) := ⟨hEN, hRN, hrs, by omega⟩
                have hrr : rn + RN ≤ 454220 := by omega
                clear hrs hEN hRN hrE hrnE hrl
                go_wp2_with first
                  | (go_at_call 12; refine hpay.mono ?_; clear hpay; rintro e w14 ⟨pa, pc, rfl, hrow14, hB14⟩; have hrec := refRecord_any pa EN pc (encR V) w14 (ownsRow_toBytes' hrow14) (by omega); rw [← HEN.out.2.1] at hrec; have HD14 : Hid (DInv w w14 r d g' n' rs' S' F' G' B oa O.length oc O (.slice ra rn rc) (fileB rs) ∧ Rnd wq w14 la t l fg) := ⟨HD13.out.1.below hB14, HD13.out.2.1.below hB14⟩; clear hrow14 hB14)
                  | (go_at_call 11; refine hrec.mono ?_; clear hrec; rintro e w15 ⟨bb, rfl, hby15, hB15, _⟩; have HD15 : Hid (DInv w w15 r d g' n' rs' S' F' G' B oa O.length oc O (.slice ra rn rc) (fileB rs) ∧ Rnd wq w15 la t l fg) := ⟨HD14.out.1.below hB15, HD14.out.2.below hB15⟩; have hr15 : w15.ownsRow w.heap.size 5 1 (.slice ra rn rc) rn (cellsOf (fileB rs)) := (by have := HD15.out.1.row; rw [← HV.out.2.2.2.2.2] at this; exact this); have hbs15 := HD15.out.1.bel.size; clear hB15 HD14)
                  | (at_builtin; refine wpList_appP _ w.heap.size hbs15 rfl _ _ rfl _ rn _ rfl hr15 _ RN RN _ rfl hby15 (fun h => by cases h) (by omega) ?_; intro v16 w16 ho16 hg16 hat16; obtain ⟨a16, c16, hv16, _⟩ := row_shapeP ho16; subst hv16; have HD16 : Hid (DInv w w16 r d g' n' rs' S' F' G' B oa O.length oc O (.slice a16 (rn + RN) c16) (fileB rs') ∧ Rnd wq w16 la t l fg) := (by
                      have hlt15 := (HD15.out.1.row.lt)
                      obtain ⟨e1, e2, e3, e4⟩ := HEN.out
                      have ho' : w16.ownsRow w.heap.size 5 1 (.slice a16 (rn + RN) c16) (rn + RN) (cellsOf (fileB rs ++ recB (encR V))) := by rw [cellsOf_append]; exact ho16
                      have hp := HD15.out.1.push ho' (by rw [List.length_append, ← e2, HV.out.2.2.2.2.2]) hg16 hat16
                      rw [show fileB rs' = fileB rs ++ recB (encR V) by rw [e3, fileB_snoc]]
                      exact ⟨hp, HD15.out.2.turn (Turn.of_grownBy (Fp := fun k => (Value.slice ra rn rc).ownBlock = some k) hg16 (fun k e => .inl e)) (fun k hk => HRV.out k hk)⟩ : DInv w w16 r d g' n' rs' S' F' G' B oa O.length oc O (.slice a16 (rn + RN) c16) (fileB rs') ∧ Rnd wq w16 la t l fg); clear ho16 hg16 hat16 HD15 hr15)
                go_meet
                case rel =>
                  have e := HEN.out.2.2.2
                  rw [e]
                  exact ⟨a16, c16, rfl, HD16.out⟩
            case rest =>
              clear HD13
              obtain ⟨ra2, rc2, rfl, HC⟩ := hcut
              have hrd := read_any d S' G' wc refNm HC.out.1.rf.dk (by decide) (by rw [(file_tells HC.out.1.rf.gd).1, ← HRN.out]; omega)
              rw [(file_tells HC.out.1.rf.gd).1, (file_tells HC.out.1.rf.gd).2, ← HRN.out] at hrd
              obtain ⟨er, her⟩ : ∃ er : Int, er = if rn' = 0 then 4 else 0 := ⟨_, rfl⟩
              rw [← her] at hrd
              have HER : Hid (er = if rn' = 0 then 4 else 0) := her
              clear her
              go_upto_region 29 with (go_at_call 13; refine hrd.mono ?_; clear hrd; rintro e w17 ⟨fa, fc, rfl, hrow17, hB17, _⟩; have HC17 : Hid (DInv w w17 r d g' n' rs' S' F' G' B oa O.length oc O (.slice ra2 rn' rc2) (fileB rs') ∧ Rnd wq w17 la t l fg) := ⟨HC.out.1.below hB17, HC.out.2.below hB17⟩; have hby17 : Bytes w17 fa rn' (fileB rs') := ownsRow_toBytes' (by have := HRN.out; exact hrow17); clear hrow17 hB17 HC)
              have hby2 : Bytes w17 ra2 rn' (fileB rs') := by
                have := HC17.out.1.row
                rw [← HRN.out] at this
                exact ownsRow_toBytes' this
              have heq := equal_any w17 fa ra2 rn' rn' fc rc2 (fileB rs') (fileB rs') hby17 hby2
              rw [decide_eq_true rfl] at heq
              clear hby17 hby2
              go_cut [130] from 38 to 169 (fun v130 wx => v130 = .bool false ∧ wx = w17)
              case first =>
                by_cases hz : rn' = 0
                · obtain rfl : er = 4 := by rw [HER.out, if_pos hz]
                  subst hz
                  go_wp2_with (go_at_call 14; refine heq.mono ?_; clear heq; rintro e w18 ⟨rfl, h18⟩; subst h18)
                  go_meet
                  case rel => exact ⟨rfl, rfl⟩
                · have hz' : ((rn' : Int) == 0) = false := beq_eq_false_iff_ne.2 (by omega)
                  have hz2 : (0 : Int) < (rn' : Int) := by omega
                  obtain rfl : er = 0 := by rw [HER.out, if_neg hz]
                  go_wp2_with (go_at_call 14; refine heq.mono ?_; clear heq; rintro e w18 ⟨rfl, h18⟩; subst h18)
                  go_meet
                  case rel => exact ⟨rfl, rfl⟩
              case rest =>
                obtain ⟨rfl, rfl⟩ := hcut
                clear heq
                go_wp2_with fail
                obtain ⟨j0, hj0, hjz0, hjz1, hjz2⟩ := info_parts infoStrR
                go_loopw [18, 133] (fun v18 q W => ∃ (t' : Nat) (ad : Option Addr) (cp : Nat), t' ≤ t ∧ q = .int .i64 (t' : Int) ∧ v18 = .slice ad t' cp ∧ Hid (W.ownsRow wc.heap.size 9 1 (.slice ad t' cp) t' (((l.take t').map (fun x => x.1)).map Value.string) ∧ Below wc.heap.size wc W)) (fun _ q _ => t - (intOf q).toNat)
                case atStart => exact ⟨0, none, 0, Nat.zero_le _, rfl, rfl, World.ownsRow_nil _ _ _ _, Below.refl _ _⟩
                case round =>
                  obtain ⟨t', ad, cp, ht', rfl, rfl, HN⟩ := hrel
                  by_cases htn : t' < t
                  · obtain ⟨y, hy⟩ : ∃ y, l[t']? = some y := ⟨_, List.getElem?_eq_getElem (by rw [← HL.out.1]; exact htn)⟩
                    obtain ⟨b1, o1, rfl, hc1⟩ := HC17.out.2.lch.2 (by omega)
                    obtain ⟨t1, t2⟩ := hc1 t' y hy
                    have hB := HN.out.2
                    have q1 := (hB.cell (p := ⟨b1, o1 + t' * 2, none⟩) (World.block_lt_of_cell? _ _ t1)).trans t1
                    have q2 := (hB.cell (p := ⟨b1, o1 + t' * 2 + 1, none⟩) (World.block_lt_of_cell? _ _ t2)).trans t2
                    have j2 : (t' : Int) < (t : Int) := by omega
                    have j3 : ¬ t ≤ t' := by omega
                    have HT : Hid ((l.take (t' + 1)).map (fun x => x.1) = (l.take t').map (fun x => x.1) ++ [y.1]) := by
                      show _ = _
                      rw [List.take_add_one, hy, Option.toList_some, List.map_append]; rfl
                    have hsw := hB.size
                    have HM2 : Hid (t - (intOf (Value.int .i64 ((t' : Int) + 1))).toNat < t - (intOf (Value.int .i64 (t' : Int))).toNat) := (by simp [intOf]; omega : t - (intOf (Value.int .i64 ((t' : Int) + 1))).toNat < t - (intOf (Value.int .i64 (t' : Int))).toNat)
                    obtain ⟨nm, iv⟩ := y
                    simp only at q1 q2 HT
                    have ho := (HN.out.1.alloc (.cells #[.string nm, .int .u64 iv] 38)).alloc (.cells #[.string nm] 9)
                    have HB2 : Hid (Below wc.heap.size wc ((wr.alloc (.cells #[.string nm, .int .u64 iv] 38)).alloc (.cells #[.string nm] 9))) := (hB.alloc hB.size _).alloc (by simp; omega) _
                    have dd : (wr.alloc (.cells #[.string nm, .int .u64 iv] 38)).cell? ⟨wr.heap.size, 0, none⟩ = some (.string nm) := cells_two_new wr (nm, iv) 0 _ rfl
                    have HCN : Hid _ := cells_oneS (wr.alloc (.cells #[.string nm, .int .u64 iv] 38)) 9 (.string nm)
                    clear hc1 hy t1 t2 hB
                    go_wp2_with (at_builtin; refine wpList_append_own _ rfl _ _ 47 rfl wc.heap.size 9 j0 (.string ⟨#[]⟩) 1 16 Tryz.underlying47 hj0 hjz0 hjz1 hjz2 rfl (by decide) _ t' _ rfl ho ⟨_, 0, none⟩ 1 1 [.string nm] rfl rfl (by simpa using HCN.out) (by simp [Value.oneCell']) (by unfold maxLen; omega) (by omega) (by simp; omega) ?_; intro v' x5 hown5 hgr5 _; have H5 : Hid (x5.ownsRow wc.heap.size 9 1 v' (t' + 1) (((l.take (t' + 1)).map (fun x => x.1)).map Value.string) ∧ Below wc.heap.size wc x5) := ⟨by rw [HT.out, List.map_append]; exact hown5, HB2.out.trans (below_grS ho (by simp; omega) hgr5)⟩; obtain ⟨ad5, cp5, hv5⟩ := row_shapeS hown5; subst hv5; clear hown5 hgr5 ho)
                    exact ⟨⟨t' + 1, ad5, cp5, by omega, by simp, rfl, H5.out⟩, HM2.out⟩
                  · obtain rfl : t' = t := by omega
                    have j2 : ¬ (t' : Int) < (t' : Int) := by omega
                    have hll : l.take t' = l := List.take_of_length_le (by rw [← HL.out.1]; exact Nat.le_refl _)
                    obtain ⟨w18, hw18⟩ : ∃ w18, w18 = wr := ⟨_, rfl⟩
                    subst hw18
                    have HC18 : Hid (DInv w w18 r d g' n' rs' S' F' G' B oa O.length oc O (.slice ra2 rn' rc2) (fileB rs') ∧ w18.ownsRow wc.heap.size 9 1 (.slice ad t' cp) t' ((l.map (fun x => x.1)).map Value.string)) := ⟨HC17.out.1.below HN.out.2, by have := HN.out.1; rw [hll] at this; exact this⟩
                    have HG17 : Hid (∀ z, F' z ∨ G' z → z < wc.heap.size) := HC17.out.1.lt
                    have HSAME : Hid (∀ W r F G, DInv w W r d g' n' rs' S' F G B oa O.length oc O (.slice ra2 rn' rc2) (fileB rs') → W.ownsRow wc.heap.size 9 1 (.slice ad t' cp) t' ((l.map (fun x => x.1)).map Value.string) → Calls Tryz.prog 15 #[.pointer (some ⟨r, 0, none⟩), .agg #[.slice oa O.length oc], .slice ad t' cp] W fun e w' => e = .returned (.bool true) ∧ Below W.heap.size W w') := fun W r F G hD hS => by
                      obtain ⟨j, b, M, FJ, hr⟩ := hD.rf.rf
                      have hOn : O.length = n' := HV.out.1.len
                      have hw := hD.want
                      rw [hOn] at hw ⊢
                      have hc0 := (HV.out.1.set hD.nm).1
                      exact lsame_any W r d j b M rs' g' n' _ false FJ F hr (by have := hD.nm.2; omega) oa oc O hw HV.out.1 (fun x hx => by have := chkFrom_short g' O _ _ hc0 x hx; omega) ad t' cp _ (row_strsR hS) (fun x hx => by obtain ⟨y, hy, rfl⟩ := List.mem_map.1 hx; have := HL.out.2.2 y hy; omega) (by omega)
                    have cB18 := HC18.out.1.box.cell
                    clear HN HC17 hll
                    have hfit2 : (fileB rs').length ≤ 4194304 := by have := HRN.out; omega
                    have HOP2 : Hid (∀ W, DInv w W r d g' n' rs' S' F' G' B oa O.length oc O (.slice ra2 rn' rc2) (fileB rs') → Calls Tryz.prog 7 #[.pointer (some ⟨d, 0, none⟩)] W fun e w' => ∃ r F2 G2, e = .returned (.tuple #[.pointer (some ⟨r, 0, none⟩), .int .i64 0]) ∧ RfG w' r d g' n' rs' S' F2 G2 ∧ Turn G' W w' ∧ (∀ k, F2 k → W.heap.size ≤ k) ∧ (∀ k, G2 k → G' k ∨ W.heap.size ≤ k)) := fun W hD => ropen_good W d g' n' rs' S' G' hD.rf.dk hD.rf.gd hD.rf.ld hfit2 (fun p hp => by have := hD.rf.gd.all p hp; omega)
                    have HFIN : Hid (∀ W r F G, DInv w W r d g' n' rs' S' F G B oa O.length oc O (.slice ra2 rn' rc2) (fileB rs') → DRd w W r d g' n' rs' S' F G (k + 1) B oa oc O (.slice ra2 rn' rc2) ∧ rn' = (fileB rs').length) := fun W r F G hD => ⟨⟨hD, HV.out.1, HV.out.2.2.2.2.1⟩, HRN.out⟩
                    clear hfit2
                    have hk25' : k + 1 ≤ 25 := by omega
                    have hkm' : k + 1 ≤ m := by omega
                    have hrn3 : rn' ≤ 3000000 := by omega
                    clear hkm hk25 hk hN80 hrn hfl hVl i1 i2 i3 hlt j2
                    go_wp2_with first
                      | (go_at_call 15; refine (HSAME.out _ _ _ _ HC18.out.1 HC18.out.2).mono ?_; rintro e w19 ⟨rfl, hB19⟩; have HC19 : Hid (DInv w w19 r d g' n' rs' S' F' G' B oa O.length oc O (.slice ra2 rn' rc2) (fileB rs') ∧ w19.ownsRow wc.heap.size 9 1 (.slice ad t' cp) t' ((l.map (fun x => x.1)).map Value.string)) := ⟨HC18.out.1.below hB19, ownsRow_move' HC18.out.2 (fun g hg => hB19.block g (HC18.out.2.lt g hg).2)⟩; clear hB19 HC18 cB18)
                      | (go_at_call 7; refine (HOP2.out _ HC19.out.1).mono ?_; rintro e w20 ⟨r2, F2, G2, rfl, hR20, hT20, hF20, hG20⟩; have HC20 : Hid (DInv w w20 r2 d g' n' rs' S' F2 G2 B oa O.length oc O (.slice ra2 rn' rc2) (fileB rs') ∧ w20.ownsRow wc.heap.size 9 1 (.slice ad t' cp) t' ((l.map (fun x => x.1)).map Value.string)) := ⟨HC19.out.1.open_ hR20 hT20 hF20 hG20, ownsRow_move' HC19.out.2 (fun g hg => hT20.block g (HC19.out.2.lt g hg).2 (fun e => by have h1 := HG17.out g (.inr e); have h2 := (HC19.out.2.lt g hg).1; omega))⟩; have cB20 := HC20.out.1.box.cell; clear hR20 hT20 hF20 hG20 HC19)
                      | (go_at_call 15; refine (HSAME.out _ _ _ _ HC20.out.1 HC20.out.2).mono ?_; rintro e w21 ⟨rfl, hB21⟩; have HC21 : Hid (DInv w w21 r2 d g' n' rs' S' F2 G2 B oa O.length oc O (.slice ra2 rn' rc2) (fileB rs')) := HC20.out.1.below hB21; clear hB21 HC20 cB20)
                    all_goals first
                      | exact ⟨⟨k + 1, r2, g', n', rs', S', F2, G2, oa, oc, O, ra2, rn', rc2, hkm', hk25', by simp, rfl, rfl, HFIN.out _ _ _ _ HC21.out, hrn3⟩, HM.out⟩
                      | exact ⟨⟨k + 1, r, g', n', rs', S', F', G', oa, oc, O, ra2, rn', rc2, hkm', hk25', by simp, rfl, rfl, HFIN.out _ _ _ _ HC19.out.1, hrn3⟩, HM.out⟩
    · have i1 : ¬ (k : Int) < (m : Int) := by omega
      have HB : Hid (Below w.heap.size w wq) := H.out.1.inv.bel
      go_wp2_with (go_at_call 5; refine (hwk _).mono ?_; rintro e w22 ⟨rfl, hB22⟩)
      go_ret
      exact ⟨rfl, HB.out.trans (hB22.mono HB.out.size)⟩
end Go.Proofs.YtiafhbpklddlnaaGreatDoor
