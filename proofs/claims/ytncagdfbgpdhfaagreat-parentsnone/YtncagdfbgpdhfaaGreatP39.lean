import Derived.Test.YtncagdfbgpdhfaaGreatP38
/- The histories of the laws of layer 12, made (genpborn.py out of GBornW and PBornW.head). -/
namespace Go.Proofs.YtncagdfbgpdhfaaGreat
open Go.RowKit Go.Shelf Go.Maps

attribute [local go_sem] Oper.semAt_some

theorem put_ends (P : Option (List Ob)) (os0 O : List Ob) (i r oi : Int) (f : Option (List Ob × Int)) (hf : f = P.map (fun os => (os, oi))) (h : O = P.getD os0 ∧ i = (if P.isSome then oi else 0) ∧ r = (if P.isSome then 0 else 7) ∧ (oi ≠ 0 ∧ 0 ≤ oi ∧ oi ≤ 18446744073709551615)) :
    (r = 7 ∧ f = none) ∨ (r = 0 ∧ f = some (O, i) ∧ i ≠ 0 ∧ 0 ≤ i ∧ i ≤ 18446744073709551615) := by
  obtain ⟨h1, h2, h3, h4⟩ := h
  cases P with
  | none =>
    rw [Option.isSome_none, if_neg (by simp)] at h3
    exact .inl ⟨h3, by rw [hf, Option.map_none]⟩
  | some os =>
    rw [Option.isSome_some, if_pos rfl] at h2 h3
    rw [Option.getD_some] at h1
    subst h1 h2
    exact .inr ⟨h3, by rw [hf, Option.map_some], h4⟩

set_option maxRecDepth 100000 in
set_option maxHeartbeats 8000000 in
theorem born12_any (w : World) (a : Option Addr) (n c : Nat) (l : List BornD) (hl : Brs12 w a n l) (hn : n ≤ 9223372036854775807) :
    Calls Tryz.prog 10 #[.slice a n c] w fun e w' => Below w.heap.size w w' ∧ BOut12 w (bornQ l) e w' := by
  have hll := hl.1
  have HL : Hid (Brs12 w a n l) := hl
  obtain ⟨E, hE⟩ : ∃ E, E = bornQ l := ⟨_, rfl⟩
  rw [← hE]
  have HE : Hid (E = bornP emptyI 0 ((l.take 20).drop 0) ⟨[.tree []], [], []⟩) := by
    show E = _
    rw [hE, List.drop_zero, bornQ]
  have hnw := snew_any w
  have hop := fun W d S G hd hg => sopen_good W d [] S G hd hg Pure.nil (by simp [fileB]) (by simp)
  have hem := fun W s d S F G h => empty_any W s d S F G h
  have hei0 := emptyI_rng
  have hei := emptyI_ne
  have HEI : Hid (emptyI ≠ 0 ∧ 0 ≤ emptyI ∧ emptyI ≤ 18446744073709551615) := ⟨hei, hei0.1, hei0.2⟩
  clear hl hE hei hei0
  obtain ⟨e0, he0⟩ : ∃ e0, e0 = emptyI := ⟨_, rfl⟩
  rw [← he0] at HEI HE hem
  clear he0
  go_enter Tryz.func10, Tryz.ntmps10
  go_wp2_with first
    | (go_at_call 34; refine hnw.mono ?_; clear hnw; rintro e w1 ⟨rfl, G, hd, hG, hB1⟩; have HD : Hid (IsDisk w1 (w.heap.size + 1) ⟨fun _ => none, 0, 0, false, 0⟩ G ∧ (∀ k, G k → w.heap.size ≤ k) ∧ Below w.heap.size w w1) := ⟨hd, hG, hB1⟩; clear hd hG hB1)
    | (go_at_call 33; refine (hop _ _ _ _ HD.out.1 (JGd.new _)).mono ?_; clear hop; rintro e w2 ⟨s, F, G2, rfl, hS, hT2, hF2, hG2⟩; have H2 : Hid (StG w2 s (w.heap.size + 1) [] ⟨fun _ => none, 0, 0, false, 0⟩ F G2 ∧ (∀ k, F k ∨ G2 k → w.heap.size ≤ k) ∧ Below w.heap.size w w2) := ⟨hS, fun k hk => hk.elim (fun h => by have h1 := hF2 k h; have h2 := HD.out.2.2.size; omega) (fun h => (hG2 k h).elim (HD.out.2.1 k) (fun h => by have h2 := HD.out.2.2.size; omega)), HD.out.2.2.trans (hT2.below HD.out.2.2.size HD.out.2.1)⟩; clear hS hT2 hF2 hG2 HD)
    | (go_at_call 35; refine (hem _ _ _ _ _ _ H2.out.1).mono ?_; clear hem; rintro e w3 ⟨rfl, hT3, S3, F3, G3, hS3, hF3, hG3⟩; have H3 : Hid (StG w3 s (w.heap.size + 1) [.tree []] S3 F3 G3 ∧ (∀ k, F3 k ∨ G3 k → w.heap.size ≤ k) ∧ Below w.heap.size w w3) := ⟨hS3, fun k hk => hk.elim (fun h => (hF3 k h).elim (fun h => H2.out.2.1 k (.inl h)) (fun h => by have h2 := H2.out.2.2.size; omega)) (fun h => (hG3 k h).elim (fun h => H2.out.2.1 k (.inr h)) (fun h => by have h2 := H2.out.2.2.size; omega)), H2.out.2.2.trans (hT3.below H2.out.2.2.size H2.out.2.1)⟩; clear hT3 hS3 hF3 hG3 H2)
  have HI0 : Hid (BLp12 w (w3.alloc (.cells #[.pointer (some ⟨s, 0, none⟩), .slice none 0 0, .slice none 0 0] 38)) w3.heap.size s (w.heap.size + 1) ⟨[.tree []], [], []⟩ S3 F3 G3 (fun _ => False) (.slice none 0 0) (.slice none 0 0) [] 0) := ⟨in12_start H3.out.1 H3.out.2.1 H3.out.2.2, rfl, by simp, by simp, fun p hp => by simp at hp; subst hp; exact empty_dec.2⟩
  clear H3
  generalize w.heap.size + 1 = d at *
  generalize hHB : w3.heap.size = hb at *
  clear hHB
  go_loopg [2, 37] n (fun g v i wr => ∃ (k : Nat) (st : St12) (S : DG) (F G X : Nat → Prop) (nv iv : Value) (ns : List Nd), k + g = n ∧ k ≤ 20 ∧ i = .int .i64 (k : Int) ∧ v = .pointer (some ⟨hb, 0, none⟩) ∧ Hid (E = bornP e0 k ((l.take 20).drop k) st ∧ BLp12 w wr hb s d st S F G X nv iv ns k))
  case atStart => exact ⟨0, _, _, _, _, _, _, _, _, by omega, Nat.zero_le _, rfl, rfl, HE.out, HI0.out⟩
  case round =>
    clear HE HI0
    obtain ⟨k, st, S, F, G, X, nv, iv, ns, hk, hk24, rfl, rfl, HR⟩ := hrel
    by_cases hlt : k < n
    · obtain ⟨b, hx⟩ : ∃ b, l[k]? = some b := ⟨_, List.getElem?_eq_getElem (by omega)⟩
      obtain ⟨blk, o1, hae, hc1⟩ := HL.out.2 (by omega)
      subst hae
      obtain ⟨ba, bn, bc, t0, t1, t2, t3, hBk, hbn, hd1, hd2⟩ := hc1 k b hx
      have hBw := HR.out.2.1.B
      have q0 := (hBw.cell (p := ⟨blk, o1 + k * 4, none⟩) (World.block_lt_of_cell? w _ t0)).trans t0
      have q1 := (hBw.cell (p := ⟨blk, o1 + k * 4 + 1, none⟩) (World.block_lt_of_cell? w _ t1)).trans t1
      have q2 := (hBw.cell (p := ⟨blk, o1 + k * 4 + 2, none⟩) (World.block_lt_of_cell? w _ t2)).trans t2
      have q3 := (hBw.cell (p := ⟨blk, o1 + k * 4 + 3, none⟩) (World.block_lt_of_cell? w _ t3)).trans t3
      have i2 : (k : Int) < (n : Int) := by omega
      have i3 : ¬ n ≤ k := by omega
      by_cases h24 : k = 20
      · subst h24
        have e0' : (l.take 20).drop 20 = [] := List.drop_of_length_le (by rw [List.length_take]; omega)
        have HEn : Hid (E = some st) := by have h := HR.out.1; rw [e0'] at h; exact h
        have hBB := HR.out.2.1.below ((Below.refl _ wr).alloc (Nat.le_refl _) (.cells #[.slice ba bn bc, .int .i64 b.date, .bool b.blob, .bool b.lost] 71))
        have HBB : Hid (In12 w (wr.alloc (.cells #[.slice ba bn bc, .int .i64 b.date, .bool b.blob, .bool b.lost] 71)) hb s d st S F G X nv iv ns ∧ st.os.length ≤ 41 ∧ st.ids.length ≤ 20 ∧ st.nodes.length ≤ 20) := ⟨hBB, by have := HR.out.2.2.2.1; omega, by have := HR.out.2.2.1; omega, by have := HR.out.2.2.2.2.1; omega⟩
        clear HR hc1 hx t0 t1 t2 t3 hBk hbn hd1 hd2 hBw e0' hBB
        go_wp2
        go_ret2
        rw [HEn.out]
        exact ⟨HBB.out.1.B, hb, s, d, S, F, G, X, nv, iv, ns, rfl, HBB.out.1, HBB.out.2⟩
      · have hxk : (l.take 20)[k]? = some b := by rw [List.getElem?_take, if_pos (by omega)]; exact hx
        have HS : Hid (E = (stepP e0 k st b).bind (bornP e0 (k + 1) ((l.take 20).drop (k + 1)))) := HR.out.1.trans (bornP_drop e0 _ k b st hxk)
        have HI1 : Hid (BLp12 w wr hb s d st S F G X nv iv ns k) := HR.out.2
        have HBk : Hid (Ints w ba bn b.back ∧ bn ≤ 9223372036854775807 ∧ -9223372036854775808 ≤ b.date ∧ b.date ≤ 9223372036854775807 ∧ k < 20) := ⟨hBk, hbn, hd1, hd2, by omega⟩
        have h24' : ((k : Int) == 20) = false := by simp; omega
        have h24'' : ¬ (k : Int) = 20 := by omega
        clear HR hc1 hx hxk t0 t1 t2 t3 hBk hbn hd1 hd2 hBw
        go_upto_region 13 with fail
        have R0 := Rd12.new HI1.out.1 ba bn bc b e0
        generalize (wr.alloc (.cells #[.slice ba bn bc, .int .i64 b.date, .bool b.blob, .bool b.lost] 71)).alloc (.cells #[.int .u64 e0, .slice none 0 0, .string ⟨#[]⟩, .int .i64 b.date, .string ⟨#[]⟩] 78) = wx at *
        have HR2 : Hid (Rd12 w hb s d st S F G X nv iv ns wr.heap.size (wr.heap.size + 1) ba bn bc b wx e0 (.slice none 0 0) (backsP st.ids b.back 0)) := by
          have e : backsP st.ids b.back 0 = [] := by unfold backsP; split <;> simp
          rw [e]; exact R0
        obtain ⟨y0, y1, y2, y3⟩ := quad_cells R0.b8
        clear R0 q0 q1 q2 q3
        generalize wr.heap.size + 1 = B9 at *
        generalize wr.heap.size = B8 at *
        go_wp2
        go_loopg [51] bn (fun g2 i wy => ∃ (j : Nat) (pv : Value), j + g2 = bn ∧ i = .int .i64 (j : Int) ∧ Hid (Rd12 w hb s d st S F G X nv iv ns B8 B9 ba bn bc b wy e0 pv (backsP st.ids b.back j)))
        case atStart => exact ⟨0, _, by omega, rfl, HR2.out⟩
        case round =>
          clear HR2 y0 y1 y2 y3
          obtain ⟨j, pv, hj, rfl, HR⟩ := hrel
          cases gk with
          | zero =>
            obtain rfl : j = bn := by omega
            have j2 : ¬ (j : Int) < (j : Int) := by omega
            have HR5 : Hid (Rd12 w hb s d st S F G X nv iv ns B8 B9 ba j bc b wr e0 pv (backs st.ids b.back)) := by
              have e := backsP_end st.ids b.back j HBk.out.1.1 _ rfl
              have h1 := HR.out
              unfold backsP at h1
              rw [e] at h1
              exact h1
            clear HR hj
            obtain ⟨y0, y1, y2, y3⟩ := quad_cells HR5.out.b8
            obtain ⟨z0, z1, z2, z3, z4⟩ := five_cells HR5.out.b9
            have zf := five_frozen HR5.out.b9 1
            obtain ⟨pa, pc, hpv, hpc1, hpc2⟩ := row_shapeN HR5.out.row
            subst hpv
            go_upto_if 94 with fail
            go_cut [] (fun wx => ∃ (pv : Value), Hid (Rd12 w hb s d st S F G X nv iv ns B8 B9 ba j bc b wx e0 pv (parsG st.ids b)))
            case first =>
              cases hlo : b.lost
              · go_wp2
                go_meet
                refine ⟨.slice pa (backs st.ids b.back).length pc, ?_⟩
                have e : parsG st.ids b = backs st.ids b.back := by unfold parsG; rw [hlo]; simp
                rw [e]
                exact HR5.out
              · have hpl := (parsG_ok HI1.out.1.ok.rng b).2
                have hpe : parsG st.ids b = backs st.ids b.back ++ [54321] := by unfold parsG; rw [hlo]; rfl
                have HPE : Hid (parsG st.ids b = backs st.ids b.back ++ [54321]) := hpe
                rw [hpe, List.length_append] at hpl
                obtain ⟨i0, hi, hzz0, hzz1, hzz2⟩ := info_parts infoIdG
                have hr1 := HR5.out.row.alloc (.cells #[.int .u64 54321] 31)
                have hsz : w.heap.size ≤ (wr.alloc (.cells #[.int .u64 54321] 31)).heap.size := by have := HR5.out.I.B.size; rw [World.size_alloc]; omega
                have HSZ : Hid (w.heap.size ≤ (wr.alloc (.cells #[.int .u64 54321] 31)).heap.size) := hsz
                have h9l := lt_of_block HR5.out.b9
                generalize hPL : (backs st.ids b.back).length = PL at *
                have HPL : Hid ((backs st.ids b.back).length = PL) := hPL
                clear hPL hpe hsz
                go_wp2_with
                  (at_builtin; go_loud (
                   refine wpList_append_own_at _ rfl _ _ 28 rfl w.heap.size 31 i0 _ 1 8 Tryz.underlying28 hi hzz0 hzz1 hzz2 rfl (by decide) _ PL _ rfl hr1 ⟨_, 0, none⟩ 1 1 [.int .u64 54321] rfl rfl (cell_one_new _ _ _) (by simp [Value.oneCell']) (by unfold maxLen; omega) (by omega) HSZ.out ?_
                   intro v' w5 hown5 hgr5 _ hat5
                   have hT5 : Turn (fun z => (Value.slice pa PL pc).ownBlock = some z) wr w5 := (Turn.of_below (fun z => (Value.slice pa PL pc).ownBlock = some z) ((Below.refl _ wr).alloc (Nat.le_refl _) _)).trans (Turn.of_grownBy (Fp := fun z => (Value.slice pa PL pc).ownBlock = some z) hgr5 (fun z hz => .inl hz)) (fun _ _ e => e)
                   have hb5 := own_or hat5
                   have k9 : w5.heap[B9]? = wr.heap[B9]? := hT5.block B9 h9l (fun e => (HR5.out.pn B9 e).2.2 rfl)
                   have z15 : w5.cell? ⟨B9, 1, none⟩ = some (.slice pa PL pc) := (World.cell?_of_block k9).trans z1
                   have zf5 : w5.frozen? ⟨B9, 1, none⟩ = false := (World.frozen?_of_block k9).trans zf
                   have H5 : Hid (Rd12 w hb s d st S F G X nv iv ns B8 B9 ba j bc b (w5.setCell ⟨B9, 1, none⟩ v') e0 v' (backs st.ids b.back ++ [54321])) := HR5.out.app 54321 v' (by rw [HPL.out]; exact hown5) hT5 hb5
                   obtain ⟨ad5, cp5, hv5, _⟩ := row_shapeN hown5
                   clear hown5 hgr5 hat5 hT5 hb5 k9
                   subst hv5))
                go_meet
                refine ⟨.slice ad5 (PL + 1) cp5, ?_⟩
                rw [HPE.out]
                exact H5.out
            case rest =>
              clear HR5 y0 y1 y2 y3 z0 z1 z2 z3 z4 zf hpc1 hpc2
              obtain ⟨pv, HR6⟩ := hcut
              obtain ⟨y0, y1, y2, y3⟩ := quad_cells HR6.out.b8
              obtain ⟨z0, z1, z2, z3, z4⟩ := five_cells HR6.out.b9
              obtain ⟨pa, pc, hpv, hpc1, hpc2⟩ := row_shapeN HR6.out.row
              subst hpv
              obtain ⟨hI, hkl, hol, hnl, hlen⟩ := HI1.out
              have hpok := parsG_ok hI.ok.rng b
              have h0 := comC_err hI.ok.rng e0 HEI.out.1 b
              have hown : ∀ z, (Value.slice pa (parsG st.ids b).length pc).ownBlock = some z → ¬ (F z ∨ G z) := fun z hz h => (HR6.out.pn z hz).1 (h.elim (fun h => .inr (.inr (.inr (.inr (.inr (.inl h)))))) (fun h => .inr (.inr (.inr (.inr (.inr (.inr h)))))))
              have hcom := fun (W : World) (hW : Turn (fun z => F z ∨ G z) wc W) => com_obs (row_moved HR6.out.row fun z hz => hW.block z (HR6.out.row.lt z hz).2 (hown z hz)) e0 HEI.out.2 (fun x hx => (hpok.1 x hx).2) _ ⟨HBk.out.2.2.1, HBk.out.2.2.2.1⟩ hpok.2
              have hob := gob_ok (hcom wc (Turn.refl _ _)).1 h0
              have hput := gput_un wc s d st.os S F G HR6.out.I.sg _ (comC e0 st.ids b) hcom h0 (by have := HBk.out.2.2.2.2; omega) hlen
              have hun := putG_un hI.ok.pure hI.ok.good hlen h0 hob.2 hob.1
              have HFA : Hid (b.blob = false → finP e0 k st b = (putG st.os (comC e0 st.ids b)).map (fun os => (os, oid (comC e0 st.ids b)))) := fun h => by unfold finP; rw [if_neg (by rw [h]; simp)]
              have HFB : Hid (b.blob = true → finP e0 k st b = (putG ((putG st.os (comC e0 st.ids b)).getD st.os) (blbP b k)).map (fun os => (os, oid (blbP b k)))) := fun h => by unfold finP; rw [if_pos h]
              have hor := oid_rng (comC e0 st.ids b)
              generalize putG st.os (comC e0 st.ids b) = P1 at *
              generalize oid (comC e0 st.ids b) = oi1 at *
              obtain ⟨O1, hO1⟩ : ∃ O1, O1 = P1.getD st.os := ⟨_, rfl⟩
              rw [← hO1] at hput hun HFB
              obtain ⟨i1, hi1⟩ : ∃ i1, i1 = (if P1.isSome then oi1 else 0) := ⟨_, rfl⟩
              obtain ⟨r1, hr1⟩ : ∃ r1 : Int, r1 = (if P1.isSome then 0 else 7) := ⟨_, rfl⟩
              rw [← hi1, ← hr1] at hput
              have HX : Hid (O1 = P1.getD st.os ∧ i1 = (if P1.isSome then oi1 else 0) ∧ r1 = (if P1.isSome then 0 else 7) ∧ (oi1 ≠ 0 ∧ 0 ≤ oi1 ∧ oi1 ≤ 18446744073709551615)) := ⟨hO1, hi1, hr1, hor⟩
              have HU : Hid (Pure O1 ∧ (∀ p ∈ O1, obErr p = 0) ∧ (∀ p ∈ O1, (obB p).length ≤ 16384) ∧ O1.length ≤ 2 * k + 2) := ⟨hun.1, hun.2.1, hun.2.2.1, by have := hun.2.2.2; omega⟩
              have HKK : Hid (st.ids.length = k ∧ st.nodes.length ≤ k) := ⟨hkl, hnl⟩
              have HPK : Hid ((∀ x ∈ parsG st.ids b, x ≠ 0 ∧ 0 ≤ x ∧ x ≤ 18446744073709551615) ∧ (parsG st.ids b).length ≤ 8) := hpok
              clear hO1 hi1 hr1 hor hun hob hcom hown h0 hI hkl hol hnl hlen hpok
              go_upto_if 108 with (go_at_call 36
                                   refine hput.mono ?_
                                   clear hput
                                   rintro e w7 ⟨hT7, S7, F7, G7, he, hS7, hF7, hG7⟩
                                   subst he
                                   have HR7 : Hid (Rd12 w hb s d ⟨O1, st.ids, st.nodes⟩ S7 F7 G7 X nv iv ns B8 B9 ba j bc b w7 e0 (.slice pa (parsG st.ids b).length pc) (parsG st.ids b)) := HR6.out.put O1 hT7 hS7 hF7 hG7 HU.out.1 HU.out.2.1
                                   clear hT7 hS7 hF7 hG7 y0 y1 y2 y3 z0 z1 z2 z3 z4
                                   obtain ⟨y0, y1, y2, y3⟩ := quad_cells HR7.out.b8)
              clear HR6
              go_cut [12, 13] (fun u12 u13 wx => ∃ (oi ri : Int) (os' : List Ob) (S' : DG) (F' G' : Nat → Prop), u12 = .int .u64 oi ∧ u13 = .int .i64 ri ∧ Hid (Rd12 w hb s d ⟨os', st.ids, st.nodes⟩ S' F' G' X nv iv ns B8 B9 ba j bc b wx e0 (.slice pa (parsG st.ids b).length pc) (parsG st.ids b) ∧ (∀ p ∈ os', (obB p).length ≤ 16384) ∧ os'.length ≤ 2 * k + 3 ∧ ((ri = 7 ∧ finP e0 k st b = none) ∨ (ri = 0 ∧ finP e0 k st b = some (os', oi) ∧ oi ≠ 0 ∧ 0 ≤ oi ∧ oi ≤ 18446744073709551615))))
              case first =>
                cases hbl : b.blob
                · have HF := HFA.out hbl
                  clear HFB
                  go_wp2
                  go_meet
                  refine ⟨i1, r1, O1, S7, F7, G7, rfl, rfl, HR7.out, HU.out.2.2.1, by have := HU.out.2.2.2; omega, ?_⟩
                  exact put_ends P1 _ _ _ _ _ _ HF HX.out
                · have HF := HFB.out hbl
                  have hbs : ∀ W, Turn (fun z => F7 z ∨ G7 z) (w7.alloc (.cells #[.int .u8 (b.date % 256), .int .u8 (k : Int)] 5)) W → ObS (blbP b k) (.iface 82 (.agg #[.slice (some ⟨w7.heap.size, 0, none⟩) 2 2])) W := fun W hW => by
                    have hlb := lit_bytes2 w7 b.date k
                    rw [show (k : Int) % 256 = k by omega] at hlb
                    refine blob_at (b := [byteG b.date, byteG (k : Int)]) (hW.bytes hlb (fun _ z hz h => ?_)) (fun h => by cases h) (by simp)
                    cases hz
                    have h1 := HR7.out.I.sg
                    have h2 : w7.heap.size < w7.heap.size := h.elim (h1.st.lt _) (h1.dk.lt _)
                    omega
                  have HR8 : Hid (Rd12 w hb s d ⟨O1, st.ids, st.nodes⟩ S7 F7 G7 X nv iv ns B8 B9 ba j bc b (w7.alloc (.cells #[.int .u8 (b.date % 256), .int .u8 (k : Int)] 5)) e0 (.slice pa (parsG st.ids b).length pc) (parsG st.ids b)) := HR7.out.below ((Below.refl _ w7).alloc (Nat.le_refl _) (.cells #[.int .u8 (b.date % 256), .int .u8 (k : Int)] 5))
                  have hput := gput_un _ s d O1 S7 F7 G7 HR8.out.I.sg _ (blbP b k) hbs (blbP_err b k) (by have := HBk.out.2.2.2.2; have := HU.out.2.2.2; omega) HU.out.2.2.1
                  have hbd : (obB (blbP b k)).length ≤ 16384 ∧ decG (obB (blbP b k)) = some (blbP b k) := gob_ok (hbs _ (Turn.refl _ _)).1 (blbP_err b k)
                  have hun := putG_un HU.out.1 HU.out.2.1 HU.out.2.2.1 (blbP_err b k) hbd.2 hbd.1
                  have hor := oid_rng (blbP b k)
                  clear hbs hbd HFA
                  generalize putG O1 (blbP b k) = P2 at *
                  generalize oid (blbP b k) = oi2 at *
                  obtain ⟨O2, hO2⟩ : ∃ O2, O2 = P2.getD O1 := ⟨_, rfl⟩
                  rw [← hO2] at hput hun
                  obtain ⟨i2', hi2⟩ : ∃ i2', i2' = (if P2.isSome then oi2 else 0) := ⟨_, rfl⟩
                  obtain ⟨r2, hr2⟩ : ∃ r2 : Int, r2 = (if P2.isSome then 0 else 7) := ⟨_, rfl⟩
                  rw [← hi2, ← hr2] at hput
                  have HX2 : Hid (O2 = P2.getD O1 ∧ i2' = (if P2.isSome then oi2 else 0) ∧ r2 = (if P2.isSome then 0 else 7) ∧ (oi2 ≠ 0 ∧ 0 ≤ oi2 ∧ oi2 ≤ 18446744073709551615)) := ⟨hO2, hi2, hr2, hor⟩
                  have HU2 : Hid (Pure O2 ∧ (∀ p ∈ O2, obErr p = 0) ∧ (∀ p ∈ O2, (obB p).length ≤ 16384) ∧ O2.length ≤ 2 * k + 3) := ⟨hun.1, hun.2.1, hun.2.2.1, by have := hun.2.2.2; have := HU.out.2.2.2; omega⟩
                  have HFX : Hid (finP e0 k st b = P2.map (fun os => (os, oi2))) := HF
                  clear hO2 hi2 hr2 hor hun HF
                  go_wp2_with (go_at_call 36
                               refine hput.mono ?_
                               clear hput
                               rintro e w8 ⟨hT8, S8, F8, G8, he, hS8, hF8, hG8⟩
                               subst he
                               have HR9 : Hid (Rd12 w hb s d ⟨O2, st.ids, st.nodes⟩ S8 F8 G8 X nv iv ns B8 B9 ba j bc b w8 e0 (.slice pa (parsG st.ids b).length pc) (parsG st.ids b)) := HR8.out.put O2 hT8 hS8 hF8 hG8 HU2.out.1 HU2.out.2.1
                               clear hT8 hS8 hF8 hG8)
                  go_meet
                  refine ⟨i2', r2, O2, S8, F8, G8, rfl, rfl, HR9.out, HU2.out.2.2.1, HU2.out.2.2.2, ?_⟩
                  exact put_ends P2 _ _ _ _ _ _ HFX.out HX2.out
              case rest =>
                clear HR7 y0 y1 y2 y3 HFA HFB HX HU
                obtain ⟨oi, ri, os', S7, F7, G7, rfl, rfl, HC⟩ := hcut
                have HBW : Hid (Below w.heap.size w wc) := HC.out.1.I.B
                have hSt : stepP e0 k st b = (finP e0 k st b).bind fun x => if x.2 = 54321 then none else some ⟨x.1, st.ids ++ [x.2], if hasN st.nodes x.2 then st.nodes else st.nodes ++ [(x.2, parsG st.ids b, b.blob)]⟩ := rfl
                rcases HC.out.2.2.2 with ⟨rfl, hfn⟩ | ⟨rfl, hfn, hor⟩
                · have HEn : Hid (E = none) := by rw [HS.out, hSt, hfn]; rfl
                  clear hSt hfn
                  go_wp2
                  go_ret2
                  rw [HEn.out]
                  exact ⟨HBW.out, rfl⟩
                · rw [hfn] at hSt
                  by_cases hbad : oi = 54321
                  · have HEn : Hid (E = none) := by
                      rw [HS.out, hSt]
                      simp only [hbad, if_true, Option.bind_some]
                      rfl
                    clear hSt hfn
                    subst hbad
                    go_wp2
                    go_ret2
                    rw [HEn.out]
                    exact ⟨HBW.out, rfl⟩
                  · have hb2' : (oi == 54321) = false := beq_eq_false_iff_ne.2 hbad
                    have HEs : Hid (E = bornP e0 (k + 1) ((l.take 20).drop (k + 1)) ⟨os', st.ids ++ [oi], if hasN st.nodes oi then st.nodes else st.nodes ++ [(oi, parsG st.ids b, b.blob)]⟩) := by
                      show E = _
                      rw [HS.out, hSt]
                      simp only [hbad, if_false, Option.bind_some]
                    have HR7 : Hid (Rd12 w hb s d ⟨os', st.ids, st.nodes⟩ S7 F7 G7 X nv iv ns B8 B9 ba j bc b wc e0 (.slice pa (parsG st.ids b).length pc) (parsG st.ids b)) := HC.out.1
                    have HK : Hid ((∀ p ∈ os', (obB p).length ≤ 16384) ∧ os'.length ≤ 2 * k + 3 ∧ st.ids.length = k ∧ st.nodes.length ≤ k ∧ k < 20 ∧ oi ≠ 0 ∧ 0 ≤ oi ∧ oi ≤ 18446744073709551615) := ⟨HC.out.2.1, HC.out.2.2.1, HKK.out.1, HKK.out.2, HBk.out.2.2.2.2, hor⟩
                    clear hSt hfn hbad HC
                    have hpok := HPK.out
                    go_upto_region 28 with fail
                    obtain ⟨na, nc, hnv, hnc1, hnc2⟩ := row_shapeN HR7.out.I.nr
                    subst hnv
                    have c1 := HR7.out.I.c1
                    have hnsl : ns.length = st.nodes.length := by have := HR7.out.I.nn; simp only at this; rw [← this, List.length_map]
                    have hfd := find11_any wc na ns.length nc ns (row_nds HR7.out.I.nr rfl) (by have := HK.out; omega) oi
                    have HFI : Hid (fiN ns oi 0 < 0 ↔ hasN st.nodes oi = false) := by
                      have := fiN_neg ns oi 0
                      rw [HR7.out.I.nn] at this
                      exact this
                    have hNL : ns.length ≤ 24 := by have := HK.out; omega
                    generalize fiN ns oi 0 = fi at *
                    generalize hNLE : ns.length = NL at *
                    have HNLE : Hid (ns.length = NL) := hNLE
                    clear hNLE hnsl hnc1 hnc2
                    go_upto_if 136 with (go_at_call 37; refine hfd.mono ?_; clear hfd; rintro e w8 ⟨rfl, h8⟩; subst h8)
                    obtain ⟨N2, hN2⟩ : ∃ N2, N2 = (if hasN st.nodes oi then st.nodes else st.nodes ++ [(oi, parsG st.ids b, b.blob)]) := ⟨_, rfl⟩
                    rw [← hN2] at HEs
                    have HN2 : Hid (N2 = (if hasN st.nodes oi then st.nodes else st.nodes ++ [(oi, parsG st.ids b, b.blob)])) := hN2
                    clear hN2
                    go_cut [] (fun wx => ∃ (X' : Nat → Prop) (nv' : Value) (ns' : List Nd), Hid (Bk12 w hb s d ⟨os', st.ids, N2⟩ S7 F7 G7 X' nv' iv ns' B8 ba j bc b wx))
                    case first =>
                      · skip
                        by_cases hfi : fi < 0
                        · have hh := HFI.out.1 hfi
                          have HE2 : Hid (N2 = st.nodes ++ [(oi, parsG st.ids b, b.blob)]) := by rw [HN2.out, hh]; rfl
                          obtain ⟨y0, y1, y2, y3⟩ := quad_cells HR7.out.b8
                          obtain ⟨z0, z1, z2, z3, z4⟩ := five_cells HR7.out.b9
                          have f1 := HR7.out.I.fz 1
                          have hpl := hpok.2
                          have hhl := World.block_lt_of_cell? w8 _ c1
                          have h8l := lt_of_block HR7.out.b8
                          have h9l := lt_of_block HR7.out.b9
                          have nb1 : B9 ≠ hb := fun e => HR7.out.n9 (.inl e)
                          have nb2 : B8 ≠ hb := fun e => HR7.out.n8 (.inl e)
                          have nb3 : hb ≠ B9 := fun e => nb1 e.symm
                          have nb4 : hb ≠ B8 := fun e => nb2 e.symm
                          have hrowN := HR7.out.I.nr
                          rw [HNLE.out] at hrowN
                          obtain ⟨i0, hi, hzz0, hzz1, hzz2⟩ := info_parts infoNode
                          generalize hPL : (parsG st.ids b).length = PL at *
                          have HPL : Hid ((parsG st.ids b).length = PL) := hPL
                          have hrowA := ((row_low hrowN (Nat.zero_le _)).alloc (.cells #[.int .u64 oi, .slice pa PL pc, .bool b.blob] 85)).drew
                          have c1a : (w8.alloc (.cells #[.int .u64 oi, .slice pa PL pc, .bool b.blob] 85)).cell? ⟨hb, 1, none⟩ = some (.slice na NL nc) := by
                            rw [World.cell?_of_block (w := w8) (Below.heap_alloc _ _ _ hhl)]; exact c1
                          have y2a : (w8.alloc (.cells #[.int .u64 oi, .slice pa PL pc, .bool b.blob] 85)).cell? ⟨B8, 2, none⟩ = some (.bool b.blob) := by
                            rw [World.cell?_of_block (w := w8) (Below.heap_alloc _ _ _ h8l)]; exact y2
                          have z1a : (w8.alloc (.cells #[.int .u64 oi, .slice pa PL pc, .bool b.blob] 85)).cell? ⟨B9, 1, none⟩ = some (.slice pa PL pc) := by
                            rw [World.cell?_of_block (w := w8) (Below.heap_alloc _ _ _ h9l)]; exact z1
                          have hend : ∀ v' w3, w3.ownsRow 0 85 3 v' (NL + 1) (ndCells ns ++ ndCells [⟨oi, pa, PL, pc, b.blob, parsG st.ids b⟩]) → (w8.alloc (.cells #[.int .u64 oi, .slice pa PL pc, .bool b.blob] 85)).drew.grownBy w3 (Value.slice na NL nc).ownBlock → (v'.ownBlock = (Value.slice na NL nc).ownBlock ∨ v'.ownBlock = some (w8.alloc (.cells #[.int .u64 oi, .slice pa PL pc, .bool b.blob] 85)).drew.heap.size) →
                              w3.cell? ⟨hb, 1, none⟩ = some (.slice na NL nc) ∧ w3.frozen? ⟨hb, 1, none⟩ = false ∧ (w3.cell? ⟨B9, 1, none⟩ = some (.slice pa PL pc) ∧ w3.cell? ⟨B8, 2, none⟩ = some (.bool b.blob)) ∧ Hid (Bk12 w hb s d ⟨os', st.ids, st.nodes ++ [(oi, parsG st.ids b, b.blob)]⟩ S7 F7 G7 (fun z => X z ∨ (Value.slice pa PL pc).ownBlock = some z) v' iv (ns ++ [⟨oi, pa, PL, pc, b.blob, parsG st.ids b⟩]) B8 ba j bc b (w3.setCell ⟨hb, 1, none⟩ v')) := by
                            intro v' w3 ho3 hg3 hat3
                            have hT3 : Turn (fun z => (Value.slice na NL nc).ownBlock = some z) w8 w3 := by
                              have h1 : Turn (fun z => (Value.slice na NL nc).ownBlock = some z) w8 (w8.alloc (.cells #[.int .u64 oi, .slice pa PL pc, .bool b.blob] 85)).drew := Turn.of_below _ (Below.trans ((Below.refl _ w8).alloc (Nat.le_refl _) (.cells #[.int .u64 oi, .slice pa PL pc, .bool b.blob] 85)) ⟨rfl, rfl, rfl, Nat.le_refl _, fun _ _ => rfl⟩)
                              exact h1.trans (Turn.of_grownBy (Fp := fun z => (Value.slice na NL nc).ownBlock = some z) hg3 (fun z hz => .inl hz)) (fun _ _ e => e)
                            have hbk : ∀ z, v'.ownBlock = some z → (Value.slice na NL nc).ownBlock = some z ∨ w8.heap.size ≤ z := own_or (w := w8) (o := (.cells #[.int .u64 oi, .slice pa PL pc, .bool b.blob] 85)) hat3
                            have kh : w3.heap[hb]? = w8.heap[hb]? := hT3.block hb hhl (fun e => (HR7.out.I.an hb e).1 rfl)
                            have k8 : w3.heap[B8]? = w8.heap[B8]? := hT3.block B8 h8l (fun e => HR7.out.n8 (.inr (.inl e)))
                            have k9 : w3.heap[B9]? = w8.heap[B9]? := hT3.block B9 h9l (fun e => HR7.out.n9 (.inr (.inl e)))
                            refine ⟨(World.cell?_of_block kh).trans c1, (World.frozen?_of_block kh).trans f1, ⟨(World.cell?_of_block k9).trans z1, (World.cell?_of_block k8).trans y2⟩, ?_⟩
                            have h7 := HR7.out
                            have hrH : w3.ownsRow w.heap.size 85 3 v' (NL + 1) (ndCells ns ++ ndCells [⟨oi, pa, PL, pc, b.blob, parsG st.ids b⟩]) := by
                              refine row_high ho3 fun z hz => ?_
                              rcases hbk z hz with h | h
                              · exact (h7.I.nr.lt z h).1
                              · have := h7.I.B.size; omega
                            have hx := Rd12.node (pa := pa) (pc := pc) (ps := parsG st.ids b) (by rw [HPL.out]; exact h7) oi HK.out.2.2.2.2.2.2 (by rw [HPL.out]; exact hpl) (fun x hx => (hpok.1 x hx).2) v' (by rw [HNLE.out, HPL.out]; exact hrH) hT3 hbk
                            rw [HPL.out] at hx
                            exact hx
                          have HEnd : Hid _ := hend
                          clear hend hPL hrowN hh HFI HN2 y0 y1 y3 z0 z2 z3 z4 hhl h8l h9l hpl
                          go_wp2
                          have hmx : Tryz.prog.follows .mixedOrders = true := by kernel_rfl
                          refine wp_region_G (S := SB 15 (fun W => W.cell? ⟨hb, 1, none⟩ = some (.slice na NL nc) ∧ W.cell? ⟨B9, 1, none⟩ = some (.slice pa PL pc) ∧ W.cell? ⟨B8, 2, none⟩ = some (.bool b.blob)) (fun _ => True)) hmx ?_
                          have hSB : SB 15 (fun W => W.cell? ⟨hb, 1, none⟩ = some (.slice na NL nc) ∧ W.cell? ⟨B9, 1, none⟩ = some (.slice pa PL pc) ∧ W.cell? ⟨B8, 2, none⟩ = some (.bool b.blob)) (fun _ => True) (Array.replicate 16 false) w8.drew := SB.on ⟨c1, z1, y2⟩ trivial
                          refine wpAnyG_takeB (i := 0) (b := 15) (v := ?_) rfl (by kernel_rfl) (by kernel_rfl) (by kernel_rfl) (fun _ _ _ h => h) rfl (by kernel_rfl) rfl (by kernel_rfl) (Or.inl ⟨by rfl, ?_⟩) (by assumption) ?_
                          rotate_left
                          · intro Y hY; obtain ⟨⟨f1, f2, f3⟩, _⟩ := hY; go_simp; try with_reducible rfl
                          intro hSB0
                          simp only [Act.put, List.getElem_toArray, List.getElem_cons_zero, List.setIfInBounds_toArray, List.set_cons_zero, List.set_cons_succ]
                          refine wpAnyG_takeB (i := 1) (b := 15) (v := ?_) rfl (by kernel_rfl) (by kernel_rfl) (by kernel_rfl) (fun _ _ _ h => h) rfl (by kernel_rfl) rfl (by kernel_rfl) (Or.inl ⟨by rfl, ?_⟩) (by assumption) ?_
                          rotate_left
                          · intro Y hY; obtain ⟨⟨f1, f2, f3⟩, _⟩ := hY; go_simp; try with_reducible rfl
                          intro hSB1
                          simp only [Act.put, List.getElem_toArray, List.getElem_cons_zero, List.getElem_cons_succ, List.setIfInBounds_toArray, List.set_cons_zero, List.set_cons_succ]
                          refine wpAnyG_takeB (i := 2) (b := 15) (v := ?_) rfl (by kernel_rfl) (by kernel_rfl) (by kernel_rfl) (fun _ _ _ h => h) rfl (by kernel_rfl) rfl (by kernel_rfl) (Or.inl ⟨by rfl, ?_⟩) (by assumption) ?_
                          rotate_left
                          · intro Y hY; obtain ⟨⟨f1, f2, f3⟩, _⟩ := hY; go_simp; try with_reducible rfl
                          intro hSB2
                          simp only [Act.put, List.getElem_toArray, List.getElem_cons_zero, List.getElem_cons_succ, List.setIfInBounds_toArray, List.set_cons_zero, List.set_cons_succ]
                          refine wpAnyG_takeB (i := 3) (b := 15) (v := ?_) rfl (by kernel_rfl) (by kernel_rfl) (by kernel_rfl) (fun _ _ _ h => h) rfl (by kernel_rfl) rfl (by kernel_rfl) (Or.inl ⟨by rfl, ?_⟩) (by assumption) ?_
                          rotate_left
                          · intro Y hY; obtain ⟨⟨f1, f2, f3⟩, _⟩ := hY; go_simp; try with_reducible rfl
                          intro hSB3
                          simp only [Act.put, List.getElem_toArray, List.getElem_cons_zero, List.getElem_cons_succ, List.setIfInBounds_toArray, List.set_cons_zero, List.set_cons_succ]
                          refine wpAnyG_takeB (i := 4) (b := 15) (v := ?_) rfl (by kernel_rfl) (by kernel_rfl) (by kernel_rfl) (fun _ _ _ h => h) rfl (by kernel_rfl) rfl (by kernel_rfl) (Or.inl ⟨by rfl, ?_⟩) (by assumption) ?_
                          rotate_left
                          · intro Y hY; obtain ⟨⟨f1, f2, f3⟩, _⟩ := hY; go_simp; try with_reducible rfl
                          intro hSB4
                          simp only [Act.put, List.getElem_toArray, List.getElem_cons_zero, List.getElem_cons_succ, List.setIfInBounds_toArray, List.set_cons_zero, List.set_cons_succ]
                          refine wpAnyG_takeB (i := 5) (b := 15) (v := ?_) rfl (by kernel_rfl) (by kernel_rfl) (by kernel_rfl) (fun _ _ _ h => h) rfl (by kernel_rfl) rfl (by kernel_rfl) (Or.inl ⟨by rfl, ?_⟩) (by assumption) ?_
                          rotate_left
                          · intro Y hY; obtain ⟨⟨f1, f2, f3⟩, _⟩ := hY; go_simp; try with_reducible rfl
                          intro hSB5
                          simp only [Act.put, List.getElem_toArray, List.getElem_cons_zero, List.getElem_cons_succ, List.setIfInBounds_toArray, List.set_cons_zero, List.set_cons_succ]
                          refine wpAnyG_takeB (i := 6) (b := 15) (v := ?_) rfl (by kernel_rfl) (by kernel_rfl) (by kernel_rfl) (fun _ _ _ h => h) rfl (by kernel_rfl) rfl (by kernel_rfl) (Or.inl ⟨by rfl, ?_⟩) (by assumption) ?_
                          rotate_left
                          · intro Y hY; obtain ⟨⟨f1, f2, f3⟩, _⟩ := hY; go_simp; try with_reducible rfl
                          intro hSB6
                          simp only [Act.put, List.getElem_toArray, List.getElem_cons_zero, List.getElem_cons_succ, List.setIfInBounds_toArray, List.set_cons_zero, List.set_cons_succ]
                          refine wpAnyG_takeB (i := 7) (b := 15) (v := ?_) rfl (by kernel_rfl) (by kernel_rfl) (by kernel_rfl) (fun _ _ _ h => h) rfl (by kernel_rfl) rfl (by kernel_rfl) (Or.inl ⟨by rfl, ?_⟩) (by assumption) ?_
                          rotate_left
                          · intro Y hY; obtain ⟨⟨f1, f2, f3⟩, _⟩ := hY; go_simp; try with_reducible rfl
                          intro hSB7
                          simp only [Act.put, List.getElem_toArray, List.getElem_cons_zero, List.getElem_cons_succ, List.setIfInBounds_toArray, List.set_cons_zero, List.set_cons_succ]
                          refine wpAnyG_takeB (i := 8) (b := 15) (v := ?_) rfl (by kernel_rfl) (by kernel_rfl) (by kernel_rfl) (fun _ _ _ h => h) rfl (by kernel_rfl) rfl (by kernel_rfl) (Or.inl ⟨by rfl, ?_⟩) (by assumption) ?_
                          rotate_left
                          · intro Y hY; obtain ⟨⟨f1, f2, f3⟩, _⟩ := hY; go_simp; try with_reducible rfl
                          intro hSB8
                          simp only [Act.put, List.getElem_toArray, List.getElem_cons_zero, List.getElem_cons_succ, List.setIfInBounds_toArray, List.set_cons_zero, List.set_cons_succ]
                          refine wpAnyG_takeB (i := 9) (b := 15) (v := ?_) rfl (by kernel_rfl) (by kernel_rfl) (by kernel_rfl) (fun _ _ _ h => h) rfl (by kernel_rfl) rfl (by kernel_rfl) (Or.inl ⟨by rfl, ?_⟩) (by assumption) ?_
                          rotate_left
                          · intro Y hY; obtain ⟨⟨f1, f2, f3⟩, _⟩ := hY; go_simp; try with_reducible rfl
                          intro hSB9
                          simp only [Act.put, List.getElem_toArray, List.getElem_cons_zero, List.getElem_cons_succ, List.setIfInBounds_toArray, List.set_cons_zero, List.set_cons_succ]
                          refine wpAnyG_takeB (i := 10) (b := 15) (v := ?_) rfl (by kernel_rfl) (by kernel_rfl) (by kernel_rfl) (fun _ _ _ h => h) rfl (by kernel_rfl) rfl (by kernel_rfl) (Or.inl ⟨by rfl, ?_⟩) (by assumption) ?_
                          rotate_left
                          · intro Y hY; obtain ⟨⟨f1, f2, f3⟩, _⟩ := hY; go_simp; try with_reducible rfl
                          intro hSB10
                          simp only [Act.put, List.getElem_toArray, List.getElem_cons_zero, List.getElem_cons_succ, List.setIfInBounds_toArray, List.set_cons_zero, List.set_cons_succ]
                          refine wpAnyG_one (i := 11) (by kernel_rfl) rfl (fun K hK => ?_)
                          go_simp
                          refine hK.out _ _ (SB.on ⟨c1a, z1a, y2a⟩ trivial) (fun hSB11 => ?_)
                          clear hK K
                          refine wpAnyG_one (i := 12) (by kernel_rfl) rfl (fun K hK => ?_)
                          refine step_appN _ (by rfl) _ _ (by rfl) i0 _ hi hzz0 hzz1 hzz2 rfl (.slice na NL nc) NL (ndCells ns) (by rfl) hrowA ⟨w8.heap.size, 0, none⟩ ⟨oi, pa, PL, pc, b.blob, parsG st.ids b⟩ (by rfl) (cells_node_new w8 ⟨oi, pa, PL, pc, b.blob, parsG st.ids b⟩) (by omega) ?_
                          intro v' w3 ho3 hg3 hat3
                          obtain ⟨a4, c4, rfl, _, _⟩ := row_shapeN ho3
                          obtain ⟨hx0', hx1', hS3, hF3⟩ := HEnd.out _ w3 ho3 hg3 hat3
                          refine hK.out _ _ (SB.on ⟨hx0', hS3.1, hS3.2⟩ trivial) (fun hSB12 => ?_)
                          clear ho3 hg3 hat3
                          clear hK K
                          simp only [Act.put, List.getElem_toArray, List.getElem_cons_zero, List.getElem_cons_succ, List.setIfInBounds_toArray, List.set_cons_zero, List.set_cons_succ]
                          refine wpAnyG_takeP (i := 13) (v := ?_) rfl (by kernel_rfl) (by kernel_rfl) (by kernel_rfl) (fun _ _ _ h => h) rfl (Or.inl ⟨by rfl, ?_⟩) (by assumption) ?_
                          rotate_left
                          · intro Y hY; go_simp; try with_reducible rfl
                          intro hSB13
                          simp only [Act.put, List.getElem_toArray, List.getElem_cons_zero, List.getElem_cons_succ, List.setIfInBounds_toArray, List.set_cons_zero, List.set_cons_succ]
                          refine wpAnyG_takeP (i := 14) (v := ?_) rfl (by kernel_rfl) (by kernel_rfl) (by kernel_rfl) (fun _ _ _ h => h) rfl (Or.inl ⟨by rfl, ?_⟩) (by assumption) ?_
                          rotate_left
                          · intro Y hY; go_simp; try with_reducible rfl
                          intro hSB14
                          simp only [Act.put, List.getElem_toArray, List.getElem_cons_zero, List.getElem_cons_succ, List.setIfInBounds_toArray, List.set_cons_zero, List.set_cons_succ]
                          refine wpAnyG_one (i := 15) (by kernel_rfl) rfl (fun K hK => ?_)
                          go_simp
                          refine hK.out _ _ (SB.off (by kernel_rfl) trivial) (fun hSB15 => ?_)
                          clear hK K
                          refine wpAnyG_done (by kernel_rfl) ?_ _
                          go_wp2
                          go_meet
                          exact ⟨_, _, _, by rw [HE2.out]; exact hF3.out⟩
                        · have hh : hasN st.nodes oi = true := by
                            cases h : hasN st.nodes oi with
                            | true => rfl
                            | false => exact absurd (HFI.out.2 h) hfi
                          have HE2 : Hid (N2 = st.nodes) := by rw [HN2.out, hh]; rfl
                          have H8 : Hid (Bk12 w hb s d ⟨os', st.ids, st.nodes⟩ S7 F7 G7 X (.slice na NL nc) iv ns B8 ba j bc b w8) := HR7.out.to8
                          clear hh
                          go_wp2
                          go_meet
                          exact ⟨_, _, _, by rw [HE2.out]; exact H8.out⟩
                    case rest =>
                      obtain ⟨X', nv', ns', H8⟩ := hcut
                      have I8 := H8.out.I
                      have hkl := HK.out.2.2.1
                      obtain ⟨ia, ic, hiv, _, _⟩ := row_shapeN I8.ir
                      simp only at hiv
                      rw [hkl] at hiv
                      subst hiv
                      have c2 := I8.c2
                      have cf := I8.fz 2
                      have hrowI0 := I8.ir
                      simp only at hrowI0
                      rw [hkl] at hrowI0
                      have hhl := World.block_lt_of_cell? wc _ c2
                      have hrowI := hrowI0.alloc (.cells #[.int .u64 oi] 31)
                      have HSZ : Hid (w.heap.size ≤ (wc.alloc (.cells #[.int .u64 oi] 31)).heap.size) := by have := I8.B.size; show _ ≤ _; rw [World.size_alloc]; omega
                      have hkk : k < 20 := HK.out.2.2.2.2.1
                      obtain ⟨i0, hi, hzz0, hzz1, hzz2⟩ := info_parts infoIdG
                      have HFIN : Hid (∀ (wz : World) {v4 : Value}, In12 w wz hb s d ⟨os', st.ids ++ [oi], N2⟩ S7 F7 G7 X' nv' v4 ns' → E = bornP e0 (k + 1) ((l.take 20).drop (k + 1)) ⟨os', st.ids ++ [oi], N2⟩ ∧ BLp12 w wz hb s d ⟨os', st.ids ++ [oi], N2⟩ S7 F7 G7 X' nv' v4 ns' (k + 1)) := by
                        intro wz v4 h
                        have hk' := HK.out
                        refine ⟨HEs.out, h, by simp [hkl], by show os'.length ≤ _; omega, ?_, hk'.1⟩
                        show N2.length ≤ k + 1
                        rw [HN2.out]
                        split
                        · omega
                        · rw [List.length_append]; simp; omega
                      have HIL : Hid (st.ids.length = k) := hkl
                      clear hkl hrowI0 I8
                      go_wp2_with
                        (at_builtin; go_loud (
                         refine wpList_append_own_at _ rfl _ _ 28 rfl w.heap.size 31 i0 _ 1 8 Tryz.underlying28 hi hzz0 hzz1 hzz2 rfl (by decide) _ k _ rfl hrowI ⟨_, 0, none⟩ 1 1 [.int .u64 oi] rfl rfl (cell_one_new _ _ _) (by simp [Value.oneCell']) (by unfold maxLen; omega) (by omega) HSZ.out ?_
                         intro v' w5 hown5 hgr5 _ hat5
                         have hT5 : Turn (fun z => (Value.slice ia k ic).ownBlock = some z) wc w5 := (Turn.of_below (fun z => (Value.slice ia k ic).ownBlock = some z) ((Below.refl _ wc).alloc (Nat.le_refl _) _)).trans (Turn.of_grownBy (Fp := fun z => (Value.slice ia k ic).ownBlock = some z) hgr5 (fun z hz => .inl hz)) (fun _ _ e => e)
                         have hb5 := own_or hat5
                         have kh : w5.heap[hb]? = wc.heap[hb]? := hT5.block hb hhl (fun e => (H8.out.I.ai hb e).1 rfl)
                         have z15 : w5.cell? ⟨hb, 2, none⟩ = some (.slice ia k ic) := (World.cell?_of_block kh).trans c2
                         have zf5 : w5.frozen? ⟨hb, 2, none⟩ = false := (World.frozen?_of_block kh).trans cf
                         have H5 : Hid (In12 w (w5.setCell ⟨hb, 2, none⟩ v') hb s d ⟨os', st.ids ++ [oi], N2⟩ S7 F7 G7 X' nv' v' ns') := H8.out.fin oi HK.out.2.2.2.2.2 v' (by rw [HIL.out]; exact hown5) hT5 hb5
                         obtain ⟨ad5, cp5, hv5, _⟩ := row_shapeN hown5
                         clear hown5 hgr5 hat5 hT5 hb5 kh
                         subst hv5))
                      all_goals (
                        go_roundg (n - (k + 1))
                        case measure => omega
                        case rel => exact ⟨k + 1, _, _, _, _, _, _, _, _, by omega, by omega, by simp, rfl, HFIN.out _ H5.out⟩)
          | succ gk =>
            have hjl : j < bn := by omega
            obtain ⟨hBk, hbn, hd1, hd2, hk2⟩ := HBk.out
            have hbl := hBk.1
            obtain ⟨x, hx⟩ : ∃ x, b.back[j]? = some x := ⟨_, List.getElem?_eq_getElem (by omega)⟩
            obtain ⟨b2, o2, hba, hc2⟩ := hBk.2 (by omega)
            subst hba
            have q0 := (HR.out.I.B.cell (p := ⟨b2, o2 + j, none⟩) (World.block_lt_of_cell? w _ (hc2 j x hx))).trans (hc2 j x hx)
            have c2 := HR.out.I.c2
            have hir := HR.out.I.ir
            obtain ⟨ia, ic, hiv, hic1, hic2⟩ := row_shapeN hir
            subst hiv
            have hkl := HI1.out.2.1
            rw [hkl] at c2
            have j2 : (j : Int) < (bn : Int) := by omega
            have j3 : ¬ bn ≤ j := by omega
            by_cases hk0 : k = 0
            · subst hk0
              have HJ : Hid (j + 1 + gk = bn) := by show _ = _; omega
              have HN : Hid (Rd12 w hb s d st S F G X nv (.slice ia st.ids.length ic) ns B8 B9 (some ⟨b2, o2, none⟩) bn bc b wr e0 pv (backsP st.ids b.back (j + 1))) := by
                have e : backsP st.ids b.back (j + 1) = backsP st.ids b.back j := by unfold backsP; rw [if_pos hkl, if_pos hkl]
                rw [e]; exact HR.out
              clear hc2 hx hBk hir hd1 hd2 HR hbl hkl
              go_wp2
              go_roundg gk
              case measure => omega
              case rel => exact ⟨j + 1, _, HJ.out, by simp, HN.out⟩
            · by_cases hj7 : j < 7
              · have j7 : (j : Int) < 7 := by omega
                have kp : (0 : Int) < (k : Int) := by omega
                obtain ⟨pa, pc, hpv, hpc1, hpc2⟩ := row_shapeN HR.out.row
                subst hpv
                obtain ⟨z0, z1, z2, z3, z4⟩ := five_cells HR.out.b9
                have zf := five_frozen HR.out.b9 1
                obtain ⟨ig, hig⟩ : ∃ ig, ia = some ⟨ig, 0, none⟩ := by
                  rcases hir.2 with ⟨h0, h1⟩ | ⟨g, cap, cur, h0, _⟩
                  · omega
                  · cases h0; exact ⟨g, rfl⟩
                subst hig
                obtain ⟨mk, hmk⟩ : ∃ mk, mk = (max x 0).toNat % k := ⟨_, rfl⟩
                have hmkl : mk < k := by rw [hmk]; exact Nat.mod_lt _ (by omega)
                obtain ⟨ix, hix⟩ : ∃ ix, ix = k - 1 - mk := ⟨_, rfl⟩
                obtain ⟨idv, hidv⟩ : ∃ idv, st.ids[ix]? = some idv := ⟨_, List.getElem?_eq_getElem (by omega)⟩
                have hbi : backId st.ids x = idv := by
                  unfold backId backI
                  rw [hkl, ← hmk, ← hix, hidv]
                  rfl
                have qi : wr.cell? ⟨ig, ix, none⟩ = some (.int .u64 idv) := by
                  rw [hkl] at hir
                  rw [hir.cellAt ix (by omega), List.getElem?_map, hidv]
                  rfl
                have hIX : IntKind.i64.wrap (IntKind.i64.wrap ((k : Int) - 1) - (if x < 0 then 0 else x).tmod (k : Int)) = (ix : Int) := by
                  have h1 : (if x < 0 then (0 : Int) else x) = (((max x 0).toNat : Nat) : Int) := by split <;> omega
                  have h2 : (((max x 0).toNat : Nat) : Int).tmod (k : Int) = (mk : Int) := by rw [hmk]; rfl
                  rw [h1, h2, show IntKind.i64.wrap ((k : Int) - 1) = (k : Int) - 1 from wrap_small (by omega) (by omega), wrap_small (by omega) (by omega)]
                  omega
                have hix2 : (ix : Int) < (k : Int) := by omega
                have hix3 : ix < k := by omega
                have hix4 : (0 : Int) ≤ (ix : Int) := by omega
                have hix5 : ¬ k ≤ ix := by omega
                have hpl := backsP_len st.ids b.back j
                have hstp := backsP_more st.ids b.back j _ (by omega) hj7 hx
                rw [hbi] at hstp
                have hrowA := ((row_low HR.out.row (Nat.zero_le _)).alloc (.cells #[.int .u64 idv] 31)).drew
                have HBR : Hid (Rd12 w hb s d st S F G X nv (.slice (some ⟨ig, 0, none⟩) st.ids.length ic) ns B8 B9 (some ⟨b2, o2, none⟩) bn bc b wr e0 (.slice pa (backsP st.ids b.back j).length pc) (backsP st.ids b.back j)) := HR.out
                have h9l := lt_of_block HR.out.b9
                have z1a : (wr.alloc (.cells #[.int .u64 idv] 31)).cell? ⟨B9, 1, none⟩ = some (.slice pa (backsP st.ids b.back j).length pc) := by
                  rw [World.cell?_of_block (w := wr) (Below.heap_alloc _ _ _ h9l)]; exact z1
                obtain ⟨i0, hi, hzz0, hzz1, hzz2⟩ := info_parts infoIdG
                have hend : ∀ v' w3, w3.ownsRow 0 31 1 v' ((backsP st.ids b.back j).length + 1) ((backsP st.ids b.back j).map (Value.int .u64) ++ [.int .u64 idv]) → (wr.alloc (.cells #[.int .u64 idv] 31)).drew.grownBy w3 (Value.slice pa (backsP st.ids b.back j).length pc).ownBlock → (v'.ownBlock = (Value.slice pa (backsP st.ids b.back j).length pc).ownBlock ∨ v'.ownBlock = some (wr.alloc (.cells #[.int .u64 idv] 31)).drew.heap.size) →
                    w3.cell? ⟨B9, 1, none⟩ = some (.slice pa (backsP st.ids b.back j).length pc) ∧ w3.frozen? ⟨B9, 1, none⟩ = false ∧ (w3.cell? ⟨hb, 2, none⟩ = some (.slice (some ⟨ig, 0, none⟩) k ic) ∧ w3.cell? ⟨ig, ix, none⟩ = some (.int .u64 idv)) ∧ Hid (Rd12 w hb s d st S F G X nv (.slice (some ⟨ig, 0, none⟩) st.ids.length ic) ns B8 B9 (some ⟨b2, o2, none⟩) bn bc b (w3.setCell ⟨B9, 1, none⟩ v') e0 v' (backsP st.ids b.back (j + 1))) := by
                  intro v' w3 ho3 hg3 hat3
                  have hT3 : Turn (fun z => (Value.slice pa (backsP st.ids b.back j).length pc).ownBlock = some z) wr w3 := by
                    have h1 : Turn (fun z => (Value.slice pa (backsP st.ids b.back j).length pc).ownBlock = some z) wr (wr.alloc (.cells #[.int .u64 idv] 31)).drew := Turn.of_below _ (Below.trans ((Below.refl _ wr).alloc (Nat.le_refl _) (.cells #[.int .u64 idv] 31)) ⟨rfl, rfl, rfl, Nat.le_refl _, fun _ _ => rfl⟩)
                    exact h1.trans (Turn.of_grownBy (Fp := fun z => (Value.slice pa (backsP st.ids b.back j).length pc).ownBlock = some z) hg3 (fun z hz => .inl hz)) (fun _ _ e => e)
                  have k9 : w3.heap[B9]? = wr.heap[B9]? := hT3.block B9 h9l (fun e => (HBR.out.pn B9 e).2.2 rfl)
                  have hbk : ∀ z, v'.ownBlock = some z → (Value.slice pa (backsP st.ids b.back j).length pc).ownBlock = some z ∨ wr.heap.size ≤ z := fun z hz => hat3.elim (fun e => .inl (by rw [← e]; exact hz)) (fun e => .inr (by
                    rw [e] at hz
                    cases hz
                    show wr.heap.size ≤ (wr.alloc (.cells #[.int .u64 idv] 31)).heap.size
                    simp))
                  have hhl := World.block_lt_of_cell? wr _ c2
                  have hil := World.block_lt_of_cell? wr _ qi
                  have kh : w3.heap[hb]? = wr.heap[hb]? := hT3.block hb hhl (fun e => (HBR.out.pn hb e).1 (.inl rfl))
                  have ki : w3.heap[ig]? = wr.heap[ig]? := hT3.block ig hil (fun e => (HBR.out.pn ig e).1 (.inr (.inr (.inl rfl))))
                  refine ⟨(World.cell?_of_block k9).trans z1, (World.frozen?_of_block k9).trans zf, ⟨(World.cell?_of_block kh).trans c2, (World.cell?_of_block ki).trans qi⟩, ?_⟩
                  rw [hstp]
                  refine HBR.out.app idv v' (row_high ho3 fun z hz => ?_) hT3 hbk
                  rcases hbk z hz with h | h
                  · exact (HBR.out.row.lt z h).1
                  · have := HBR.out.I.B.size; omega
                have HEnd : Hid _ := hend
                have nb1 : B9 ≠ hb := fun e => HBR.out.n9 (.inl e)
                have nb2 : B9 ≠ ig := fun e => HBR.out.n9 (.inr (.inr (.inl (by rw [e]; rfl))))
                have nb3 : hb ≠ B9 := fun e => nb1 e.symm
                have nb4 : ig ≠ B9 := fun e => nb2 e.symm
                have HJ : Hid (j + 1 + gk = bn) := by show _ = _; omega
                clear hc2 hx hBk hir hd1 hd2 hmk hix hidv hbi hstp hend HR hbl hmkl h9l hpc1 hpc2 hic1 hic2 hk24 hkl
                generalize hPL : (backsP st.ids b.back j).length = PL at *
                have HPL : Hid ((backsP st.ids b.back j).length = PL) := hPL
                clear hPL
                go_wp2
                have hmx : Tryz.prog.follows .mixedOrders = true := by kernel_rfl
                have c2a : (wr.alloc (.cells #[.int .u64 idv] 31)).cell? ⟨hb, 2, none⟩ = some (.slice (some ⟨ig, 0, none⟩) k ic) := by
                  rw [World.cell?_of_block (w := wr) (Below.heap_alloc _ _ _ (World.block_lt_of_cell? wr _ c2))]; exact c2
                have qia : (wr.alloc (.cells #[.int .u64 idv] 31)).cell? ⟨ig, ix, none⟩ = some (.int .u64 idv) := by
                  rw [World.cell?_of_block (w := wr) (Below.heap_alloc _ _ _ (World.block_lt_of_cell? wr _ qi))]; exact qi
                refine wp_region_G (S := SB 26 (fun W => W.cell? ⟨hb, 2, none⟩ = some (.slice (some ⟨ig, 0, none⟩) k ic) ∧ W.cell? ⟨ig, ix, none⟩ = some (.int .u64 idv) ∧ W.cell? ⟨B9, 1, none⟩ = some (.slice pa PL pc)) (fun _ => True)) hmx ?_
                have hSB : SB 26 (fun W => W.cell? ⟨hb, 2, none⟩ = some (.slice (some ⟨ig, 0, none⟩) k ic) ∧ W.cell? ⟨ig, ix, none⟩ = some (.int .u64 idv) ∧ W.cell? ⟨B9, 1, none⟩ = some (.slice pa PL pc)) (fun _ => True) (Array.replicate 27 false) wr.drew := SB.on ⟨c2, qi, z1⟩ trivial
                refine wpAnyG_takeB (i := 0) (b := 26) (v := ?_) rfl (by kernel_rfl) (by kernel_rfl) (by kernel_rfl) (fun _ _ _ h => h) rfl (by kernel_rfl) rfl (by kernel_rfl) (Or.inl ⟨by rfl, ?_⟩) (by assumption) ?_
                rotate_left
                · intro Y hY; obtain ⟨⟨f1, f2, f3⟩, _⟩ := hY; go_simp; try with_reducible rfl
                intro hSB0
                simp only [Act.put, List.getElem_toArray, List.getElem_cons_zero, List.setIfInBounds_toArray, List.set_cons_zero, List.set_cons_succ]
                refine wpAnyG_takeB (i := 1) (b := 26) (v := ?_) rfl (by kernel_rfl) (by kernel_rfl) (by kernel_rfl) (fun _ _ _ h => h) rfl (by kernel_rfl) rfl (by kernel_rfl) (Or.inl ⟨by rfl, ?_⟩) (by assumption) ?_
                rotate_left
                · intro Y hY; obtain ⟨⟨f1, f2, f3⟩, _⟩ := hY; go_simp; try with_reducible rfl
                intro hSB1
                simp only [Act.put, List.getElem_toArray, List.getElem_cons_zero, List.getElem_cons_succ, List.setIfInBounds_toArray, List.set_cons_zero, List.set_cons_succ]
                refine wpAnyG_takeB (i := 2) (b := 26) (v := ?_) rfl (by kernel_rfl) (by kernel_rfl) (by kernel_rfl) (fun _ _ _ h => h) rfl (by kernel_rfl) rfl (by kernel_rfl) (Or.inl ⟨by rfl, ?_⟩) (by assumption) ?_
                rotate_left
                · intro Y hY; obtain ⟨⟨f1, f2, f3⟩, _⟩ := hY; go_simp; try with_reducible rfl
                intro hSB2
                simp only [Act.put, List.getElem_toArray, List.getElem_cons_zero, List.getElem_cons_succ, List.setIfInBounds_toArray, List.set_cons_zero, List.set_cons_succ]
                refine wpAnyG_takeB (i := 3) (b := 26) (v := ?_) rfl (by kernel_rfl) (by kernel_rfl) (by kernel_rfl) (fun _ _ _ h => h) rfl (by kernel_rfl) rfl (by kernel_rfl) (Or.inl ⟨by rfl, ?_⟩) (by assumption) ?_
                rotate_left
                · intro Y hY; obtain ⟨⟨f1, f2, f3⟩, _⟩ := hY; go_simp; try with_reducible rfl
                intro hSB3
                simp only [Act.put, List.getElem_toArray, List.getElem_cons_zero, List.getElem_cons_succ, List.setIfInBounds_toArray, List.set_cons_zero, List.set_cons_succ]
                refine wpAnyG_takeB (i := 4) (b := 26) (v := ?_) rfl (by kernel_rfl) (by kernel_rfl) (by kernel_rfl) (fun _ _ _ h => h) rfl (by kernel_rfl) rfl (by kernel_rfl) (Or.inl ⟨by rfl, ?_⟩) (by assumption) ?_
                rotate_left
                · intro Y hY; obtain ⟨⟨f1, f2, f3⟩, _⟩ := hY; go_simp; try with_reducible rfl
                intro hSB4
                simp only [Act.put, List.getElem_toArray, List.getElem_cons_zero, List.getElem_cons_succ, List.setIfInBounds_toArray, List.set_cons_zero, List.set_cons_succ]
                refine wpAnyG_takeB (i := 5) (b := 26) (v := ?_) rfl (by kernel_rfl) (by kernel_rfl) (by kernel_rfl) (fun _ _ _ h => h) rfl (by kernel_rfl) rfl (by kernel_rfl) (Or.inl ⟨by rfl, ?_⟩) (by assumption) ?_
                rotate_left
                · intro Y hY; obtain ⟨⟨f1, f2, f3⟩, _⟩ := hY; go_simp; try with_reducible rfl
                intro hSB5
                simp only [Act.put, List.getElem_toArray, List.getElem_cons_zero, List.getElem_cons_succ, List.setIfInBounds_toArray, List.set_cons_zero, List.set_cons_succ]
                refine wpAnyG_takeB (i := 6) (b := 26) (v := ?_) rfl (by kernel_rfl) (by kernel_rfl) (by kernel_rfl) (fun _ _ _ h => h) rfl (by kernel_rfl) rfl (by kernel_rfl) (Or.inl ⟨by rfl, ?_⟩) (by assumption) ?_
                rotate_left
                · intro Y hY; obtain ⟨⟨f1, f2, f3⟩, _⟩ := hY; go_simp; try with_reducible rfl
                intro hSB6
                simp only [Act.put, List.getElem_toArray, List.getElem_cons_zero, List.getElem_cons_succ, List.setIfInBounds_toArray, List.set_cons_zero, List.set_cons_succ]
                refine wpAnyG_takeB (i := 7) (b := 26) (v := ?_) rfl (by kernel_rfl) (by kernel_rfl) (by kernel_rfl) (fun _ _ _ h => h) rfl (by kernel_rfl) rfl (by kernel_rfl) (Or.inl ⟨by rfl, ?_⟩) (by assumption) ?_
                rotate_left
                · intro Y hY; obtain ⟨⟨f1, f2, f3⟩, _⟩ := hY; go_simp; try with_reducible rfl
                intro hSB7
                simp only [Act.put, List.getElem_toArray, List.getElem_cons_zero, List.getElem_cons_succ, List.setIfInBounds_toArray, List.set_cons_zero, List.set_cons_succ]
                refine wpAnyG_takeB (i := 8) (b := 26) (v := ?_) rfl (by kernel_rfl) (by kernel_rfl) (by kernel_rfl) (fun _ _ _ h => h) rfl (by kernel_rfl) rfl (by kernel_rfl) (Or.inl ⟨by rfl, ?_⟩) (by assumption) ?_
                rotate_left
                · intro Y hY; obtain ⟨⟨f1, f2, f3⟩, _⟩ := hY; go_simp; try with_reducible rfl
                intro hSB8
                simp only [Act.put, List.getElem_toArray, List.getElem_cons_zero, List.getElem_cons_succ, List.setIfInBounds_toArray, List.set_cons_zero, List.set_cons_succ]
                refine wpAnyG_takeB (i := 9) (b := 26) (v := ?_) rfl (by kernel_rfl) (by kernel_rfl) (by kernel_rfl) (fun _ _ _ h => h) rfl (by kernel_rfl) rfl (by kernel_rfl) (Or.inl ⟨by rfl, ?_⟩) (by assumption) ?_
                rotate_left
                · intro Y hY; obtain ⟨⟨f1, f2, f3⟩, _⟩ := hY; go_simp; try with_reducible rfl
                intro hSB9
                simp only [Act.put, List.getElem_toArray, List.getElem_cons_zero, List.getElem_cons_succ, List.setIfInBounds_toArray, List.set_cons_zero, List.set_cons_succ]
                refine wpAnyG_takeB (i := 10) (b := 26) (v := ?_) rfl (by kernel_rfl) (by kernel_rfl) (by kernel_rfl) (fun _ _ _ h => h) rfl (by kernel_rfl) rfl (by kernel_rfl) (Or.inl ⟨by rfl, ?_⟩) (by assumption) ?_
                rotate_left
                · intro Y hY; obtain ⟨⟨f1, f2, f3⟩, _⟩ := hY; go_simp; try with_reducible rfl
                intro hSB10
                simp only [Act.put, List.getElem_toArray, List.getElem_cons_zero, List.getElem_cons_succ, List.setIfInBounds_toArray, List.set_cons_zero, List.set_cons_succ]
                refine wpAnyG_takeB (i := 11) (b := 26) (v := ?_) rfl (by kernel_rfl) (by kernel_rfl) (by kernel_rfl) (fun _ _ _ h => h) rfl (by kernel_rfl) rfl (by kernel_rfl) (Or.inl ⟨by rfl, ?_⟩) (by assumption) ?_
                rotate_left
                · intro Y hY; obtain ⟨⟨f1, f2, f3⟩, _⟩ := hY; go_simp; try with_reducible rfl
                intro hSB11
                simp only [Act.put, List.getElem_toArray, List.getElem_cons_zero, List.getElem_cons_succ, List.setIfInBounds_toArray, List.set_cons_zero, List.set_cons_succ]
                refine wpAnyG_takeB (i := 12) (b := 26) (v := ?_) rfl (by kernel_rfl) (by kernel_rfl) (by kernel_rfl) (fun _ _ _ h => h) rfl (by kernel_rfl) rfl (by kernel_rfl) (Or.inl ⟨by rfl, ?_⟩) (by assumption) ?_
                rotate_left
                · intro Y hY; obtain ⟨⟨f1, f2, f3⟩, _⟩ := hY; go_simp; try with_reducible rfl
                intro hSB12
                simp only [Act.put, List.getElem_toArray, List.getElem_cons_zero, List.getElem_cons_succ, List.setIfInBounds_toArray, List.set_cons_zero, List.set_cons_succ]
                refine wpAnyG_takeB (i := 13) (b := 26) (v := ?_) rfl (by kernel_rfl) (by kernel_rfl) (by kernel_rfl) (fun _ _ _ h => h) rfl (by kernel_rfl) rfl (by kernel_rfl) (Or.inl ⟨by rfl, ?_⟩) (by assumption) ?_
                rotate_left
                · intro Y hY; obtain ⟨⟨f1, f2, f3⟩, _⟩ := hY; go_simp; try with_reducible rfl
                intro hSB13
                simp only [Act.put, List.getElem_toArray, List.getElem_cons_zero, List.getElem_cons_succ, List.setIfInBounds_toArray, List.set_cons_zero, List.set_cons_succ]
                refine wpAnyG_takeB (i := 14) (b := 26) (v := ?_) rfl (by kernel_rfl) (by kernel_rfl) (by kernel_rfl) (fun _ _ _ h => h) rfl (by kernel_rfl) rfl (by kernel_rfl) (Or.inl ⟨by rfl, ?_⟩) (by assumption) ?_
                rotate_left
                · intro Y hY; obtain ⟨⟨f1, f2, f3⟩, _⟩ := hY; go_simp; try with_reducible rfl
                intro hSB14
                simp only [Act.put, List.getElem_toArray, List.getElem_cons_zero, List.getElem_cons_succ, List.setIfInBounds_toArray, List.set_cons_zero, List.set_cons_succ]
                refine wpAnyG_takeB (i := 15) (b := 26) (v := ?_) rfl (by kernel_rfl) (by kernel_rfl) (by kernel_rfl) (fun _ _ _ h => h) rfl (by kernel_rfl) rfl (by kernel_rfl) (Or.inl ⟨by rfl, ?_⟩) (by assumption) ?_
                rotate_left
                · intro Y hY; obtain ⟨⟨f1, f2, f3⟩, _⟩ := hY; go_simp; try with_reducible rfl
                intro hSB15
                simp only [Act.put, List.getElem_toArray, List.getElem_cons_zero, List.getElem_cons_succ, List.setIfInBounds_toArray, List.set_cons_zero, List.set_cons_succ]
                refine wpAnyG_takeB (i := 16) (b := 26) (v := ?_) rfl (by kernel_rfl) (by kernel_rfl) (by kernel_rfl) (fun _ _ _ h => h) rfl (by kernel_rfl) rfl (by kernel_rfl) (Or.inl ⟨by rfl, ?_⟩) (by assumption) ?_
                rotate_left
                · intro Y hY; obtain ⟨⟨f1, f2, f3⟩, _⟩ := hY; go_simp; try with_reducible rfl
                intro hSB16
                simp only [Act.put, List.getElem_toArray, List.getElem_cons_zero, List.getElem_cons_succ, List.setIfInBounds_toArray, List.set_cons_zero, List.set_cons_succ]
                refine wpAnyG_takeB (i := 17) (b := 26) (v := ?_) rfl (by kernel_rfl) (by kernel_rfl) (by kernel_rfl) (fun _ _ _ h => h) rfl (by kernel_rfl) rfl (by kernel_rfl) (Or.inl ⟨by rfl, ?_⟩) (by assumption) ?_
                rotate_left
                · intro Y hY; obtain ⟨⟨f1, f2, f3⟩, _⟩ := hY; go_simp; try with_reducible rfl
                intro hSB17
                simp only [Act.put, List.getElem_toArray, List.getElem_cons_zero, List.getElem_cons_succ, List.setIfInBounds_toArray, List.set_cons_zero, List.set_cons_succ]
                refine wpAnyG_takeB (i := 18) (b := 26) (v := ?_) rfl (by kernel_rfl) (by kernel_rfl) (by kernel_rfl) (fun _ _ _ h => h) rfl (by kernel_rfl) rfl (by kernel_rfl) (Or.inl ⟨by rfl, ?_⟩) (by assumption) ?_
                rotate_left
                · intro Y hY; obtain ⟨⟨f1, f2, f3⟩, _⟩ := hY; go_simp; try with_reducible rfl
                intro hSB18
                simp only [Act.put, List.getElem_toArray, List.getElem_cons_zero, List.getElem_cons_succ, List.setIfInBounds_toArray, List.set_cons_zero, List.set_cons_succ]
                refine wpAnyG_takeB (i := 19) (b := 26) (v := ?_) rfl (by kernel_rfl) (by kernel_rfl) (by kernel_rfl) (fun _ _ _ h => h) rfl (by kernel_rfl) rfl (by kernel_rfl) (Or.inl ⟨by rfl, ?_⟩) (by assumption) ?_
                rotate_left
                · intro Y hY; obtain ⟨⟨f1, f2, f3⟩, _⟩ := hY; go_simp; try with_reducible rfl
                intro hSB19
                simp only [Act.put, List.getElem_toArray, List.getElem_cons_zero, List.getElem_cons_succ, List.setIfInBounds_toArray, List.set_cons_zero, List.set_cons_succ]
                refine wpAnyG_takeB (i := 20) (b := 26) (v := ?_) rfl (by kernel_rfl) (by kernel_rfl) (by kernel_rfl) (fun _ _ _ h => h) rfl (by kernel_rfl) rfl (by kernel_rfl) (Or.inl ⟨by rfl, ?_⟩) (by assumption) ?_
                rotate_left
                · intro Y hY; obtain ⟨⟨f1, f2, f3⟩, _⟩ := hY; go_simp; try with_reducible rfl
                intro hSB20
                simp only [Act.put, List.getElem_toArray, List.getElem_cons_zero, List.getElem_cons_succ, List.setIfInBounds_toArray, List.set_cons_zero, List.set_cons_succ]
                refine wpAnyG_takeB (i := 21) (b := 26) (v := ?_) rfl (by kernel_rfl) (by kernel_rfl) (by kernel_rfl) (fun _ _ _ h => h) rfl (by kernel_rfl) rfl (by kernel_rfl) (Or.inl ⟨by rfl, ?_⟩) (by assumption) ?_
                rotate_left
                · intro Y hY; obtain ⟨⟨f1, f2, f3⟩, _⟩ := hY; go_simp; try with_reducible rfl
                intro hSB21
                simp only [Act.put, List.getElem_toArray, List.getElem_cons_zero, List.getElem_cons_succ, List.setIfInBounds_toArray, List.set_cons_zero, List.set_cons_succ]
                refine wpAnyG_takeB (i := 22) (b := 26) (v := ?_) rfl (by kernel_rfl) (by kernel_rfl) (by kernel_rfl) (fun _ _ _ h => h) rfl (by kernel_rfl) rfl (by kernel_rfl) (Or.inl ⟨by rfl, ?_⟩) (by assumption) ?_
                rotate_left
                · intro Y hY; obtain ⟨⟨f1, f2, f3⟩, _⟩ := hY; go_simp; try with_reducible rfl
                intro hSB22
                simp only [Act.put, List.getElem_toArray, List.getElem_cons_zero, List.getElem_cons_succ, List.setIfInBounds_toArray, List.set_cons_zero, List.set_cons_succ]
                refine wpAnyG_one (i := 23) (by kernel_rfl) rfl (fun K hK => ?_)
                go_simp
                refine hK.out _ _ (SB.on ⟨c2a, qia, z1a⟩ trivial) (fun hSB23 => ?_)
                clear hK K
                refine wpAnyG_one (i := 24) (by kernel_rfl) rfl (fun K hK => ?_)
                refine step_push1 _ (by rfl) _ _ 28 31 i0 _ 8 (by rfl) Tryz.underlying28 hi hzz0 hzz1 hzz2 rfl (.slice pa PL pc) PL _ (by rfl) hrowA wr.heap.size (.int .u64 idv) (by rfl) (cell_newD wr (.int .u64 idv) 31) rfl (by unfold maxLen; omega) (by omega) ?_
                intro v' w3 ho3 hg3 hat3
                obtain ⟨a4, c4, rfl, _, _⟩ := row_shapeN ho3
                obtain ⟨hx0', hx1', hS3, hF3⟩ := HEnd.out _ w3 ho3 hg3 hat3
                refine hK.out _ _ (SB.on ⟨hS3.1, hS3.2, hx0'⟩ trivial) (fun hSB24 => ?_)
                clear ho3 hg3 hat3
                clear hK K
                simp only [Act.put, List.getElem_toArray, List.getElem_cons_zero, List.getElem_cons_succ, List.setIfInBounds_toArray, List.set_cons_zero, List.set_cons_succ]
                refine wpAnyG_takeP (i := 25) (v := ?_) rfl (by kernel_rfl) (by kernel_rfl) (by kernel_rfl) (fun _ _ _ h => h) rfl (Or.inl ⟨by rfl, ?_⟩) (by assumption) ?_
                rotate_left
                · intro Y hY; go_simp; try with_reducible rfl
                intro hSB25
                simp only [Act.put, List.getElem_toArray, List.getElem_cons_zero, List.getElem_cons_succ, List.setIfInBounds_toArray, List.set_cons_zero, List.set_cons_succ]
                refine wpAnyG_one (i := 26) (by kernel_rfl) rfl (fun K hK => ?_)
                go_simp
                refine hK.out _ _ (SB.off (by kernel_rfl) trivial) (fun hSB26 => ?_)
                clear hK K
                refine wpAnyG_done (by kernel_rfl) ?_ _
                go_wp2
                all_goals (
                  go_roundg gk
                  case measure => omega
                  case rel => exact ⟨j + 1, _, HJ.out, by simp, hF3.out⟩)
              · have j7 : ¬ (j : Int) < 7 := by omega
                have kp : (0 : Int) < (k : Int) := by omega
                have HJ : Hid (j + 1 + gk = bn) := by show _ = _; omega
                have HN : Hid (Rd12 w hb s d st S F G X nv (.slice ia st.ids.length ic) ns B8 B9 (some ⟨b2, o2, none⟩) bn bc b wr e0 pv (backsP st.ids b.back (j + 1))) := by
                  have e : backsP st.ids b.back (j + 1) = backsP st.ids b.back j := by unfold backsP; rw [show min (j + 1) 7 = min j 7 by omega]
                  rw [e]; exact HR.out
                clear hc2 hx hBk hir hd1 hd2 HR hbl hkl
                go_wp2
                go_roundg gk
                case measure => omega
                case rel => exact ⟨j + 1, _, HJ.out, by simp, HN.out⟩
    · obtain rfl : k = n := by omega
      have i2 : ¬ (k : Int) < (k : Int) := by omega
      have e0' : (l.take 20).drop k = [] := List.drop_of_length_le (by rw [List.length_take]; omega)
      have HEn : Hid (E = some st) := by have h := HR.out.1; rw [e0'] at h; exact h
      have HBB : Hid (In12 w wr hb s d st S F G X nv iv ns ∧ st.os.length ≤ 41 ∧ st.ids.length ≤ 20 ∧ st.nodes.length ≤ 20) := ⟨HR.out.2.1, by have := HR.out.2.2.2.1; omega, by have := HR.out.2.2.1; omega, by have := HR.out.2.2.2.2.1; omega⟩
      clear HR e0'
      go_wp2
      go_ret2
      rw [HEn.out]
      exact ⟨HBB.out.1.B, hb, s, d, S, F, G, X, nv, iv, ns, rfl, HBB.out.1, HBB.out.2⟩
end Go.Proofs.YtncagdfbgpdhfaaGreat
