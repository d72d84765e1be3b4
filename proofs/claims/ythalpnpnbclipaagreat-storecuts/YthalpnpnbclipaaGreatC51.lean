import Derived.Test.YthalpnpnbclipaaGreatC50
import Derived.Deep.DeepCutAuto
import Derived.Deep.CutRange
import Derived.Deep.CutBlock
/- The walk of the law StoreCuts. -/
namespace Go.Proofs.YthalpnpnbclipaaGreat
open Go.RowKit Go.Shelf Go.Maps

attribute [local go_sem] Oper.semAt_some

set_option maxRecDepth 100000 in
set_option maxHeartbeats 4000000 in
theorem storeCuts_walk (a : Option Addr) (n c : Nat) (E : Nat → El) (cu : Int) (hcu : cu ≤ 9223372036854775807) (w : World) (hl : Lists w a n E) (hn : n ≤ maxLen) : Calls Tryz.prog 6 #[.slice a n c, .int .i64 cu] w fun e w' => e = .returned (.bool true) ∧ Below w.heap.size w w' := by
  have hn' : n ≤ 9223372036854775807 := by unfold maxLen at hn; omega
  refine (callsIn_wide (n := 5)).1 ?_
  refine callsIn_of_wp_marks Tryz.func6 rfl trivial ?_ rfl
  simp only [Tryz.ntmps6, List.size_toArray, List.length_cons, List.length_nil, Nat.reduceAdd, Nat.reduceSub, Array.replicate_succ, Array.replicate_zero, List.push_toArray, List.append_toArray, List.nil_append, List.cons_append]
  have hmx : Tryz.prog.follows .mixedOrders = true := by kernel_rfl
  refine wpIn_wide.2 ?_
  have C0 : Hid (Cst w (w.alloc (.cells #[.bool false] 4))) := ⟨(Below.refl _ w).alloc (Nat.le_refl _) _, Boxed.new w _ _⟩
  go_wp2_with fail
  refine (swakes_any _).mono ?_
  rintro e w1 ⟨rfl, B1⟩
  have C1 : Hid (Cst w w1) := C0.out.below B1
  clear B1 C0
  go_wp2_with fail
  refine (snew_any w1).mono ?_
  rintro e w2 ⟨rfl, G0, hd2, hG0, B2⟩
  have hx := sopen_good w2 _ [] _ G0 hd2 (JGd.new _) Pure.nil (by simp [fileB]) (by simp)
  clear hd2
  go_wp2_with fail
  refine hx.mono ?_
  clear hx
  rintro e w3 ⟨s, F, G, rfl, hS3, hT3, hF3, hG3⟩
  have hlb := C1.out.box.lt
  have s2 := B2.size
  have C2 := C1.out.below B2
  have C3 : Hid (Cst w w3) := C2.turn hT3 (fun k hk => by have := hG0 k hk; omega)
  have Q3 : Hid (∀ k, F k ∨ G k → w.heap.size < k) := fun k hk => hk.elim (fun h => by have := hF3 k h; omega) (fun h => (hG3 k h).elim (fun e => by have := hG0 k e; omega) (fun e => by omega))
  have HS3 : Hid (StG w3 s (w1.heap.size + 1) [] ⟨fun _ => none, 0, 0, false, 0⟩ F G) := hS3
  clear hT3 hF3 hG3 hG0 B2 hS3 C2 C1
  go_upto_region 5 with fail
  go_cut [42] from 26 to 41 (fun v42 wr => ∃ cm : Nat, v42 = .bool false ∧ Hid (Cst w wr ∧ IsSt wr s (w1.heap.size + 1) [] 0 false F ∧ IsDisk wr (w1.heap.size + 1) ⟨fun _ => none, 0, 0, true, cm⟩ G ∧ ∀ k, F k → ¬ G k))
  case first =>
    have hcase : (cu < 0) ∨ (¬ cu < 0) := Decidable.em _
    rcases hcase with i0 | i0
    · have hx4 := cut_any (w1.heap.size + 1) _ G w3 0 HS3.out.dk (by omega)
      rw [show ((0 : Nat) : Int) = 0 from rfl] at hx4
      go_wp2_with first
        | (go_at_call 28; refine hx4.mono ?_; clear hx4; rintro e w4 ⟨rfl, hd4, hT4⟩; have C4 : Hid (Cst w w4) := C3.out.turn hT4 (fun k hk => Q3.out k (.inr hk)); have H4 : Hid (IsSt w4 s (w1.heap.size + 1) [] 0 false F ∧ IsDisk w4 (w1.heap.size + 1) ⟨fun _ => none, 0, 0, true, 0⟩ G ∧ ∀ k, F k → ¬ G k) := ⟨HS3.out.st.turn hT4 (fun k hk hg => HS3.out.dis k hk hg), hd4, HS3.out.dis⟩; clear hd4 hT4 C3 HS3)
        | (go_at_call 7; refine (swakes_any _).mono ?_; rintro e w5 ⟨rfl, B5⟩; have C5 : Hid (Cst w w5) := C4.out.below B5; have H5 : Hid (IsSt w5 s (w1.heap.size + 1) [] 0 false F ∧ IsDisk w5 (w1.heap.size + 1) ⟨fun _ => none, 0, 0, true, 0⟩ G ∧ ∀ k, F k → ¬ G k) := ⟨H4.out.1.below B5, H4.out.2.1.below B5, H4.out.2.2⟩; clear B5 C4 H4)
      go_meet
      case rel => exact ⟨0, rfl, C5.out, H5.out⟩
    · obtain ⟨cm, rfl⟩ : ∃ cm : Nat, cu = (cm : Int) := ⟨cu.toNat, by omega⟩
      have hx4 := cut_any (w1.heap.size + 1) _ G w3 cm HS3.out.dk (by omega)
      go_wp2_with first
        | (go_at_call 28; refine hx4.mono ?_; clear hx4; rintro e w4 ⟨rfl, hd4, hT4⟩; have C4 : Hid (Cst w w4) := C3.out.turn hT4 (fun k hk => Q3.out k (.inr hk)); have H4 : Hid (IsSt w4 s (w1.heap.size + 1) [] 0 false F ∧ IsDisk w4 (w1.heap.size + 1) ⟨fun _ => none, 0, 0, true, cm⟩ G ∧ ∀ k, F k → ¬ G k) := ⟨HS3.out.st.turn hT4 (fun k hk hg => HS3.out.dis k hk hg), hd4, HS3.out.dis⟩; clear hd4 hT4 C3 HS3)
        | (go_at_call 7; refine (swakes_any _).mono ?_; rintro e w5 ⟨rfl, B5⟩; have C5 : Hid (Cst w w5) := C4.out.below B5; have H5 : Hid (IsSt w5 s (w1.heap.size + 1) [] 0 false F ∧ IsDisk w5 (w1.heap.size + 1) ⟨fun _ => none, 0, 0, true, cm⟩ G ∧ ∀ k, F k → ¬ G k) := ⟨H4.out.1.below B5, H4.out.2.1.below B5, H4.out.2.2⟩; clear B5 C4 H4)
      go_meet
      case rel => exact ⟨cm, rfl, C5.out, H5.out⟩
  case rest =>
    clear HS3 C3
    obtain ⟨cm, rfl, H5⟩ := hcut
    have hlb5 := H5.out.1.box.lt
    have HK0 : Hid (KInv w (wc.alloc (.cells #[.slice none 0 0] 32)) s (w1.heap.size + 1) wc.heap.size [] ⟨fun _ => none, 0, 0, true, cm⟩ F G false 0 [] (.slice none 0 0)) := by
      have hB : Below wc.heap.size wc (wc.alloc (.cells #[.slice none 0 0] 32)) := (Below.refl _ _).alloc (Nat.le_refl _) _
      obtain ⟨h1, h2, h3, h4⟩ := H5.out
      refine ⟨⟨h2.below hB, h3.below hB, h4, CG.of_whole false rfl (by simp) (by simp) (by simp) (by simp), Pure.nil, by simp⟩, fun x hx => ⟨Q3.out x hx, ?_⟩, hlb5, h1.below hB, by simp, by simp, Boxed.new _ _ _, World.ownsRow_nil _ _ _ _, by simp [Value.ownBlock]⟩
      have : x < wc.heap.size := hx.elim (fun h => h2.lt x h) (fun h => h3.lt x h)
      omega
    clear H5 Q3 hlb5
    go_upto_block 0 with fail
    obtain ⟨B8, hB8⟩ : ∃ B8, B8 = wc.heap.size := ⟨_, rfl⟩
    rw [← hB8] at HK0 ⊢
    obtain ⟨w6, hw6⟩ : ∃ w6, w6 = wc.alloc (.cells #[.slice none 0 0] 32) := ⟨_, rfl⟩
    rw [← hw6] at HK0 ⊢
    clear hB8 hw6
    go_cut [] from 9 to 93 (fun wr => ∃ (os : List Ob) (S : DG) (F G : Nat → Prop) (dead : Bool) (v : Value), Hid (KInv w wr s (w1.heap.size + 1) B8 os S F G dead 40 (oids os) v))
    case first =>
      obtain ⟨ii0, hii, hzz0, hzz1, hzz2⟩ := info_parts infoId
      go_wp2_with fail
      go_loopw [45] (fun i wr => ∃ (k : Nat) (os : List Ob) (S : DG) (F G : Nat → Prop) (dead : Bool) (v : Value), k ≤ n ∧ k ≤ 40 ∧ i = .int .i64 k ∧ Hid (KInv w wr s (w1.heap.size + 1) B8 os S F G dead k (oids os) v)) (fun i _ => n - (intOf i).toNat)
      case atStart => exact ⟨0, [], _, F, G, false, _, Nat.zero_le _, by omega, rfl, HK0⟩
      case round =>
        clear HK0
        obtain ⟨k, os, S, F, G, dead, v, hk, hk40, rfl, H⟩ := hrel
        by_cases hlt : k < n
        · obtain ⟨b, off, rfl, hc⟩ := hl.1 (by omega)
          obtain ⟨hbE, hmc, hnilE, hmx⟩ := hl.2 k hlt
          have hck : wr.cell? ⟨b, off + k, none⟩ = some (.slice (E k).x (E k).m (E k).c) := (H.out.cst.bel.cell (p := ⟨b, off + k, none⟩) (World.block_lt_of_cell? w _ (hc k hlt))).trans (hc k hlt)
          obtain ⟨x, m, cx, lx, hE⟩ : ∃ x m cx lx, E k = ⟨x, m, cx, lx⟩ := ⟨_, _, _, _, rfl⟩
          rw [hE] at hck hbE hmc hnilE hmx
          simp only at hck hbE hmc hnilE hmx
          have Hb : Hid (Bytes w x m lx ∧ m ≤ cx ∧ (x = none → m = 0 ∧ cx = 0)) := ⟨hbE, hmc, hnilE⟩
          have i1 : (k : Int) < (n : Int) := by omega
          have hm' : m ≤ 9223372036854775807 := by unfold maxLen at hmx; omega
          clear hc hE hbE hmc hnilE hmx
          by_cases h40 : k = 40
          · subst h40
            go_wp2_with fail
            go_meet
            case rel => exact ⟨os, S, F, G, dead, v, H.out⟩
          · have i40 : ¬ (k : Int) = 40 := by omega
            by_cases h4096 : 4096 < m
            · have i2 : (4096 : Int) < (m : Int) := by omega
              go_wp2_with fail
              go_meet
              case rel => exact ⟨os, S, F, G, dead, v, H.out.mono hk40⟩
            · have i2 : ¬ (4096 : Int) < (m : Int) := by omega
              have hlen := slen_any wr s _ os _ _ F H.out.st.st
              have hba : Bytes (wr.alloc (.cells #[] 5)) x m lx := (Turn.of_below (fun _ => False) (H.out.cst.bel.alloc H.out.cst.bel.size _)).bytes Hb.out.1 (fun _ _ _ => id)
              go_wp2_with first
                | (go_at_call 27; refine hlen.mono ?_; clear hlen; rintro e wl ⟨rfl, hwl⟩; have hwl' := hwl.symm; clear hwl; subst hwl')
                | (at_builtin; refine wpList_append_row _ rfl _ _ rfl (.slice (some ⟨wr.heap.size, 0, none⟩) 0 0) 0 [] rfl (empty_row wr) x m cx lx rfl hba Hb.out.2.2 (by omega) ?_; intro v7 w7 hown7 hgr7 hat7; obtain ⟨a7, c7, rfl, hnc7, hnil7⟩ := ownsRow_shape' hown7)
              rw [Nat.zero_add] at hown7 hnc7 hnil7
              rw [List.nil_append] at hown7
              have hB7 : Below wr.heap.size wr w7 := ((Below.refl _ wr).alloc (Nat.le_refl _) _).grown hgr7 (by simp) (fun k hk => by cases hk; exact Nat.le_refl _)
              have hb7 := (ownsRow_toBytes hown7).1
              have ha7 : 0 < m → ∀ y, a7 = some y → ¬ (F y.block ∨ G y.block) := fun _ y hy hq => by
                have h1 : y.block < wr.heap.size := hq.elim (fun h => H.out.st.st.lt _ h) (fun h => H.out.st.dk.lt _ h)
                rcases hat7 with e | e
                · rw [hy] at e
                  simp [Value.ownBlock] at e
                  omega
                · rw [hy] at e
                  simp [Value.ownBlock] at e
                  omega
              have hol := H.out.len
              have hwrs : S.wr ≤ 1000000 := by
                have h1 := H.out.wrs
                have h3 : k * 4115 ≤ 40 * 4115 := Nat.mul_le_mul hk40 (Nat.le_refl _)
                omega
              have hx8 := sput_cut w7 s _ os S F G dead (H.out.st.below hB7) a7 m c7 lx hb7 hnil7 ha7 (by omega) (by omega) hwrs
              have HB7 : Hid (Below wr.heap.size wr w7) := hB7
              clear hown7 hgr7 hat7 hB7 hb7 hba hnil7 hnc7 ha7 hwrs
              go_wp2_with fail
              refine hx8.mono ?_
              clear hx8
              rintro e w8 ⟨idv, er, os8, S8, F8, G8, dead8, rfl, hP⟩
              have H8 : Hid (KInv w w8 s (w1.heap.size + 1) B8 os8 S8 F8 G8 dead8 (k + 1) (oids os) v) := H.out.moved HB7.out hP
              have hres := hP.res
              have hlen8 := slen_any w8 s _ os8 _ _ F8 hP.st.st
              clear hP
              rcases hres with ⟨rfl, rfl, rfl⟩ | ⟨hoe, her⟩
              · simp only [List.length_append, List.length_cons, List.length_nil, Nat.zero_add] at hlen8
                obtain ⟨N, hN⟩ : ∃ N, N = os.length := ⟨_, rfl⟩
                have HN : Hid (N = os.length) := hN
                rw [← hN] at hlen8 ⊢
                obtain ⟨I, hI⟩ : ∃ I, I = oid (.blob lx) := ⟨_, rfl⟩
                have HI : Hid (I = oid (.blob lx)) := hI
                rw [← hI]
                have i9 : (N : Int) < ((N + 1 : Nat) : Int) := by omega
                have cV := H8.out.box.cell
                have fV := H8.out.box.frozen
                have hrow8 := H8.out.row
                rw [show (oids os).length = N by simp [oids, hN]] at hrow8
                obtain ⟨ga, gc, rfl, _⟩ := row_shape hrow8
                have hrow9 := hrow8.alloc (.cells #[.int .u64 I] 24)
                have hlb8 := H8.out.cst.box.lt
                have hN40 : N ≤ 40 := by omega
                have HBX : Hid (Boxed w8 B8 32 (.slice ga N gc) ∧ ∀ g, (Value.slice ga N gc).ownBlock = some g → g ≠ B8) := ⟨H8.out.box, fun g hg => (H8.out.vq g hg).2⟩
                clear hI hN hrow8 H
                go_wp2_with first
                  | (go_at_call 27; refine hlen8.mono ?_; clear hlen8; rintro e wl ⟨rfl, hwl⟩; have hwl' := hwl.symm; clear hwl; subst hwl')
                  | (at_builtin; refine wpList_append_own_at _ rfl _ _ 32 rfl (w.heap.size + 1) 24 ii0 (.int .u64 0) 1 8 Tryz.underlying32 hii hzz0 hzz1 hzz2 rfl (by decide) _ N _ rfl hrow9 ⟨_, 0, none⟩ 1 1 [.int .u64 I] rfl rfl (cell_one_new _ _ _) (by simp [Value.oneCell']) (by unfold maxLen; omega) (by omega) (by simp; omega) ?_; intro v9 w9 hown9 hgr9 _ hat9; have b9 : Boxed w9 B8 32 (.slice ga N gc) := (HBX.out.1.alloc (.cells #[.int .u64 I] 24)).kept hgr9 (fun e => HBX.out.2 _ e.symm rfl); have c9 := b9.cell; have f9 := b9.frozen; obtain ⟨ga9, gc9, hv9, _⟩ := row_shape hown9; subst hv9; have H9 : Hid (w9.ownsRow (w.heap.size + 1) 24 1 (.slice ga9 (N + 1) gc9) (N + 1) (List.map (Value.int IntKind.u64) (oids os) ++ [Value.int IntKind.u64 I]) ∧ (w8.alloc (.cells #[.int .u64 I] 24)).grownBy w9 (Value.slice ga N gc).ownBlock ∧ ((Value.slice ga9 (N + 1) gc9).ownBlock = (Value.slice ga N gc).ownBlock ∨ (Value.slice ga9 (N + 1) gc9).ownBlock = some (w8.alloc (.cells #[.int .u64 I] 24)).heap.size)) := ⟨hown9, hgr9, hat9⟩; clear b9 hown9 hgr9 hat9)
                go_roundw
                case rel =>
                  refine ⟨k + 1, os ++ [.blob lx], S8, F8, G8, dead8, .slice ga9 (N + 1) gc9, by omega, by omega, by go_num, ?_⟩
                  have hl1 : (oids os).length = N := by simp [oids, HN.out]
                  have := H8.out.push (x := I) (by rw [hl1]; exact H9.out.1) H9.out.2.1 H9.out.2.2
                  rw [show oids (os ++ [.blob lx]) = oids os ++ [I] by rw [HI.out]; simp [oids]]
                  exact this
                case measure => simp [intOf]; omega
              · have hoe2 := hoe.symm
                clear hoe
                subst hoe2
                clear H
                rcases her with rfl | rfl | rfl
                · go_wp2_with (go_at_call 27; refine hlen8.mono ?_; clear hlen8; rintro e wl ⟨rfl, hwl⟩; have hwl' := hwl.symm; clear hwl; subst hwl')
                  go_roundw
                  case rel => exact ⟨k + 1, os, S8, F8, G8, dead8, v, by omega, by omega, by go_num, H8⟩
                  case measure => simp [intOf]; omega
                · go_wp2_with (go_at_call 27; refine hlen8.mono ?_; clear hlen8; rintro e wl ⟨rfl, hwl⟩; have hwl' := hwl.symm; clear hwl; subst hwl')
                  go_roundw
                  case rel => exact ⟨k + 1, os, S8, F8, G8, dead8, v, by omega, by omega, by go_num, H8⟩
                  case measure => simp [intOf]; omega
                · go_wp2_with (go_at_call 27; refine hlen8.mono ?_; clear hlen8; rintro e wl ⟨rfl, hwl⟩; have hwl' := hwl.symm; clear hwl; subst hwl')
                  go_roundw
                  case rel => exact ⟨k + 1, os, S8, F8, G8, dead8, v, by omega, by omega, by go_num, H8⟩
                  case measure => simp [intOf]; omega
        · have i1 : ¬ (k : Int) < (n : Int) := by omega
          go_wp2_with fail
          go_meet
          case rel => exact ⟨os, S, F, G, dead, v, H.out.mono hk40⟩
    case rest =>
      clear HK0
      obtain ⟨os, S, F, G, dead, v, H⟩ := hcut
      have hol := H.out.len
      have hwrs := H.out.wrs
      have hx10 := mend_any (w1.heap.size + 1) S G _ H.out.st.dk
      have HOP : Hid (∀ W, IsDisk W (w1.heap.size + 1) { S with cut := false, left := 0 } G → Calls Tryz.prog 9 #[.pointer (some ⟨w1.heap.size + 1, 0, none⟩)] W fun e w' => ∃ s S' F G', e = .returned (.tuple #[.pointer (some ⟨s, 0, none⟩), .int .i64 0]) ∧ StC w' s (w1.heap.size + 1) os S' F G' false ∧ S'.cut = false ∧ S'.wr ≤ S.wr + 1 ∧ Turn G W w' ∧ (∀ k, F k → W.heap.size ≤ k) ∧ (∀ k, G' k → G k ∨ W.heap.size ≤ k)) := fun W hd => sopen_cut W _ os { S with cut := false, left := 0 } G dead hd (H.out.st.cg.same rfl rfl) rfl H.out.st.pu H.out.st.sm (by omega) (show S.wr ≤ 1000000 by omega)
      obtain ⟨N, hN⟩ : ∃ N, N = os.length := ⟨_, rfl⟩
      have HN : Hid (N = os.length) := hN
      have hN40 : N ≤ 40 := by omega
      have hvs := row_shape H.out.row
      rw [show (oids os).length = N by simp [oids, hN]] at hvs
      obtain ⟨ga, gc, hv, _⟩ := hvs
      subst hv
      have HG : Hid (Cst w wc ∧ Boxed wc B8 32 (.slice ga N gc) ∧ wc.ownsRow (w.heap.size + 1) 24 1 (.slice ga N gc) N ((oids os).map (Value.int .u64)) ∧ (∀ k, G k → w.heap.size < k ∧ k ≠ B8) ∧ (∀ g, (Value.slice ga N gc).ownBlock = some g → ¬ G g ∧ g ≠ B8) ∧ w.heap.size < B8) := ⟨H.out.cst, H.out.box, by have := H.out.row; rw [show (oids os).length = N by simp [oids, hN]] at this; exact this, fun k hk => H.out.q k (.inr hk), fun g hg => ⟨fun e => (H.out.vq g hg).1 (.inr e), (H.out.vq g hg).2⟩, H.out.b8⟩
      clear H hN hol
      have HQQ : Hid (∀ W, Cst w W → Boxed W B8 32 (.slice ga N gc) → W.ownsRow (w.heap.size + 1) 24 1 (.slice ga N gc) N ((oids os).map (Value.int .u64)) → ∀ k, G k ∨ W.heap.size ≤ k → w.heap.size < k ∧ k ≠ B8 ∧ ∀ g, (Value.slice ga N gc).ownBlock = some g → g ≠ k) := fun W hC hb hr k hk => by
        have h1 := hC.box.lt
        have h2 := hb.lt
        rcases hk with hk | hk
        · exact ⟨(HG.out.2.2.2.1 k hk).1, (HG.out.2.2.2.1 k hk).2, fun g hg e => (HG.out.2.2.2.2.1 g hg).1 (e ▸ hk)⟩
        · exact ⟨by omega, by omega, fun g hg e => by have := (row_block hr g hg).2.1; omega⟩
      go_wp2_with first
        | (go_at_call 29; refine hx10.mono ?_; clear hx10; rintro e w10 ⟨rfl, hd10, hT10⟩; have H10 : Hid (IsDisk w10 (w1.heap.size + 1) { S with cut := false, left := 0 } G ∧ Cst w w10 ∧ Boxed w10 B8 32 (.slice ga N gc) ∧ w10.ownsRow (w.heap.size + 1) 24 1 (.slice ga N gc) N ((oids os).map (Value.int .u64))) := ⟨hd10, HG.out.1.turn hT10 (fun k hk => (HG.out.2.2.2.1 k hk).1), (hT10.block _ HG.out.2.1.lt (fun e => (HG.out.2.2.2.1 _ e).2 rfl)).trans HG.out.2.1, row_moved HG.out.2.2.1 (fun g hg => hT10.block g (row_block HG.out.2.2.1 g hg).2.1 (HG.out.2.2.2.2.1 g hg).1)⟩; clear hd10 hT10)
        | (go_at_call 9; refine (HOP.out _ H10.out.1).mono ?_; clear HOP; rintro e w11 ⟨t, S11, F11, G11, rfl, hS11, hc11, hw11, hT11, hF11, hG11⟩; have H11 : Hid (Cst w w11 ∧ Boxed w11 B8 32 (.slice ga N gc) ∧ w11.ownsRow (w.heap.size + 1) 24 1 (.slice ga N gc) N ((oids os).map (Value.int .u64))) := ⟨H10.out.2.1.turn hT11 (fun k hk => (HG.out.2.2.2.1 k hk).1), (hT11.block _ H10.out.2.2.1.lt (fun e => (HG.out.2.2.2.1 _ e).2 rfl)).trans H10.out.2.2.1, row_moved H10.out.2.2.2 (fun g hg => hT11.block g (row_block H10.out.2.2.2 g hg).2.1 (HG.out.2.2.2.2.1 g hg).1)⟩; have HS11 : Hid (StC w11 t (w1.heap.size + 1) os S11 F11 G11 false ∧ S11.cut = false ∧ S11.wr ≤ 500000 ∧ (∀ k, F11 k ∨ G11 k → w.heap.size < k ∧ k ≠ B8 ∧ ∀ g, (Value.slice ga N gc).ownBlock = some g → g ≠ k)) := ⟨hS11, hc11, (by omega), (fun k hk => HQQ.out w10 H10.out.2.1 H10.out.2.2.1 H10.out.2.2.2 k (hk.elim (fun h => .inr (hF11 k h)) (hG11 k)))⟩; clear hS11 hc11 hw11 hT11 hF11 hG11 H10)
      have cV11 := H11.out.2.1.cell
      have hB11d : Below w11.heap.size w11 w11.drew := ⟨rfl, rfl, rfl, Nat.le_refl _, fun _ _ => rfl⟩
      have hlen11 := slen_any w11.drew t _ os _ _ F11 (HS11.out.1.st.below hB11d)
      rw [← HN.out] at hlen11
      go_region_held3 (fun W => W.cell? ⟨B8, 0, none⟩ = some (.slice ga N gc))
        (first
          | (go_split_ands; go_keep)
          | exact cV11)
        ((go_at_call 27; refine hlen11.mono ?_; rintro e w' ⟨rfl, rfl⟩))
      clear hlen11 cV11
      go_wp2_with fail
      refine (since_any _ _ _).mono ?_
      rintro e w' ⟨rfl, hw'⟩
      have hw'' := hw'.symm
      clear hw'
      subst hw''
      go_wp2_with fail
      obtain ⟨wy, hwy⟩ : ∃ wy, wy = (((w11.alloc (.cells #[.int .i64 0] 3)).alloc (.cells #[.pointer (some ⟨t, 0, none⟩)] 28)).alloc (.cells #[.int .i64 0] 3)).drew := ⟨_, rfl⟩
      have hys : wy.heap.size = w11.heap.size + 3 := by rw [hwy]; simp
      have hBy : Below w11.heap.size w11 wy := by
        have h1 : Below w11.heap.size w11 (((w11.alloc (.cells #[.int .i64 0] 3)).alloc (.cells #[.pointer (some ⟨t, 0, none⟩)] 28)).alloc (.cells #[.int .i64 0] 3)) := (((Below.refl _ w11).alloc (Nat.le_refl _) _).alloc (by simp) _).alloc (by simp only [World.size_alloc]; omega) _
        rw [hwy]; exact ⟨h1.os, h1.tape, h1.output, h1.size, h1.block⟩
      have bC : Boxed wy w11.heap.size 3 (.int .i64 0) := by
        have h0 : Boxed (((w11.alloc (.cells #[.int .i64 0] 3)).alloc (.cells #[.pointer (some ⟨t, 0, none⟩)] 28)).alloc (.cells #[.int .i64 0] 3)) w11.heap.size 3 (.int .i64 0) := ((Boxed.new w11 _ _).alloc _).alloc _
        rw [hwy]; exact h0
      have bS : Boxed wy (w11.heap.size + 1) 28 (.pointer (some ⟨t, 0, none⟩)) := by
        have := (Boxed.new (w11.alloc (.cells #[.int .i64 0] 3)) 28 (.pointer (some ⟨t, 0, none⟩))).alloc (.cells #[.int .i64 0] 3)
        rw [World.size_alloc] at this
        rw [hwy]; exact this
      have bN : Boxed wy (w11.heap.size + 1 + 1) 3 (.int .i64 0) := by
        have := Boxed.new ((w11.alloc (.cells #[.int .i64 0] 3)).alloc (.cells #[.pointer (some ⟨t, 0, none⟩)] 28)) 3 (.int .i64 0)
        rw [World.size_alloc, World.size_alloc] at this
        rw [hwy]; exact this
      obtain ⟨j, mb, M, vv, FJ, O, hSt⟩ := HS11.out.1.st
      have hFlt : ∀ k, F11 k → k < w11.heap.size := hSt.lt
      have hst := since_tells wy t _ j mb M vv _ _ _ _ FJ O F11 (hSt.below hBy) (w11.heap.size + 1) (w11.heap.size + 1 + 1) bS.cell 0 bN.cell (by rw [← HN.out]; omega) 4 (by omega)
      rw [show firstN 0 os.length = 0 from rfl, List.drop_zero] at hst
      have HY : Hid (∀ W, Turn (fun k => k = w11.heap.size) wy W → Cst w W ∧ Boxed W B8 32 (.slice ga N gc) ∧ W.ownsRow (w.heap.size + 1) 24 1 (.slice ga N gc) N ((oids os).map (Value.int .u64)) ∧ StC W t (w1.heap.size + 1) os S11 F11 G11 false) := fun W hT => by
        have hbl := H11.out.2.1.lt
        have hcl := H11.out.1.box.lt
        have cy := H11.out.1.below hBy
        have by' : Boxed wy B8 32 (.slice ga N gc) := (hBy.block _ hbl).trans H11.out.2.1
        have ry := row_keep H11.out.2.2 hBy
        refine ⟨cy.turn hT (fun k e => by omega), (hT.block _ by'.lt (by omega)).trans by', row_moved ry (fun g hg => hT.block g (row_block ry g hg).2.1 (fun e => by have := (row_block H11.out.2.2 g hg).2.1; omega)), (HS11.out.1.below hBy).turn hT (fun k hk e => ?_)⟩
        have : k < w11.heap.size := hk.elim (fun h => HS11.out.1.st.lt k h) (fun h => HS11.out.1.dk.lt k h)
        omega
      have hcl := H11.out.1.box.lt
      rw [← hwy]
      clear hwy hSt H11 hBy
      refine (wpIn_wide (n := 5)).1 ?_
      refine range_told (α := Int) (w := wy) rfl (by omega) (gf := 61) (lb := #[.pointer (some ⟨w11.heap.size + 1, 0, none⟩), .pointer (some ⟨w11.heap.size + 1 + 1, 0, none⟩)]) rfl trivial (enters_of Tryz.func61 (by kernel_rfl) rfl)
        hst (fun _ => rfl) (fun k hk => by have := hFlt k hk; omega)
        (CntI w11.heap.size wy) (cntI_own _ _ (by omega)) (fun _ _ _ _ _ _ h _ _ => h) ⟨bC, Turn.refl _ _⟩ ?act ?assign ?body ?done
      case assign =>
        intro l x W K hK
        gi_wp2
        exact hK
      case body =>
        rintro l pre x W hl ⟨bv, hT⟩ hx
        obtain ⟨hC, bI, hrow, _⟩ := HY.out W hT
        have cI := bI.cell
        have cC := bv.cell
        have fC := bv.frozen
        have hpl : pre.length < N := by
          have := (List.getElem?_eq_some_iff.1 hx).1
          simp only [oids, List.length_map] at this
          rw [HN.out]; exact this
        obtain ⟨g, rfl⟩ : ∃ g, ga = some ⟨g, 0, none⟩ := by
          rcases hrow.2 with ⟨_, e⟩ | ⟨g, cap, cur, e, _⟩
          · omega
          · cases e; exact ⟨g, rfl⟩
        have hcell := hrow.cells (g := g) rfl pre.length (.int .u64 x) (by rw [List.getElem?_map, hx]; rfl)
        rw [Addr.add_lit] at hcell
        have q1 : W.cell? ⟨g, pre.length, none⟩ = some (.int .u64 x) := by simpa using hcell
        have H : Hid (Boxed W w11.heap.size 3 (.int .i64 (pre.length : Int)) ∧ Turn (fun k => k = w11.heap.size) wy W) := ⟨bv, hT⟩
        clear bv hT hC bI hrow hcell hx hst bC bS bN
        obtain ⟨PL, hPL⟩ : ∃ PL, PL = pre.length := ⟨_, rfl⟩
        have HPL : Hid (PL = pre.length) := hPL
        rw [← hPL] at cC q1 hpl
        clear hPL
        have i1 : (PL : Int) < (N : Int) := by omega
        have i2 : ¬ N ≤ PL := by omega
        gi_wp2
        obtain ⟨bv, hT⟩ := H.out
        have hT2 := turn_setCell W w11.heap.size 0 (.int .i64 ((PL : Int) + 1))
        refine ⟨keepsFrom_turn hT2 (fun q o hq hB _ => by omega), ⟨hT2.size, fun q hq => hT2.block q (by have := hFlt q hq; have := hT.size; omega) (by have := hFlt q hq; omega)⟩, ?_, hT.trans hT2 (fun _ _ e => e)⟩
        have := bv.set (.int .i64 ((PL : Int) + 1))
        rw [List.length_append, ← HPL.out]
        exact this
      case done =>
        rintro D xs W hD hxs ⟨bv, hT⟩ hK
        obtain ⟨hC, bI, hrow, hS⟩ := HY.out W hT
        have kc := fun (w : World) (C : Array Value) (n c : Nat) => Lib.run_convert_bytes_const (P := Tryz.prog) w 36 5 C n c Tryz.underlying36 Tryz.underlying5
        have hBL : Below W.heap.size W (W.alloc (.cells #[.int .u8 103, .int .u8 111, .int .u8 110, .int .u8 101, .int .u8 32, .int .u8 111, .int .u8 110] 5 (7, 8))) := (Below.refl _ _).alloc (Nat.le_refl _) _
        have hx12 := sput_cut (W.alloc (.cells #[.int .u8 103, .int .u8 111, .int .u8 110, .int .u8 101, .int .u8 32, .int .u8 111, .int .u8 110] 5 (7, 8))) t _ os S11 F11 G11 false (hS.below hBL) (some ⟨W.heap.size, 0, none⟩) 7 7 [103, 111, 110, 101, 32, 111, 110] (lit_seven W 103 111 110 101 32 111 110 (7, 8)) (fun h => by cases h) (fun _ y hy hk => by
          cases hy
          rcases hk with hk | hk
          · have := hS.st.lt _ hk; simp only at this; omega
          · have := hS.dk.lt _ hk; simp only at this; omega) (by omega) (by rw [← HN.out]; omega) (by have := HS11.out.2.2.1; omega)
        have HW : Hid (Cst w W ∧ W.heap[D]? = some (.deferred (some [])) ∧ wy.heap.size ≤ D ∧ (∀ k, F11 k ∨ G11 k → k < w11.heap.size ∧ w.heap.size < k)) := ⟨hC, hK, hD, fun k hk => ⟨hk.elim (fun h => HS11.out.1.st.lt k h) (fun h => HS11.out.1.dk.lt k h), (HS11.out.2.2.2 k hk).1⟩⟩
        have HEND : Hid (∀ w12 os' S' F' G' d' id er, PutCut (W.alloc (.cells #[.int .u8 103, .int .u8 111, .int .u8 110, .int .u8 101, .int .u8 32, .int .u8 111, .int .u8 110] 5 (7, 8))) w12 t (w1.heap.size + 1) os os' S11 S' F11 G11 F' G' false d' [103, 111, 110, 101, 32, 111, 110] id er → Cst w w12 ∧ w12.heap[D]? = some (.deferred (some []))) := fun w12 os' S' F' G' d' id er hP => by
          obtain ⟨hC, hK, hD, hq⟩ := HW.out
          have hDl := (Array.getElem?_eq_some_iff.1 hK).1
          exact ⟨(hC.below hBL).turn hP.tn (fun k hk => (hq k hk).2), (hP.tn.block D (by simp; omega) (fun e => by have := (hq D e).1; omega)).trans ((hBL.block D hDl).trans hK)⟩
        clear bv hT hC bI hrow hS hK hst bC bS bN hBL
        go_wp2_with fail
        refine hx12.mono ?_
        clear hx12
        rintro e w12 ⟨idv, er, os12, S12, F12, G12, d12, rfl, hP⟩
        obtain ⟨hC12, hK12⟩ := HEND.out _ _ _ _ _ _ _ _ hP
        have HC12 : Hid (Cst w w12 ∧ w12.heap[D]? = some (.deferred (some []))) := ⟨hC12, hK12⟩
        have cR := hC12.box.cell
        have fR := hC12.box.frozen
        have hfin : er = 0 ∨ er = 7 := by
          rcases hP.res with ⟨e, _⟩ | ⟨_, e | e | e⟩
          · exact .inl e
          · exact .inl e
          · exact absurd e (hP.free HS11.out.2.1 rfl)
          · exact .inr e
        have HFIN : Hid (∀ tm : Array Value, tm[4]?.getD undef = .pointer (some ⟨w.heap.size, 0, none⟩) → bodyPostM Fence.wide 5 Tryz.prog Tryz.f6 (fun e w' => e = .returned (.bool true) ∧ Below w.heap.size w w') Exit.ret { tmps := tm, defers := [{ target := .collected D, args := #[] }] } (w12.setCell ⟨w.heap.size, 0, none⟩ (.bool true))) := fun tm htm => by
          have hDw : w.heap.size < D := by have := HW.out.2.2.1; omega
          have hK2 : (w12.setCell ⟨w.heap.size, 0, none⟩ (.bool true)).heap[D]? = some (.deferred (some [])) := (Below.heap_setCell _ _ _ _ (by show D ≠ w.heap.size; omega)).trans hK12
          have b1 := hC12.box.set (.bool true)
          have c0 := (b1.kept (grownBy_putObj' _ D (.deferred none)) (by simp; omega)).cell
          have hbel := hC12.bel.setCell (p := ⟨w.heap.size, 0, none⟩) (Nat.le_refl _) (.bool true)
          exact sfin_m (v := .bool true) hK2 (by simp [results, Tryz.results6, go_sem, htm, c0]) ⟨rfl, ⟨hbel.os, hbel.tape, hbel.output, by simpa using hbel.size, fun q hq => (World.putObj_heap_other (by omega)).trans (hbel.block q hq)⟩⟩
        rcases hfin with rfl | rfl
        · obtain ⟨hh, hb0, hb1⟩ := hP.has rfl
          have hhas := has_any w12 t _ os12 _ _ F12 hP.st.st idv hb0 hb1
          rw [hh] at hhas
          clear hP hC12 hK12 hh
          go_wp2_with (go_at_call 16; refine hhas.mono ?_; clear hhas; rintro e w13 ⟨rfl, h13⟩; have h13' := h13.symm; clear h13; subst h13')
          exact HFIN.out _ rfl
        · clear hP hC12 hK12
          go_wp2_with fail
          exact HFIN.out _ rfl
end Go.Proofs.YthalpnpnbclipaaGreat
