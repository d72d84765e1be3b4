import Derived.Test.YtiafhbpklddlnaaC51
/- The walk of the law RefsAgain. -/
namespace Go.Proofs.Ytiafhbpklddlnaa
open Go.RowKit Go.Shelf Go.Maps

attribute [local go_sem] Oper.semAt_some

theorem cutR_ids {l : List Ch} (hi : ∀ x ∈ l, 0 ≤ x.2 ∧ x.2 ≤ 18446744073709551615) : ∀ x ∈ cutR l, 0 ≤ x.2 ∧ x.2 ≤ 18446744073709551615 := fun x hx => by
  obtain ⟨y, hy, rfl⟩ := List.mem_map.1 hx
  exact hi y (List.mem_of_mem_take hy)
theorem cutR_short (l : List Ch) : ∀ x ∈ cutR l, x.1.size ≤ 250 := fun x hx => by
  obtain ⟨y, hy, rfl⟩ := List.mem_map.1 hx
  simp only [cutOne, ByteArray.size_extract]
  omega
theorem row_chs_at {w : World} {B n c : Nat} {ad : Option Addr} {l : List Ch} (h : w.ownsRow B 31 2 (.slice ad n c) n (chCells l)) (hl : l.length = n) : Chs w ad n l ∧ ∀ y, ad = some y → B ≤ y.block ∧ y.block < w.heap.size := by
  refine ⟨own_chs h hl, fun y hy => ?_⟩
  subst hy
  rcases h.2 with ⟨e, _⟩ | ⟨g, cap, cur, e, hb, hg, _⟩
  · cases e
  · cases e
    exact ⟨hb, (Array.getElem?_eq_some_iff.1 hg).1⟩

theorem open_two (w : World) (r d : Nat) (g : List UInt8 → Int) (n : Nat) (rs : List (List UInt8)) (S : DG) (F G : Nat → Prop) (h : RfG w r d g n rs S F G) (hfit : (fileB rs).length ≤ 3000000) :
    Calls Try.prog 7 #[.pointer (some ⟨d, 0, none⟩)] w fun e w' => ∃ r2 F2 G2, e = .returned (.tuple #[.pointer (some ⟨r2, 0, none⟩), .int .i64 0]) ∧ RfG w' r2 d g n rs S F2 G2 ∧ RfG w' r d g n rs S F G2 ∧ Turn G w w' ∧ (∀ k, F2 k → w.heap.size ≤ k) ∧ (∀ k, G2 k → G k ∨ w.heap.size ≤ k) := by
  refine (ropen_good w d g n rs S G h.dk h.gd h.ld (by omega) (fun p hp => by have := h.gd.all p hp; omega)).mono ?_
  rintro e w' ⟨r2, F2, G2, he, hR, hT, hF, hG⟩
  obtain ⟨j, b, M, FJ, hr⟩ := h.rf
  refine ⟨r2, F2, G2, he, hR, ⟨⟨j, b, M, FJ, hr.turn hT h.dis⟩, hR.dk, fun k hk hg => (hG k hg).elim (h.dis k hk) (fun e => by have := hr.lt k hk; omega), h.gd, h.ld⟩, hT, hF, hG⟩
theorem HLS2 {g : List UInt8 → Int} {n : Nat} {LA : List Ch} (hL : AllR g n LA) (hN : NamesR g n) : ShortR LA ∧ (∀ {W : World} {r d : Nat} {rs : List (List UInt8)} {S : DG} {F G : Nat → Prop}, RfG W r d g n rs S F G → ∀ x ∈ LA, 0 ≤ x.2 ∧ x.2 ≤ 18446744073709551615) ∧ LA.length ≤ 1000 ∧ chkR g n LA = 0 ∧ newsR g LA = [] := by
  obtain ⟨h1, h2⟩ := hL.set hN
  refine ⟨fun j x hx => ?_, fun hR x hx => ?_, by rw [hL.len]; have := hN.2; omega, h1, h2⟩
  · have := chkFrom_short g LA _ _ h1 x (List.mem_of_getElem? hx)
    unfold maxLen; omega
  · obtain ⟨j, b, M, FJ, hr⟩ := hR.rf
    rw [← (hL.mem hx).1]
    exact hr.rng _

set_option maxRecDepth 100000 in
set_option maxHeartbeats 8000000 in
theorem refsAgain_walk (w : World) (a : Option Addr) (m c : Nat) (l : List Ch) (hl : Chs w a m l) (hs : ShortR l) (hi : ∀ x ∈ l, 0 ≤ x.2 ∧ x.2 ≤ 18446744073709551615) :
    Calls Try.prog 5 #[.slice a m c] w fun e w' => e = .returned (.bool true) ∧ Below w.heap.size w w' := by
  have hwk := rwakes_any
  have hnw := new_any
  have HOP : Hid (∀ W d S G, IsDisk W d S G → JGd S refNm.data.toList [] → Calls Try.prog 7 #[.pointer (some ⟨d, 0, none⟩)] W fun e w' => ∃ r F G', e = .returned (.tuple #[.pointer (some ⟨r, 0, none⟩), .int .i64 0]) ∧ RfG w' r d (fun _ => 0) 0 [] S F G' ∧ Turn G W w' ∧ (∀ k, F k → W.heap.size ≤ k) ∧ (∀ k, G' k → G k ∨ W.heap.size ≤ k)) := fun W d S G hd hg => ropen_good W d _ 0 [] S G hd hg rfl (by simp [fileB]) (fun p hp => by cases hp)
  have hmm := @run_makeMap Try.prog
  have hcl := cutR_len l
  have hci := cutR_ids hi
  have hcs := cutR_short l
  have HCUT : Hid (∀ W, Below w.heap.size w W → Calls Try.prog 16 #[.slice a m c] W fun e w' => ∃ ad cp, e = .returned (.slice ad (cutR l).length cp) ∧ w'.ownsRow W.heap.size 31 2 (.slice ad (cutR l).length cp) (cutR l).length (chCells (cutR l)) ∧ Below W.heap.size W w') := fun W hW => lcut_any W a m c l (hl.kept hW) hs
  generalize cutR l = L at *
  obtain ⟨N, hN⟩ : ∃ N, N = L.length := ⟨_, rfl⟩
  rw [← hN] at HCUT hcl
  have HL : Hid (N = L.length ∧ (∀ x ∈ L, 0 ≤ x.2 ∧ x.2 ≤ 18446744073709551615) ∧ ∀ x ∈ L, x.1.size ≤ 250) := ⟨hN, hci, hcs⟩
  have hN80 : N ≤ 80 := by omega
  clear hl hs hi hN hci hcs hcl
  go_enter Try.func5, Try.ntmps5
  go_wp2_with first
    | (go_at_call 6; refine (hwk _).mono ?_; rintro e w1 ⟨rfl, B1⟩)
    | (go_at_call 13; refine (hnw _).mono ?_; clear hnw; rintro e w2 ⟨rfl, hd2, B2⟩)
    | (go_at_call 7; refine (HOP.out _ _ _ _ hd2 (JGd.new _)).mono ?_; clear HOP; rintro e w3 ⟨r, F, G, rfl, hR3, hT3, hF3, hG3⟩; have HB3 : Hid (Below w.heap.size w w3 ∧ ∀ z, F z ∨ G z → w.heap.size ≤ z) := ⟨(B1.trans (B2.mono B1.size)).trans (hT3.below (Nat.le_trans B1.size B2.size) (fun k hk => by have := B1.size; omega)), fun z hz => hz.elim (fun h => by have := hF3 z h; have := B1.size; have := B2.size; omega) (fun h => (hG3 z h).elim (fun h => by have := B1.size; omega) (fun h => by have := B1.size; have := B2.size; omega))⟩; have HR3 : Hid (RfG w3 r (w1.heap.size + 1) (fun _ => 0) 0 [] ⟨fun _ => none, 0, 0, false, 0⟩ F G) := hR3; clear hR3 hT3 hF3 hG3 hd2 B1 B2)
    | (go_at_call 16; refine (HCUT.out _ (HB3.out.1.alloc HB3.out.1.size _)).mono ?_; clear HCUT; rintro e w5 ⟨ad, cp, rfl, hrow5, hB5⟩; have HI0 : Hid (AInv w w5 r (w1.heap.size + 1) w3.heap.size (fun _ => 0) 0 [] ⟨fun _ => none, 0, 0, false, 0⟩ F G 0 ad N L) := (by
          obtain ⟨hb, hq⟩ := HB3.out
          have hbm : Below w3.heap.size w3 w5 := ((Below.refl _ w3).alloc (Nat.le_refl _) (.map #[] 0)).trans (hB5.mono (by simp))
          have hms : (w3.alloc (.map #[] 0)).heap.size = w3.heap.size + 1 := by simp
          obtain ⟨hch, hab⟩ := row_chs_at hrow5 HL.out.1.symm
          refine ⟨HR3.out.below hbm, ⟨fun k hk => absurd rfl hk, by omega⟩, by simp [fileB], hb.trans (hbm.mono hb.size), fun x hx => ?_, hb.size, fun y hy => ?_, ?_, hch⟩
          · have h1 : x < w3.heap.size := by
              obtain ⟨j, b, M, FJ, hr⟩ := HR3.out.rf
              exact hx.elim (hr.lt x) (HR3.out.dk.lt x)
            exact ⟨hq x hx, by omega, fun y hy e => by have := (hab y hy).1; omega⟩
          · have := hab y hy
            exact ⟨by omega, this.2⟩
          · exact LastAt.kept ⟨.map [], World.ownsMap_made w3 Try.prog 9 rvR, Nat.le_refl _, fun l hl => by cases hl⟩ (hB5.block _ (by simp)) : AInv w w5 r (w1.heap.size + 1) w3.heap.size (fun _ => 0) 0 [] ⟨fun _ => none, 0, 0, false, 0⟩ F G 0 ad N L); clear hrow5 hB5)
  generalize w1.heap.size + 1 = d at *
  generalize w3.heap.size = mb at *
  clear HR3 HB3 hmm
  go_loopw [28] (fun i wr => ∃ (k : Nat) (g : List UInt8 → Int) (n : Nat) (rs : List (List UInt8)) (S : DG) (F G : Nat → Prop), k ≤ N ∧ i = .int .i64 (k : Int) ∧ Hid (AInv w wr r d mb g n rs S F G k ad N L)) (fun i _ => N - (intOf i).toNat)
  case atStart => exact ⟨0, _, _, _, _, _, _, Nat.zero_le _, rfl, HI0⟩
  case round =>
    clear HI0 F G
    obtain ⟨k, g, n, rs, S, F, G, hk, rfl, H⟩ := hrel
    by_cases hlt : k < N
    · obtain ⟨x, hx⟩ : ∃ x, L[k]? = some x := ⟨_, List.getElem?_eq_getElem (by rw [← HL.out.1]; exact hlt)⟩
      have hxm := List.mem_of_getElem? hx
      have hxi := HL.out.2.1 x hxm
      have hxs := HL.out.2.2 x hxm
      obtain ⟨b1, o1, rfl, hc1⟩ := H.out.row.2 (by omega)
      obtain ⟨q1, q2⟩ := hc1 k x hx
      have i2 : (k : Int) < (N : Int) := by omega
      have i3 : ¬ N ≤ k := by omega
      clear hc1 hx hxm
      obtain ⟨nm, iv⟩ := x
      simp only at q1 q2 hxi hxs
      obtain ⟨W5, hW5⟩ : ∃ W5, W5 = (wr.alloc (.cells #[.string nm, .int .u64 iv] 31)).alloc (.cells #[.string nm, .int .u64 iv] 31) := ⟨_, rfl⟩
      have hB5 : Below wr.heap.size wr W5 := by rw [hW5]; exact ((Below.refl _ wr).alloc (Nat.le_refl _) _).alloc (by simp) _
      have hsW : W5.heap.size = wr.heap.size + 2 := by rw [hW5]; simp
      have d0 : W5.cell? ⟨wr.heap.size, 0, none⟩ = some (.string nm) := by
        rw [hW5, ((Below.refl _ (wr.alloc (.cells #[.string nm, .int .u64 iv] 31))).alloc (Nat.le_refl _) (.cells #[.string nm, .int .u64 iv] 31)).cell (p := ⟨wr.heap.size, 0, none⟩) (by simp)]
        simp only [World.cell?, World.alloc_heap_new]; rfl
      have d1 : W5.cell? ⟨wr.heap.size, 1, none⟩ = some (.int .u64 iv) := by
        rw [hW5, ((Below.refl _ (wr.alloc (.cells #[.string nm, .int .u64 iv] 31))).alloc (Nat.le_refl _) (.cells #[.string nm, .int .u64 iv] 31)).cell (p := ⟨wr.heap.size, 1, none⟩) (by simp)]
        simp only [World.cell?, World.alloc_heap_new]; rfl
      have hch : Chs W5 (some ⟨wr.heap.size + 1, 0, none⟩) 1 [(nm, iv)] := by
        refine ⟨rfl, fun _ => ⟨wr.heap.size + 1, 0, rfl, fun j x hx => ?_⟩⟩
        match j, hx with
        | 0, hx =>
          simp at hx; subst hx
          rw [hW5]
          have e := two_new_at wr (nm, iv)
          exact ⟨e 0 _ rfl, e 1 _ rfl⟩
        | j + 1, hx => simp at hx
      have hA5 := H.out.below hB5
      have hset := rset_g W5 r d g n rs S F G hA5.rf hA5.nm (some ⟨wr.heap.size + 1, 0, none⟩) 1 1 [(nm, iv)] hch (fun j x hx => by
        match j, hx with
        | 0, hx => simp at hx; subst hx; unfold maxLen; simp only; omega
        | j + 1, hx => simp at hx) (fun x hx => by simp at hx; subst hx; exact hxi) (by omega) (by have := hA5.len; have : k * 248 ≤ 80 * 248 := Nat.mul_le_mul (by omega) (Nat.le_refl _); omega)
      have HA5 : Hid (AInv w W5 r d mb g n rs S F G k (some ⟨b1, o1, none⟩) N L ∧ ∀ z, F z ∨ G z → z < wr.heap.size) := ⟨hA5, fun z hz => by
        obtain ⟨j, b, M, FJ, hr⟩ := H.out.rf.rf
        exact hz.elim (hr.lt z) (H.out.rf.dk.lt z)⟩
      have hmk : k < maxLen := by unfold maxLen; omega
      have hxs' : nm.size ≤ maxLen := by unfold maxLen; omega
      clear hA5 hch H hB5
      by_cases he : chkR g n [(nm, iv)] = 0
      · rw [he] at hset
        subst hW5
        go_wp2_with (go_at_call 8; refine hset.mono ?_; clear hset; rintro e w6 ⟨rfl, g', n', rs', S', F', G', P⟩; obtain ⟨w7, hrun, hA7⟩ := HA5.out.1.good P he hxs' hmk; have hnb : ∀ z, wr.heap.size ≤ z → ¬ (F z ∨ G z) := (fun z hz e => by have := HA5.out.2 z e; omega); have t0 := P.tn.cell d0 (hnb _ (Nat.le_refl _)); have t1 := P.tn.cell d1 (hnb _ (Nat.le_refl _)); have HA7 : Hid (AInv w w7 r d mb g' n' rs' S' F' G' (k + 1) (some ⟨b1, o1, none⟩) N L) := hA7; clear P hA7 hnb d0 d1)
        exact ⟨⟨k + 1, _, _, _, _, _, _, by omega, by simp, HA7⟩, by simp [intOf]; omega⟩
      · have he' : (chkR g n [(nm, iv)] == 0) = false := beq_eq_false_iff_ne.2 he
        have HE : Hid (chkR g n [(nm, iv)] ≠ 0) := he
        generalize chkR g n [(nm, iv)] = er at hset he'
        subst hW5
        clear he
        go_wp2_with (go_at_call 8; refine hset.mono ?_; clear hset; rintro e w6 ⟨rfl, g', n', rs', S', F', G', P⟩; have HA7 : Hid (AInv w w6 r d mb g' n' rs' S' F' G' (k + 1) (some ⟨b1, o1, none⟩) N L) := HA5.out.1.bad P HE.out; clear P d0 d1)
        go_roundw
        case rel => exact ⟨k + 1, _, _, _, _, _, _, by omega, by simp, HA7⟩
        case measure => simp [intOf]; omega
    · obtain rfl : k = N := by omega
      have i2 : ¬ (k : Int) < (k : Int) := by omega
      obtain ⟨wB, hwB⟩ : ∃ wB, wB = wr := ⟨_, rfl⟩
      subst hwB
      obtain ⟨M, hown, hMk, hat⟩ := H.out.last
      go_wp2_with (at_range; refine wpList_range_own _ rfl _ 51 rfl 9 23 keyed Try.underlying51 _ mb _ M rfl hown ?_; intro w8 hrg hg8 hs8)
      have hT8 : Turn (fun z => z = wB.heap.size) wB w8 := Turn.of_grownBy hg8 (fun z hz => by cases hz)
      clear hown hg8
      have HM : Hid (∀ l, has M (.string l) = true → M.atKey (.string l) zeroR = .held (.int .u64 (g l))) := hat
      clear hat
      go_loopw [9] (fun _ wx => ∃ (left : Lit → Bool) (cnt : Nat), wx.ranges Try.prog 9 rvR mb wB.heap.size (size M) M left cnt ∧ Hid (Turn (fun z => z = wB.heap.size) wB wx)) (fun _ wx => wx.rangeLeft mb wB.heap.size)
      case atStart => exact ⟨_, _, hrg, hT8⟩
      case round =>
        clear hrg hT8 hs8
        obtain ⟨left, cnt, hrg, HT⟩ := hrel
        go_wp2_with (at_next; refine wpList_next_ranges _ rfl _ rfl 9 keyed rvR (fun s : ByteArray => Value.string s) (fun v : Value => v) ?ik ?iv mb wB.heap.size _ M left cnt rfl hrg ?_ ?_)
        case ik =>
          intro key kl hk
          obtain ⟨x, hx, _⟩ := Maps.keyOf_str Try.underlying9 hk
          exact ⟨⟨x.toArray⟩, hx⟩
        case iv => exact fun v y hv => ⟨v, rfl⟩
        · intro hc0 hl0
          have HA : Hid (AInv w wr r d mb g n rs S F G k ad k L) := H.out.turn HT.out (fun z hz => by omega)
          have hwr := fun W (h : IsDisk W d S G) => writes_any d S G W h
          obtain ⟨LA, hLA⟩ := H.out.rf.cnt.all
          have HALL : Hid (∀ W r' g' n' rs' S' F' G' L', RfG W r' d g' n' rs' S' F' G' → NamesR g' n' → AllR g' n' L' → Calls Try.prog 15 #[.pointer (some ⟨r', 0, none⟩)] W fun e w' => ∃ ad cp, e = .returned (.slice ad L'.length cp) ∧ w'.ownsRow W.heap.size 31 2 (.slice ad L'.length cp) L'.length (chCells L') ∧ Below W.heap.size W w') := fun W r' g' n' rs' S' F' G' L' hR hN hL => by
            obtain ⟨j, b, M', FJ, hr⟩ := hR.rf
            exact lall_any W r' d j b M' rs' g' n' _ false FJ F' hr (by have := hN.2; omega) L' hL
          have hLs := HLS2 hLA HA.out.nm
          have HSET := fun W (hA : AInv w W r d mb g n rs S F G k ad k L) ad' cp' (hch : Chs W ad' LA.length LA) => rset_g W r d g n rs S F G hA.rf hA.nm ad' LA.length cp' LA hch hLs.1 (fun x hx => hLs.2.1 hA.rf x hx) hLs.2.2.1 (by have := hA.len; have : k * 248 ≤ 80 * 248 := Nat.mul_le_mul (by omega) (Nat.le_refl _); omega)
          rw [hLs.2.2.2.1] at HSET
          have HSET : Hid _ := HSET
          have HNW : Hid (newsR g LA = []) := hLs.2.2.2.2
          have HLZ : Hid (chkR g n LA = 0) := hLs.2.2.2.1
          have hA1 := HALL.out wr r g n rs S F G LA HA.out.rf HA.out.nm hLA
          clear hLs
          go_wp2_with first
            | (go_at_call 20; refine (hwr _ HA.out.rf.dk).mono ?_; rintro e w11 ⟨rfl, hw11⟩; subst hw11)
            | (go_at_call 15; refine hA1.mono ?_; clear hA1; rintro e w12 ⟨ad', cp', rfl, hrow12, hB12⟩; have hset := HSET.out w12 (HA.out.below hB12) ad' cp' (row_chs_at hrow12 rfl).1; have hb12 := HA.out.bel.trans (hB12.mono HA.out.bel.size); clear hrow12 HSET)
            | (go_at_call 8; refine hset.mono ?_; clear hset; rintro e w13 ⟨rfl, g', n', rs', S', F', G', P⟩; obtain ⟨rfl, rfl⟩ : g' = g ∧ n' = n := (by have := P.good HLZ.out; rw [HNW.out] at this; exact ⟨congrArg Prod.fst this, congrArg Prod.snd this⟩); obtain rfl := P.same HNW.out; have H13 : Hid (RfG w13 r d g' n' rs' S' F' G' ∧ Below w.heap.size w w13 ∧ (∀ z, F' z ∨ G' z → w.heap.size ≤ z) ∧ (fileB rs').length ≤ 3000000 ∧ NamesR g' n') := (by
                have hq := HA.out.q
                have hs12 := hb12.size
                refine ⟨P.rf, hb12.trans (P.tn.below hs12 (fun z hz => (hq z hz).1)), fun z hz => ?_, ?_, P.nm⟩
                · have : (F z ∨ G z) ∨ w12.heap.size ≤ z := hz.elim (fun e => (P.hF z e).imp .inl (fun e => e)) (fun e => (P.hG z e).imp .inr (fun e => e))
                  rcases this with e | e
                  · exact (hq z e).1
                  · omega
                · have h1 := P.len
                  have h2 := HA.out.len
                  have h3 := hLA.len
                  have h4 := P.nm.2
                  have h5 : k * 248 ≤ 80 * 248 := Nat.mul_le_mul (by omega) (Nat.le_refl _)
                  omega : RfG w13 r d g' n' rs' S' F' G' ∧ Below w.heap.size w w13 ∧ (∀ z, F' z ∨ G' z → w.heap.size ≤ z) ∧ (fileB rs').length ≤ 3000000 ∧ NamesR g' n'); have hwr2 := (fun W (h : IsDisk W d S' G') => writes_any d S' G' W h); have hopn := open_two w13 r d g' n' rs' S' F' G' H13.out.1 H13.out.2.2.2.1; clear P hwr hb12)
            | (go_at_call 20; refine (hwr2 _ H13.out.1.dk).mono ?_; clear hwr2; rintro e w14 ⟨rfl, hw14⟩; subst hw14)
            | (go_at_call 7; refine hopn.mono ?_; clear hopn; rintro e w15 ⟨r2, F2, G2, rfl, hR15, hR15', hT15, hF15, hG15⟩; have H15 : Hid (RfG w15 r2 d g' n' rs' S' F2 G2 ∧ RfG w15 r d g' n' rs' S' F' G2 ∧ Below w.heap.size w w15) := ⟨hR15, hR15', H13.out.2.1.trans (hT15.below H13.out.2.1.size (fun z hz => H13.out.2.2.1 z (.inr hz)))⟩; have hA2 := HALL.out w15 r2 g' n' rs' S' F2 G2 LA H15.out.1 H13.out.2.2.2.2 hLA; clear hR15 hR15' hT15 hF15 hG15)
            | (go_at_call 15; refine hA2.mono ?_; clear hA2; rintro e w16 ⟨ad2, cp2, rfl, hrow16, hB16⟩; have hA3 := HALL.out w16 r g' n' rs' S' F' G2 LA (H15.out.2.1.below hB16) H13.out.2.2.2.2 hLA)
            | (go_at_call 15; refine hA3.mono ?_; clear hA3; rintro e w17 ⟨ad3, cp3, rfl, hrow17, hB17⟩; have hal := lalike_any w17 ad2 ad3 LA.length LA.length cp2 cp3 LA LA ((row_chs_at hrow16 rfl).1.kept hB17) (row_chs_at hrow17 rfl).1 (by rw [hLA.len]; have := H13.out.2.2.2.2.2; omega); rw [decide_eq_true rfl] at hal; have hB7 : Below w15.heap.size w15 w17 := hB16.trans (hB17.mono hB16.size); have H17 : Hid (IsDisk w17 d S' G2 ∧ Below w.heap.size w w17) := ⟨H15.out.1.dk.below hB7, H15.out.2.2.trans (hB7.mono H15.out.2.2.size)⟩; clear hrow16 hrow17 hB16 hB17 hB7)
            | (go_at_call 18; refine hal.mono ?_; clear hal; rintro e w18 ⟨rfl, hB18⟩; have H18 : Hid (IsDisk w18 d S' G2 ∧ Below w.heap.size w w18) := ⟨H17.out.1.below hB18, H17.out.2.trans (hB18.mono H17.out.2.size)⟩; have hwr3 := writes_any d S' G2 w18 H18.out.1; clear hB18)
            | (go_at_call 20; refine hwr3.mono ?_; clear hwr3; rintro e w19 ⟨rfl, hw19⟩; subst hw19)
            | (go_at_call 6; refine (hwk _).mono ?_; rintro e w20 ⟨rfl, hB20⟩)
          go_ret
          exact ⟨rfl, H18.out.2.trans (hB20.mono H18.out.2.size)⟩
        · intro x v kl yd yp w9 cnt2 hkey hlk hv hat hrg2 hlt2 hg9 hs9 hen
          have HT9 : Hid (Turn (fun z => z = wB.heap.size) wB w9) := HT.out.trans (Turn.of_grownBy (Fp := fun z => z = wB.heap.size) hg9 (fun z hz => .inl (Option.some.inj hz).symm)) (fun _ _ e => e)
          have hA9 := H.out.turn HT9.out (fun z hz => by omega)
          obtain ⟨y, hy, rfl, hyl⟩ := Maps.keyOf_str Try.underlying9 hkey
          have exy : y = x.data.toList := by
            have : x = ⟨y.toArray⟩ := by simpa [encStr] using hy
            rw [this]
          subst exy
          have hxs : x.size ≤ maxLen := by simpa using hyl
          have hhas : has M (.string x.data.toList) = true := has_true_of_atKey hat
          obtain rfl : v = .int .u64 (g (bs x)) := by
            have h1 := HM.out _ hhas
            rw [hat zeroR] at h1
            simp only [rvR, Option.some.injEq, Prod.mk.injEq] at hv
            rw [← hv.1] at h1
            injection h1
          obtain ⟨j, b, M', FJ, hr9⟩ := hA9.rf.rf
          have hget := rget_any w9 r d j b M' rs g n _ false FJ F hr9 x hxs
          have HME : Hid (w9.rangeLeft mb wB.heap.size < wr.rangeLeft mb wB.heap.size) := (by rw [hrg.left_eq, hrg2.left_eq]; exact hlt2 : w9.rangeLeft mb wB.heap.size < wr.rangeLeft mb wB.heap.size)
          clear hr9 hA9 hhas hat hv hy hyl hkey hg9 hs9 hlt2 hrg
          generalize g (bs x) = iv at *
          by_cases hiv : iv = 0
          · subst hiv
            rw [if_pos rfl] at hget
            go_wp2_with (go_at_call 9; refine hget.mono ?_; clear hget; rintro e w10 ⟨rfl, hw10⟩; subst hw10)
            exact ⟨⟨_, _, hrg2, HT9⟩, HME.out⟩
          · rw [if_neg hiv] at hget
            have hiv' : (iv != 0) = true := by simpa using hiv
            go_wp2_with (go_at_call 9; refine hget.mono ?_; clear hget; rintro e w10 ⟨rfl, hw10⟩; subst hw10)
            exact ⟨⟨_, _, hrg2, HT9⟩, HME.out⟩
end Go.Proofs.Ytiafhbpklddlnaa
