import Derived.Test.YtncagdfbgpdhfaaGreatQ34
import Derived.Test.YtncagdfbgpdhfaaGreatQ31
import Derived.Deep.DeepCutAuto
import Derived.Deep.CutRange
import Derived.BigRegion
import Derived.Deep.LoopGhost
import Derived.Test.YtncagdfbgpdhfaaGreatQ16
/- The walk of born. -/
namespace Go.Proofs.YtncagdfbgpdhfaaGreat
open Go.RowKit Go.Shelf Go.Maps

attribute [local go_sem] Oper.semAt_some

/-- a slice of numbers -/
def Ints (w : World) (a : Option Addr) (n : Nat) (l : List Int) : Prop := l.length = n ∧ (0 < n → ∃ b off, a = some ⟨b, off, none⟩ ∧ ∀ (j : Nat) x, l[j]? = some x → w.cell? ⟨b, off + j, none⟩ = some (.int .i64 x))
theorem Ints.below {w w' : World} {a : Option Addr} {n : Nat} {l : List Int} (h : Ints w a n l) (hB : Below w.heap.size w w') : Ints w' a n l :=
  ⟨h.1, fun h0 => by
    obtain ⟨b, off, e, hc⟩ := h.2 h0
    exact ⟨b, off, e, fun j x hx => (hB.cell (p := ⟨b, off + j, none⟩) (World.block_lt_of_cell? w _ (hc j x hx))).trans (hc j x hx)⟩⟩
/-- a slice of commits as the laws are handed them -/
def Brs (w : World) (a : Option Addr) (n : Nat) (l : List BornD) : Prop := l.length = n ∧ (0 < n → ∃ blk off, a = some ⟨blk, off, none⟩ ∧ ∀ (j : Nat) (b : BornD), l[j]? = some b → ∃ ba bn bc, w.cell? ⟨blk, off + j * 5, none⟩ = some (.slice ba bn bc) ∧ w.cell? ⟨blk, off + j * 5 + 1, none⟩ = some (.int .i64 b.date) ∧ w.cell? ⟨blk, off + j * 5 + 2, none⟩ = some (.bool b.blob) ∧ w.cell? ⟨blk, off + j * 5 + 3, none⟩ = some (.bool b.lost) ∧ w.cell? ⟨blk, off + j * 5 + 4, none⟩ = some (.bool b.bare) ∧ Ints w ba bn b.back ∧ bn ≤ 9223372036854775807 ∧ -9223372036854775808 ≤ b.date ∧ b.date ≤ 9223372036854775807)
/-- how born ends -/
def BOut (w : World) (R : Option BS) (e : Ending) (w' : World) : Prop := match R with
  | none => e = .returned (.tuple #[.pointer none, .bool true])
  | some st => ∃ hb s d S F G X nv iv bv ns, e = .returned (.tuple #[.pointer (some ⟨hb, 0, none⟩), .bool false]) ∧ BI w w' hb s d emptyI st S F G X nv iv bv ns ∧ st.os.length ≤ 25 ∧ st.ids.length ≤ 24 ∧ st.nodes.length ≤ 24
/-- the parents that a commit has behind so many of its numbers -/
def backsP (ids : List Int) (back : List Int) (j : Nat) : List Int := if ids.length = 0 then [] else (back.take (min j 7)).map (backId ids)
/-- what holds ahead of each round -/
def BLp (w wr : World) (hb s d : Nat) (e0 : Int) (st : BS) (S : DG) (F G X : Nat → Prop) (nv iv bv : Value) (ns : List Nd) (k : Nat) : Prop := BI w wr hb s d e0 st S F G X nv iv bv ns ∧ st.ids.length = k ∧ st.os.length ≤ k + 1 ∧ st.nodes.length ≤ k ∧ ∀ p ∈ st.os, (obB p).length ≤ 16384
theorem empty_dec : decG (obB (.tree [])) = some (.tree []) ∧ (obB (.tree [])).length ≤ 16384 := by
  have h := gob_ok (empty_ob default).1 empty_err
  exact ⟨h.2, h.1⟩
theorem BI.start {w w3 : World} {s d : Nat} {e0 : Int} {S : DG} {F G : Nat → Prop} (h : StG w3 s d [.tree []] S F G) (hk : ∀ k, F k ∨ G k → w.heap.size ≤ k) (hB : Below w.heap.size w w3) :
    BI w (w3.alloc (.cells #[.pointer (some ⟨s, 0, none⟩), .slice none 0 0, .slice none 0 0, .slice none 0 0, .int .u64 e0] 67)) w3.heap.size s d e0 ⟨[.tree []], [], [], []⟩ S F G (fun _ => False) (.slice none 0 0) (.slice none 0 0) (.slice none 0 0) [] := by
  have hbk := World.alloc_heap_new w3 (.cells #[.pointer (some ⟨s, 0, none⟩), .slice none 0 0, .slice none 0 0, .slice none 0 0, .int .u64 e0] 67)
  obtain ⟨h0, h1, h2, h3, h4⟩ := five_cells hbk
  exact
  { sg := h.below ((Below.refl _ w3).alloc (Nat.le_refl _) _)
    c0 := h0
    c1 := h1
    c2 := h2
    c3 := h3
    c4 := h4
    fz := fun j => five_frozen hbk j
    nr := World.ownsRow_nil _ _ _ _
    nn := rfl
    np := fun x hx => by cases hx
    ir := World.ownsRow_nil _ _ _ _
    br := World.ownsRow_nil _ _ _ _
    an := fun g hg => by cases hg
    ai := fun g hg => by cases hg
    ab := fun g hg => by cases hg
    xa := fun k hk => hk.elim
    hg := hB.size
    fg := fun k hk' => ⟨hk k hk', fun e => by
      have : k < w3.heap.size := hk'.elim (h.st.lt k) (h.dk.lt k)
      omega, (fun e => by cases e), (fun e => by cases e), (fun e => by cases e), id⟩
    B := hB.alloc hB.size _
    ok := ⟨⟨fun o ho => by simp at ho; subst ho; exact empty_dec.1, by simp [oids]⟩, fun o ho => by simp at ho; subst ho; exact empty_err, (fun i hi => by cases hi), rfl, (fun n hn => by cases hn)⟩ }
theorem emptyI_ne : emptyI ≠ 0 := by
  show idOf (obB (.tree [])) ≠ 0
  unfold idOf
  split <;> omega
theorem emptyI_rng : 0 ≤ emptyI ∧ emptyI ≤ 18446744073709551615 := by
  unfold emptyI oid
  exact idOf_bounds _
theorem cell_newD (w : World) (x : Value) (t : TypeId) : (w.alloc (.cells #[x] t)).drew.cell? ⟨w.heap.size, 0, none⟩ = some x := by
  show (w.alloc (.cells #[x] t)).cell? ⟨w.heap.size, 0, none⟩ = some x
  simp only [World.cell?, World.alloc_heap_new]
  rfl
theorem wrap_small {z : Int} (h0 : -9223372036854775808 ≤ z) (h1 : z ≤ 9223372036854775807) : IntKind.i64.wrap z = z := by
  simp only [IntKind.wrap, IntKind.signed, IntKind.bits]
  simp
  omega
/-- a node appended to a row of one's own, in a region that draws -/
theorem step_appN (w : World) {ops : Array Oper} {o : Oper} {a : Act} {K : Act → World → Prop} {Q : Exit → Act → World → Prop} {E : Prop} (hgd : o.guard = none) (s x : Operand)
    (ho : o.op = .call { callee := .builtin .append, args := #[s, x], argTypes := #[36, 36] }) (i0 : TypeInfo) (z : Value) (hi : Tryz.prog.info? 85 = some i0) (hz0 : i0.zero = some z) (hz1 : i0.size = 3) (hz2 : i0.bytes = 40) (hzc : z.cells.size = 3)
    (v : Value) (n : Nat) (xs : List Value) (hs : a.eval s = v) (hown : w.ownsRow 0 85 3 v n xs) (ad : Addr) (m : Nd) (hx : a.eval x = .slice (some ad) 1 1) (hm : ∀ j u, (ndCells [m])[j]? = some u → w.cell? (ad.add j) = some u) (hn : n ≤ 1000000000000)
    (h : ∀ v' w', w'.ownsRow 0 85 3 v' (n + 1) (xs ++ ndCells [m]) → w.grownBy w' v.ownBlock → (v'.ownBlock = v.ownBlock ∨ v'.ownBlock = some w.heap.size) → K (a.put o.dst v') w') :
    if Region.wanted o (yielded ops a.tmps) = true then Oper.wp Tryz.prog o a w K Q else E := by
  have hw : Region.wanted o (yielded ops a.tmps) = true := by simp [Region.wanted, hgd]
  rw [if_pos hw]
  obtain ⟨v', w', hr, h2, h3, _, h4⟩ := run_append_own_at (P := Tryz.prog) w 0 36 o.type 85 i0 z 3 40 Tryz.underlying36 hi hz0 hz1 hz2 hzc (by omega) v n xs hown ad 1 1 (ndCells [m]) rfl hm (ndCells_one _) (by unfold maxLen; omega) (by omega) (Nat.zero_le _)
  unfold Oper.wp execOp
  simp only [ho, resolve, invoke, builtin, Sem.run_bind, Sem.run_pure, Result.andThen_ok, List.map_toArray, List.map_cons, List.map_nil, hs, hx, hr]
  exact h v' w' h2 h3 h4
theorem cell_newP (w : World) (x : Value) (t : TypeId) : (w.alloc (.cells #[x] t)).cell? ⟨w.heap.size, 0, none⟩ = some x := by
  simp only [World.cell?, World.alloc_heap_new]
  rfl
theorem own_or {v' v : Value} {w : World} {o : Obj} (h : v'.ownBlock = v.ownBlock ∨ v'.ownBlock = some (w.alloc o).heap.size) : ∀ z, v'.ownBlock = some z → v.ownBlock = some z ∨ w.heap.size ≤ z := by
  intro z hz
  rcases h with e | e
  · exact .inl (by rw [← e]; exact hz)
  · rw [e] at hz
    cases hz
    rw [World.size_alloc]
    exact .inr (Nat.le_succ _)
theorem row_high {w : World} {e : TypeId} {B n z : Nat} {v : Value} {xs : List Value} (h : w.ownsRow 0 e z v n xs) (hb : ∀ g, v.ownBlock = some g → B ≤ g) : w.ownsRow B e z v n xs := by
  refine ⟨h.1, ?_⟩
  rcases h.2 with h0 | ⟨g, cap, cur, h1, h2, h3⟩
  · exact .inl h0
  · exact .inr ⟨g, cap, cur, h1, hb g (by rw [h1]; rfl), h3⟩
theorem backsP_more (ids back : List Int) (j : Nat) (x : Int) (hk : 0 < ids.length) (hj : j < 7) (hx : back[j]? = some x) : backsP ids back (j + 1) = backsP ids back j ++ [backId ids x] := by
  unfold backsP
  rw [if_neg (by omega), if_neg (by omega), show min (j + 1) 7 = j + 1 by omega, show min j 7 = j by omega]
  have hkl := (List.getElem?_eq_some_iff.1 hx).1
  have hx' : back[j] = x := (List.getElem?_eq_some_iff.1 hx).2
  rw [List.take_succ_eq_append_getElem hkl, hx']
  simp
theorem backsP_len (ids back : List Int) (j : Nat) : (backsP ids back j).length ≤ 7 := by
  unfold backsP
  split
  · simp
  · rw [List.length_map, List.length_take]; omega

set_option maxRecDepth 100000 in
set_option maxHeartbeats 8000000 in
theorem born_any (w : World) (a : Option Addr) (n c : Nat) (l : List BornD) (hl : Brs w a n l) (hn : n ≤ 9223372036854775807) :
    Calls Tryz.prog 28 #[.slice a n c] w fun e w' => Below w.heap.size w w' ∧ BOut w (bornG l) e w' := by
  have hll := hl.1
  have HL : Hid (Brs w a n l) := hl
  obtain ⟨E, hE⟩ : ∃ E, E = bornG l := ⟨_, rfl⟩
  rw [← hE]
  have HE : Hid (E = bornL emptyI ((l.take 24).drop 0) ⟨[.tree []], [], [], []⟩) := hE
  have hnw := snew_any w
  have hop := fun W d S G hd hg => sopen_good W d [] S G hd hg Pure.nil (by simp [fileB]) (by simp)
  have hem := fun W s d S F G h => empty_any W s d S F G h
  have hei0 := emptyI_rng
  have hei := emptyI_ne
  have HEI : Hid (emptyI ≠ 0 ∧ 0 ≤ emptyI ∧ emptyI ≤ 18446744073709551615) := ⟨hei, hei0.1, hei0.2⟩
  clear hl hE hei hei0
  obtain ⟨e0, he0⟩ : ∃ e0, e0 = emptyI := ⟨_, rfl⟩
  rw [← he0] at HEI HE hem
  have HE0 : Hid (e0 = emptyI) := he0
  clear he0
  go_enter Tryz.func28, Tryz.ntmps28
  go_wp2_with first
    | (go_at_call 34; refine hnw.mono ?_; clear hnw; rintro e w1 ⟨rfl, G, hd, hG, hB1⟩; have HD : Hid (IsDisk w1 (w.heap.size + 1) ⟨fun _ => none, 0, 0, false, 0⟩ G ∧ (∀ k, G k → w.heap.size ≤ k) ∧ Below w.heap.size w w1) := ⟨hd, hG, hB1⟩; clear hd hG hB1)
    | (go_at_call 33; refine (hop _ _ _ _ HD.out.1 (JGd.new _)).mono ?_; clear hop; rintro e w2 ⟨s, F, G2, rfl, hS, hT2, hF2, hG2⟩; have H2 : Hid (StG w2 s (w.heap.size + 1) [] ⟨fun _ => none, 0, 0, false, 0⟩ F G2 ∧ (∀ k, F k ∨ G2 k → w.heap.size ≤ k) ∧ Below w.heap.size w w2) := ⟨hS, fun k hk => hk.elim (fun h => by have h1 := hF2 k h; have h2 := HD.out.2.2.size; omega) (fun h => (hG2 k h).elim (HD.out.2.1 k) (fun h => by have h2 := HD.out.2.2.size; omega)), HD.out.2.2.trans (hT2.below HD.out.2.2.size HD.out.2.1)⟩; clear hS hT2 hF2 hG2 HD)
    | (go_at_call 35; refine (hem _ _ _ _ _ _ H2.out.1).mono ?_; clear hem; rintro e w3 ⟨rfl, hT3, S3, F3, G3, hS3, hF3, hG3⟩; have H3 : Hid (StG w3 s (w.heap.size + 1) [.tree []] S3 F3 G3 ∧ (∀ k, F3 k ∨ G3 k → w.heap.size ≤ k) ∧ Below w.heap.size w w3) := ⟨hS3, fun k hk => hk.elim (fun h => (hF3 k h).elim (fun h => H2.out.2.1 k (.inl h)) (fun h => by have h2 := H2.out.2.2.size; omega)) (fun h => (hG3 k h).elim (fun h => H2.out.2.1 k (.inr h)) (fun h => by have h2 := H2.out.2.2.size; omega)), H2.out.2.2.trans (hT3.below H2.out.2.2.size H2.out.2.1)⟩; clear hT3 hS3 hF3 hG3 H2)
  have HI0 : Hid (BLp w (w3.alloc (.cells #[.pointer (some ⟨s, 0, none⟩), .slice none 0 0, .slice none 0 0, .slice none 0 0, .int .u64 e0] 67)) w3.heap.size s (w.heap.size + 1) e0 ⟨[.tree []], [], [], []⟩ S3 F3 G3 (fun _ => False) (.slice none 0 0) (.slice none 0 0) (.slice none 0 0) [] 0) := ⟨BI.start H3.out.1 H3.out.2.1 H3.out.2.2, rfl, by simp, by simp, fun p hp => by simp at hp; subst hp; exact empty_dec.2⟩
  clear H3
  generalize w.heap.size + 1 = d at *
  generalize hHB : w3.heap.size = hb at *
  clear hHB
  go_loopg [2, 35] n (fun g v i wr => ∃ (k : Nat) (st : BS) (S : DG) (F G X : Nat → Prop) (nv iv bv : Value) (ns : List Nd), k + g = n ∧ k ≤ 24 ∧ i = .int .i64 (k : Int) ∧ v = .pointer (some ⟨hb, 0, none⟩) ∧ Hid (E = bornL e0 ((l.take 24).drop k) st ∧ BLp w wr hb s d e0 st S F G X nv iv bv ns k))
  case atStart => exact ⟨0, _, _, _, _, _, _, _, _, _, by omega, Nat.zero_le _, rfl, rfl, HE.out, HI0.out⟩
  case round =>
    clear HE HI0
    obtain ⟨k, st, S, F, G, X, nv, iv, bv, ns, hk, hk24, rfl, rfl, HR⟩ := hrel
    by_cases hlt : k < n
    · obtain ⟨b, hx⟩ : ∃ b, l[k]? = some b := ⟨_, List.getElem?_eq_getElem (by omega)⟩
      obtain ⟨blk, o1, hae, hc1⟩ := HL.out.2 (by omega)
      subst hae
      obtain ⟨ba, bn, bc, t0, t1, t2, t3, t4, hBk, hbn, hd1, hd2⟩ := hc1 k b hx
      have hBw := HR.out.2.1.B
      have q0 := (hBw.cell (p := ⟨blk, o1 + k * 5, none⟩) (World.block_lt_of_cell? w _ t0)).trans t0
      have q1 := (hBw.cell (p := ⟨blk, o1 + k * 5 + 1, none⟩) (World.block_lt_of_cell? w _ t1)).trans t1
      have q2 := (hBw.cell (p := ⟨blk, o1 + k * 5 + 2, none⟩) (World.block_lt_of_cell? w _ t2)).trans t2
      have q3 := (hBw.cell (p := ⟨blk, o1 + k * 5 + 3, none⟩) (World.block_lt_of_cell? w _ t3)).trans t3
      have q4 := (hBw.cell (p := ⟨blk, o1 + k * 5 + 4, none⟩) (World.block_lt_of_cell? w _ t4)).trans t4
      have i2 : (k : Int) < (n : Int) := by omega
      have i3 : ¬ n ≤ k := by omega
      by_cases h24 : k = 24
      · subst h24
        have e0' : (l.take 24).drop 24 = [] := List.drop_of_length_le (by rw [List.length_take]; omega)
        have HEn : Hid (E = some st) := by have h := HR.out.1; rw [e0'] at h; exact h
        have hBB := HR.out.2.1.below ((Below.refl _ wr).alloc (Nat.le_refl _) (.cells #[.slice ba bn bc, .int .i64 b.date, .bool b.blob, .bool b.lost, .bool b.bare] 105))
        have HBB : Hid (BI w (wr.alloc (.cells #[.slice ba bn bc, .int .i64 b.date, .bool b.blob, .bool b.lost, .bool b.bare] 105)) hb s d e0 st S F G X nv iv bv ns ∧ st.os.length ≤ 25 ∧ st.ids.length ≤ 24 ∧ st.nodes.length ≤ 24) := ⟨hBB, by have := HR.out.2.2.2.1; omega, by have := HR.out.2.2.1; omega, HR.out.2.2.2.2.1⟩
        clear HR hc1 hx t0 t1 t2 t3 t4 hBk hbn hd1 hd2 hBw e0' hBB
        go_wp2
        go_ret2
        rw [HEn.out]
        exact ⟨HBB.out.1.B, hb, s, d, S, F, G, X, nv, iv, bv, ns, rfl, by rw [← HE0.out]; exact HBB.out.1, HBB.out.2⟩
      · have hxk : (l.take 24)[k]? = some b := by rw [List.getElem?_take, if_pos (by omega)]; exact hx
        have HS : Hid (E = (stepB e0 st b).bind (bornL e0 ((l.take 24).drop (k + 1)))) := HR.out.1.trans (bornL_drop e0 _ k b st hxk)
        have HI1 : Hid (BLp w wr hb s d e0 st S F G X nv iv bv ns k) := HR.out.2
        have HBk : Hid (Ints w ba bn b.back ∧ bn ≤ 9223372036854775807 ∧ -9223372036854775808 ≤ b.date ∧ b.date ≤ 9223372036854775807 ∧ k < 24) := ⟨hBk, hbn, hd1, hd2, by omega⟩
        have h24' : ((k : Int) == 24) = false := by simp; omega
        have h24'' : ¬ (k : Int) = 24 := by omega
        clear HR hc1 hx hxk t0 t1 t2 t3 t4 hBk hbn hd1 hd2 hBw
        have hdt := b.date
        go_upto_if 47 with fail
        have R0 := BR.new HI1.out.1 ba bn bc b e0
        generalize (wr.alloc (.cells #[.slice ba bn bc, .int .i64 b.date, .bool b.blob, .bool b.lost, .bool b.bare] 105)).alloc (.cells #[.int .u64 e0, .slice none 0 0, .string ⟨#[]⟩, .int .i64 b.date, .string ⟨#[]⟩] 78) = wx at *
        have HR0 : Hid (BR w hb s d e0 st S F G X nv iv bv ns wr.heap.size (wr.heap.size + 1) ba bn bc b wx e0 (.slice none 0 0) []) := R0
        obtain ⟨x0, x1, x2, x3, x4⟩ := five_cells R0.b9
        have f9 := five_frozen R0.b9 0
        have hB89 : wr.heap.size + 1 ≠ wr.heap.size := by omega
        clear R0 q0 q1 q2 q3 q4
        generalize wr.heap.size + 1 = B9 at *
        generalize wr.heap.size = B8 at *
        go_cut [] (fun wx => ∃ tv : Int, Hid (tv = (if b.bare then 12345 else e0) ∧ BR w hb s d e0 st S F G X nv iv bv ns B8 B9 ba bn bc b wx tv (.slice none 0 0) []))
        case first =>
          cases hba : b.bare
          · go_wp2
            go_meet
            exact ⟨e0, by rw [hba]; rfl, HR0.out⟩
          · go_wp2
            go_meet
            exact ⟨12345, by rw [hba]; rfl, HR0.out.tree 12345⟩
        case rest =>
          clear HR0 x0 x1 x2 x3 x4 f9
          obtain ⟨tv, HR1⟩ := hcut
          obtain ⟨y0, y1, y2, y3, y4⟩ := five_cells HR1.out.2.b8
          have HR2 : Hid (BR w hb s d e0 st S F G X nv iv bv ns B8 B9 ba bn bc b wc tv (.slice none 0 0) (backsP st.ids b.back 0)) := by
            have e : backsP st.ids b.back 0 = [] := by unfold backsP; split <;> simp
            rw [e]; exact HR1.out.2
          have HTV : Hid (tv = (if b.bare then 12345 else e0)) := HR1.out.1
          clear HR1
          go_wp2
          go_loopg [52] bn (fun g2 i wy => ∃ (j : Nat) (pv : Value), j + g2 = bn ∧ i = .int .i64 (j : Int) ∧ Hid (BR w hb s d e0 st S F G X nv iv bv ns B8 B9 ba bn bc b wy tv pv (backsP st.ids b.back j)))
          case atStart => exact ⟨0, _, by omega, rfl, HR2.out⟩
          case round =>
            clear HR2 y0 y1 y2 y3 y4
            obtain ⟨j, pv, hj, rfl, HR⟩ := hrel
            cases gk with
            | zero =>
              obtain rfl : j = bn := by omega
              have j2 : ¬ (j : Int) < (j : Int) := by omega
              have HR5 : Hid (BR w hb s d e0 st S F G X nv iv bv ns B8 B9 ba j bc b wr tv pv (backs st.ids b.back)) := by
                have e := backsP_end st.ids b.back j HBk.out.1.1 _ rfl
                have h1 := HR.out
                unfold backsP at h1
                rw [e] at h1
                exact h1
              clear HR hj
              obtain ⟨y0, y1, y2, y3, y4⟩ := five_cells HR5.out.b8
              obtain ⟨z0, z1, z2, z3, z4⟩ := five_cells HR5.out.b9
              have zf := five_frozen HR5.out.b9 1
              obtain ⟨pa, pc, hpv, hpc1, hpc2⟩ := row_shapeN HR5.out.row
              subst hpv
              go_upto_if 95 with fail
              go_cut [] (fun wx => ∃ (pv : Value), Hid (BR w hb s d e0 st S F G X nv iv bv ns B8 B9 ba j bc b wx tv pv (parsG st.ids b)))
              case first =>
                cases hlo : b.lost
                · go_wp2
                  go_meet
                  refine ⟨.slice pa (backs st.ids b.back).length pc, ?_⟩
                  have e : parsG st.ids b = backs st.ids b.back := by unfold parsG; rw [hlo]; simp
                  rw [e]
                  exact HR5.out
                · have hpl := (parsG_ok HI1.out.1.ok.rng b).2
                  have hpe : parsG st.ids b = backs st.ids b.back ++ [54321] := by unfold parsG; rw [hlo]; rfl
                  have HPE : Hid (parsG st.ids b = backs st.ids b.back ++ [54321]) := hpe
                  rw [hpe, List.length_append] at hpl
                  obtain ⟨i0, hi, hzz0, hzz1, hzz2⟩ := info_parts infoIdG
                  have hr1 := HR5.out.row.alloc (.cells #[.int .u64 54321] 31)
                  have hsz : w.heap.size ≤ (wr.alloc (.cells #[.int .u64 54321] 31)).heap.size := by have := HR5.out.I.B.size; rw [World.size_alloc]; omega
                  have HSZ : Hid (w.heap.size ≤ (wr.alloc (.cells #[.int .u64 54321] 31)).heap.size) := hsz
                  have h9l := lt_of_block HR5.out.b9
                  generalize hPL : (backs st.ids b.back).length = PL at *
                  have HPL : Hid ((backs st.ids b.back).length = PL) := hPL
                  clear hPL hpe hsz
                  go_wp2_with
                    (at_builtin; go_loud (
                     refine wpList_append_own_at _ rfl _ _ 28 rfl w.heap.size 31 i0 _ 1 8 Tryz.underlying28 hi hzz0 hzz1 hzz2 rfl (by decide) _ PL _ rfl hr1 ⟨_, 0, none⟩ 1 1 [.int .u64 54321] rfl rfl (cell_one_new _ _ _) (by simp [Value.oneCell']) (by unfold maxLen; omega) (by omega) HSZ.out ?_
                     intro v' w5 hown5 hgr5 _ hat5
                     have hT5 : Turn (fun z => (Value.slice pa PL pc).ownBlock = some z) wr w5 := (Turn.of_below (fun z => (Value.slice pa PL pc).ownBlock = some z) ((Below.refl _ wr).alloc (Nat.le_refl _) _)).trans (Turn.of_grownBy (Fp := fun z => (Value.slice pa PL pc).ownBlock = some z) hgr5 (fun z hz => .inl hz)) (fun _ _ e => e)
                     have hb5 := own_or hat5
                     have k9 : w5.heap[B9]? = wr.heap[B9]? := hT5.block B9 h9l (fun e => (HR5.out.pn B9 e).2.2 rfl)
                     have z15 : w5.cell? ⟨B9, 1, none⟩ = some (.slice pa PL pc) := (World.cell?_of_block k9).trans z1
                     have zf5 : w5.frozen? ⟨B9, 1, none⟩ = false := (World.frozen?_of_block k9).trans zf
                     have H5 : Hid (BR w hb s d e0 st S F G X nv iv bv ns B8 B9 ba j bc b (w5.setCell ⟨B9, 1, none⟩ v') tv v' (backs st.ids b.back ++ [54321])) := HR5.out.app 54321 v' (by rw [HPL.out]; exact hown5) hT5 hb5
                     obtain ⟨ad5, cp5, hv5, _⟩ := row_shapeN hown5
                     clear hown5 hgr5 hat5 hT5 hb5 k9
                     subst hv5))
                  go_meet
                  refine ⟨.slice ad5 (PL + 1) cp5, ?_⟩
                  rw [HPE.out]
                  exact H5.out
              case rest =>
                clear HR5 y0 y1 y2 y3 y4 z0 z1 z2 z3 z4 zf hpc1 hpc2
                obtain ⟨pv, HR6⟩ := hcut
                obtain ⟨y0, y1, y2, y3, y4⟩ := five_cells HR6.out.b8
                obtain ⟨z0, z1, z2, z3, z4⟩ := five_cells HR6.out.b9
                obtain ⟨pa, pc, hpv, hpc1, hpc2⟩ := row_shapeN HR6.out.row
                subst hpv
                go_upto_if 104 with fail
                have hpok := parsG_ok HI1.out.1.ok.rng b
                go_cut [12] (fun v wx => Hid ((∀ W, Turn (fun z => F z ∨ G z) wx W → ObS (obG e0 st.ids b) v W) ∧ BR w hb s d e0 st S F G X nv iv bv ns B8 B9 ba j bc b wx tv (.slice pa (parsG st.ids b).length pc) (parsG st.ids b)))
                case first =>
                  cases hbl : b.blob
                  · go_wp2
                    go_meet
                    refine ⟨fun W hW => ?_, HR6.out⟩
                    have e : obG e0 st.ids b = .com (tv, parsG st.ids b, ⟨#[]⟩, b.date, ⟨#[]⟩) := by unfold obG; rw [hbl, HTV.out]; rfl
                    rw [e]
                    have hown : ∀ z, (Value.slice pa (parsG st.ids b).length pc).ownBlock = some z → ¬ (F z ∨ G z) := fun z hz h => (HR6.out.pn z hz).1 (h.elim (fun h => .inr (.inr (.inr (.inr (.inr (.inl h)))))) (fun h => .inr (.inr (.inr (.inr (.inr (.inr h)))))))
                    refine com_obs (row_moved HR6.out.row fun z hz => hW.block z (HR6.out.row.lt z hz).2 (hown z hz)) tv ?_ (fun x hx => (hpok.1 x hx).2) _ ⟨HBk.out.2.2.1, HBk.out.2.2.2.1⟩ hpok.2
                    rw [HTV.out]
                    split
                    · omega
                    · exact HEI.out.2
                  · have hx6 := HR6.out.below ((Below.refl _ wc).alloc (Nat.le_refl _) (.cells #[.int .u8 (b.date % 256)] 5))
                    have HX6 : Hid (BR w hb s d e0 st S F G X nv iv bv ns B8 B9 ba j bc b (wc.alloc (.cells #[.int .u8 (b.date % 256)] 5)) tv (.slice pa (parsG st.ids b).length pc) (parsG st.ids b)) := hx6
                    clear hx6
                    go_wp2
                    go_meet
                    refine ⟨fun W hW => ?_, HX6.out⟩
                    have e : obG e0 st.ids b = .blob [byteG b.date] := by unfold obG; rw [hbl]; rfl
                    rw [e]
                    refine blob_at (hW.bytes (lit_byte wc b.date) (fun _ z hz h => ?_)) (fun h => by cases h) (by simp)
                    cases hz
                    have h1 := HR6.out.I.sg
                    have h2 : wc.heap.size < wc.heap.size := h.elim (h1.st.lt _) (h1.dk.lt _)
                    omega
                case rest =>
                  clear HR6 y0 y1 y2 y3 y4 z0 z1 z2 z3 z4 hpc1 hpc2
                  have HC := hcut
                  clear hcut
                  obtain ⟨hI, hkl, hol, hnl, hlen⟩ := HI1.out
                  obtain ⟨o, ho⟩ : ∃ o, o = obG e0 st.ids b := ⟨_, rfl⟩
                  have h0 := obG_err hI.ok.rng e0 HEI.out.1 b
                  rw [← ho] at h0
                  have hob := gob_ok (HC.out.1 wc (Turn.refl _ _)).1 (by rw [← ho]; exact h0)
                  rw [← ho] at hob
                  have hput := gput_any wc s d st.os S F G HC.out.2.I.sg u12 o (fun W hW => by rw [ho]; exact HC.out.1 W hW) h0 (by have := HBk.out.2.2.2.2; omega) hlen
                  have hSt : stepB e0 st b = match putG st.os o with
                    | none => none
                    | some os' => if oid o = 12345 ∨ oid o = 54321 then none else
                      some ⟨os', st.ids ++ [oid o], if hasN st.nodes (oid o) then st.nodes else st.nodes ++ [(oid o, parsG st.ids b, b.blob)], st.bare ++ [b.bare && !b.blob]⟩ := by rw [ho]; rfl
                  have hBw := HC.out.2.I.B
                  have hfgl : ∀ z, F z ∨ G z → w.heap.size ≤ z := fun z hz => (HC.out.2.I.fg z hz).1
                  have HBW : Hid (Below w.heap.size w wc ∧ ∀ z, F z ∨ G z → w.heap.size ≤ z) := ⟨hBw, hfgl⟩
                  have hor := oid_rng o
                  generalize hoi : oid o = oi at *
                  cases hpg : putG st.os o with
                  | none =>
                    rw [hpg] at hSt hput
                    have HEn : Hid (E = none) := by rw [HS.out, hSt]; rfl
                    clear hSt hI hkl hol hnl hlen h0 hob hor hpg ho hBw hfgl hpok
                    go_wp2_with (go_at_call 36; refine hput.mono ?_; clear hput; rintro e w7 ⟨hT7, he⟩; have he' : e = .returned (.tuple #[.int .u64 0, .int .i64 7]) := he; subst he'; clear he; have HT7 : Hid (Below w.heap.size w w7) := HBW.out.1.trans (hT7.below HBW.out.1.size HBW.out.2); clear hT7)
                    go_ret2
                    rw [HEn.out]
                    exact ⟨HT7.out, rfl⟩
                  | some os' =>
                    rw [hpg] at hSt hput
                    have hok := putG_ok hpg hI.ok.pure hI.ok.good hlen h0 hob.2 hob.1
                    by_cases hbad : oi = 12345 ∨ oi = 54321
                    · have HEn : Hid (E = none) := by
                        rw [HS.out, hSt]
                        simp only [hbad, if_true]
                        rfl
                      clear hSt hI hkl hol hnl hlen h0 hob hok hpg ho hBw hfgl hpok
                      rcases hbad with hbad | hbad
                      · subst hbad
                        go_wp2_with (go_at_call 36; refine hput.mono ?_; clear hput; rintro e w7 ⟨hT7, he, _⟩; have he' : e = .returned (.tuple #[.int .u64 12345, .int .i64 0]) := (by rw [← hoi]; exact he); subst he'; clear he; have HT7 : Hid (Below w.heap.size w w7) := HBW.out.1.trans (hT7.below HBW.out.1.size HBW.out.2); clear hT7)
                        go_ret2
                        rw [HEn.out]
                        exact ⟨HT7.out, rfl⟩
                      · subst hbad
                        go_wp2_with (go_at_call 36; refine hput.mono ?_; clear hput; rintro e w7 ⟨hT7, he, _⟩; have he' : e = .returned (.tuple #[.int .u64 54321, .int .i64 0]) := (by rw [← hoi]; exact he); subst he'; clear he; have HT7 : Hid (Below w.heap.size w w7) := HBW.out.1.trans (hT7.below HBW.out.1.size HBW.out.2); clear hT7)
                        go_ret2
                        rw [HEn.out]
                        exact ⟨HT7.out, rfl⟩
                    · obtain ⟨hb1, hb2⟩ : oi ≠ 12345 ∧ oi ≠ 54321 := ⟨fun e => hbad (.inl e), fun e => hbad (.inr e)⟩
                      have hb1' : (oi == 12345) = false := beq_eq_false_iff_ne.2 hb1
                      have hb2' : (oi == 54321) = false := beq_eq_false_iff_ne.2 hb2
                      have HEs : Hid (E = bornL e0 ((l.take 24).drop (k + 1)) ⟨os', st.ids ++ [oi], if hasN st.nodes oi then st.nodes else st.nodes ++ [(oi, parsG st.ids b, b.blob)], st.bare ++ [b.bare && !b.blob]⟩) := by
                        rw [HS.out, hSt]
                        simp only [hbad, if_false]
                        rfl
                      have HK : Hid (Pure os' ∧ (∀ p ∈ os', obErr p = 0) ∧ (∀ p ∈ os', (obB p).length ≤ 16384) ∧ os'.length ≤ st.os.length + 1 ∧ st.ids.length = k ∧ st.os.length ≤ k + 1 ∧ st.nodes.length ≤ k ∧ k < 24 ∧ oi ≠ 0 ∧ 0 ≤ oi ∧ oi ≤ 18446744073709551615) := ⟨hok.1, hok.2.1, hok.2.2.1, hok.2.2.2, hkl, hol, hnl, HBk.out.2.2.2.2, hor⟩
                      clear hSt hI hkl hol hnl hlen h0 hob hok hpg ho hBw hfgl hbad hb1 hb2
                      go_upto_region 31 with (go_at_call 36
                                              refine hput.mono ?_
                                              clear hput
                                              rintro e w7 ⟨hT7, he, S7, F7, G7, hS7, hF7, hG7⟩
                                              have he' : e = .returned (.tuple #[.int .u64 oi, .int .i64 0]) := (by rw [← hoi]; exact he)
                                              subst he'
                                              clear he
                                              have HR7 : Hid (BR w hb s d e0 ⟨os', st.ids, st.nodes, st.bare⟩ S7 F7 G7 X nv iv bv ns B8 B9 ba j bc b w7 tv (.slice pa (parsG st.ids b).length pc) (parsG st.ids b)) := HC.out.2.put os' hT7 hS7 hF7 hG7 HK.out.1 HK.out.2.1
                                              clear hT7 hS7 hF7 hG7)
                      obtain ⟨na, nc, hnv, hnc1, hnc2⟩ := row_shapeN HR7.out.I.nr
                      subst hnv
                      have c1 := HR7.out.I.c1
                      have hnsl : ns.length = st.nodes.length := by have := HR7.out.I.nn; simp only at this; rw [← this, List.length_map]
                      have hfd := find11_any w7 na ns.length nc ns (row_nds HR7.out.I.nr rfl) (by have := HK.out; omega) oi
                      have HFI : Hid (fiN ns oi 0 < 0 ↔ hasN st.nodes oi = false) := by
                        have := fiN_neg ns oi 0
                        rw [HR7.out.I.nn] at this
                        exact this
                      have hNL : ns.length ≤ 24 := by have := HK.out; omega
                      generalize fiN ns oi 0 = fi at *
                      generalize hNLE : ns.length = NL at *
                      have HNLE : Hid (ns.length = NL) := hNLE
                      clear hNLE hnsl hnc1 hnc2
                      go_upto_if 135 with (go_at_call 37; refine hfd.mono ?_; clear hfd; rintro e w8 ⟨rfl, h8⟩; subst h8)
                      obtain ⟨N2, hN2⟩ : ∃ N2, N2 = (if hasN st.nodes oi then st.nodes else st.nodes ++ [(oi, parsG st.ids b, b.blob)]) := ⟨_, rfl⟩
                      rw [← hN2] at HEs
                      have HN2 : Hid (N2 = (if hasN st.nodes oi then st.nodes else st.nodes ++ [(oi, parsG st.ids b, b.blob)])) := hN2
                      clear hN2
                      go_cut [] (fun wx => ∃ (X' : Nat → Prop) (nv' : Value) (ns' : List Nd), Hid (BS8 w hb s d e0 ⟨os', st.ids, N2, st.bare⟩ S7 F7 G7 X' nv' iv bv ns' B8 ba j bc b wx))
                      case first =>
                        by_cases hfi : fi < 0
                        · have hh := HFI.out.1 hfi
                          have HE2 : Hid (N2 = st.nodes ++ [(oi, parsG st.ids b, b.blob)]) := by rw [HN2.out, hh]; rfl
                          obtain ⟨y0, y1, y2, y3, y4⟩ := five_cells HR7.out.b8
                          obtain ⟨z0, z1, z2, z3, z4⟩ := five_cells HR7.out.b9
                          have f1 := HR7.out.I.fz 1
                          have hpl := hpok.2
                          have hhl := World.block_lt_of_cell? w8 _ c1
                          have h8l := lt_of_block HR7.out.b8
                          have h9l := lt_of_block HR7.out.b9
                          have nb1 : B9 ≠ hb := fun e => HR7.out.n9 (.inl e)
                          have nb2 : B8 ≠ hb := fun e => HR7.out.n8 (.inl e)
                          have nb3 : hb ≠ B9 := fun e => nb1 e.symm
                          have nb4 : hb ≠ B8 := fun e => nb2 e.symm
                          have hrowN := HR7.out.I.nr
                          rw [HNLE.out] at hrowN
                          obtain ⟨i0, hi, hzz0, hzz1, hzz2⟩ := info_parts infoNode
                          generalize hPL : (parsG st.ids b).length = PL at *
                          have HPL : Hid ((parsG st.ids b).length = PL) := hPL
                          have hrowA := ((row_low hrowN (Nat.zero_le _)).alloc (.cells #[.int .u64 oi, .slice pa PL pc, .bool b.blob] 85)).drew
                          have c1a : (w8.alloc (.cells #[.int .u64 oi, .slice pa PL pc, .bool b.blob] 85)).cell? ⟨hb, 1, none⟩ = some (.slice na NL nc) := by
                            rw [World.cell?_of_block (w := w8) (Below.heap_alloc _ _ _ hhl)]; exact c1
                          have y2a : (w8.alloc (.cells #[.int .u64 oi, .slice pa PL pc, .bool b.blob] 85)).cell? ⟨B8, 2, none⟩ = some (.bool b.blob) := by
                            rw [World.cell?_of_block (w := w8) (Below.heap_alloc _ _ _ h8l)]; exact y2
                          have z1a : (w8.alloc (.cells #[.int .u64 oi, .slice pa PL pc, .bool b.blob] 85)).cell? ⟨B9, 1, none⟩ = some (.slice pa PL pc) := by
                            rw [World.cell?_of_block (w := w8) (Below.heap_alloc _ _ _ h9l)]; exact z1
                          have hend : ∀ v' w3, w3.ownsRow 0 85 3 v' (NL + 1) (ndCells ns ++ ndCells [⟨oi, pa, PL, pc, b.blob, parsG st.ids b⟩]) → (w8.alloc (.cells #[.int .u64 oi, .slice pa PL pc, .bool b.blob] 85)).drew.grownBy w3 (Value.slice na NL nc).ownBlock → (v'.ownBlock = (Value.slice na NL nc).ownBlock ∨ v'.ownBlock = some (w8.alloc (.cells #[.int .u64 oi, .slice pa PL pc, .bool b.blob] 85)).drew.heap.size) →
                              w3.cell? ⟨hb, 1, none⟩ = some (.slice na NL nc) ∧ w3.frozen? ⟨hb, 1, none⟩ = false ∧ (w3.cell? ⟨B9, 1, none⟩ = some (.slice pa PL pc) ∧ w3.cell? ⟨B8, 2, none⟩ = some (.bool b.blob)) ∧ Hid (BS8 w hb s d e0 ⟨os', st.ids, st.nodes ++ [(oi, parsG st.ids b, b.blob)], st.bare⟩ S7 F7 G7 (fun z => X z ∨ (Value.slice pa PL pc).ownBlock = some z) v' iv bv (ns ++ [⟨oi, pa, PL, pc, b.blob, parsG st.ids b⟩]) B8 ba j bc b (w3.setCell ⟨hb, 1, none⟩ v')) := by
                            intro v' w3 ho3 hg3 hat3
                            have hT3 : Turn (fun z => (Value.slice na NL nc).ownBlock = some z) w8 w3 := by
                              have h1 : Turn (fun z => (Value.slice na NL nc).ownBlock = some z) w8 (w8.alloc (.cells #[.int .u64 oi, .slice pa PL pc, .bool b.blob] 85)).drew := Turn.of_below _ (Below.trans ((Below.refl _ w8).alloc (Nat.le_refl _) (.cells #[.int .u64 oi, .slice pa PL pc, .bool b.blob] 85)) ⟨rfl, rfl, rfl, Nat.le_refl _, fun _ _ => rfl⟩)
                              exact h1.trans (Turn.of_grownBy (Fp := fun z => (Value.slice na NL nc).ownBlock = some z) hg3 (fun z hz => .inl hz)) (fun _ _ e => e)
                            have hbk : ∀ z, v'.ownBlock = some z → (Value.slice na NL nc).ownBlock = some z ∨ w8.heap.size ≤ z := own_or (w := w8) (o := (.cells #[.int .u64 oi, .slice pa PL pc, .bool b.blob] 85)) hat3
                            have kh : w3.heap[hb]? = w8.heap[hb]? := hT3.block hb hhl (fun e => (HR7.out.I.an hb e).1 rfl)
                            have k8 : w3.heap[B8]? = w8.heap[B8]? := hT3.block B8 h8l (fun e => HR7.out.n8 (.inr (.inl e)))
                            have k9 : w3.heap[B9]? = w8.heap[B9]? := hT3.block B9 h9l (fun e => HR7.out.n9 (.inr (.inl e)))
                            refine ⟨(World.cell?_of_block kh).trans c1, (World.frozen?_of_block kh).trans f1, ⟨(World.cell?_of_block k9).trans z1, (World.cell?_of_block k8).trans y2⟩, ?_⟩
                            have h7 := HR7.out
                            have hrH : w3.ownsRow w.heap.size 85 3 v' (NL + 1) (ndCells ns ++ ndCells [⟨oi, pa, PL, pc, b.blob, parsG st.ids b⟩]) := by
                              refine row_high ho3 fun z hz => ?_
                              rcases hbk z hz with h | h
                              · exact (h7.I.nr.lt z h).1
                              · have := h7.I.B.size; omega
                            have hx := BR.node (pa := pa) (pc := pc) (ps := parsG st.ids b) (by rw [HPL.out]; exact h7) oi HK.out.2.2.2.2.2.2.2.2.2 (by rw [HPL.out]; exact hpl) (fun x hx => (hpok.1 x hx).2) v' (by rw [HNLE.out, HPL.out]; exact hrH) hT3 hbk
                            rw [HPL.out] at hx
                            exact hx
                          have HEnd : Hid _ := hend
                          clear hend hPL hrowN hh HFI HN2 y0 y1 y3 y4 z0 z2 z3 z4 hhl h8l h9l hpl
                          go_wp2
                          have hmx : Tryz.prog.follows .mixedOrders = true := by kernel_rfl
                          refine wp_region_G (S := SB 15 (fun W => W.cell? ⟨hb, 1, none⟩ = some (.slice na NL nc) ∧ W.cell? ⟨B9, 1, none⟩ = some (.slice pa PL pc) ∧ W.cell? ⟨B8, 2, none⟩ = some (.bool b.blob)) (fun _ => True)) hmx ?_
                          have hSB : SB 15 (fun W => W.cell? ⟨hb, 1, none⟩ = some (.slice na NL nc) ∧ W.cell? ⟨B9, 1, none⟩ = some (.slice pa PL pc) ∧ W.cell? ⟨B8, 2, none⟩ = some (.bool b.blob)) (fun _ => True) (Array.replicate 16 false) w8.drew := SB.on ⟨c1, z1, y2⟩ trivial
                          refine wpAnyG_takeB (i := 0) (b := 15) (v := ?_) rfl (by kernel_rfl) (by kernel_rfl) (by kernel_rfl) (fun _ _ _ h => h) rfl (by kernel_rfl) rfl (by kernel_rfl) (Or.inl ⟨by rfl, ?_⟩) (by assumption) ?_
                          rotate_left
                          · intro Y hY; obtain ⟨⟨f1, f2, f3⟩, _⟩ := hY; go_simp; try with_reducible rfl
                          intro hSB0
                          simp only [Act.put, List.getElem_toArray, List.getElem_cons_zero, List.setIfInBounds_toArray, List.set_cons_zero, List.set_cons_succ]
                          refine wpAnyG_takeB (i := 1) (b := 15) (v := ?_) rfl (by kernel_rfl) (by kernel_rfl) (by kernel_rfl) (fun _ _ _ h => h) rfl (by kernel_rfl) rfl (by kernel_rfl) (Or.inl ⟨by rfl, ?_⟩) (by assumption) ?_
                          rotate_left
                          · intro Y hY; obtain ⟨⟨f1, f2, f3⟩, _⟩ := hY; go_simp; try with_reducible rfl
                          intro hSB1
                          simp only [Act.put, List.getElem_toArray, List.getElem_cons_zero, List.getElem_cons_succ, List.setIfInBounds_toArray, List.set_cons_zero, List.set_cons_succ]
                          refine wpAnyG_takeB (i := 2) (b := 15) (v := ?_) rfl (by kernel_rfl) (by kernel_rfl) (by kernel_rfl) (fun _ _ _ h => h) rfl (by kernel_rfl) rfl (by kernel_rfl) (Or.inl ⟨by rfl, ?_⟩) (by assumption) ?_
                          rotate_left
                          · intro Y hY; obtain ⟨⟨f1, f2, f3⟩, _⟩ := hY; go_simp; try with_reducible rfl
                          intro hSB2
                          simp only [Act.put, List.getElem_toArray, List.getElem_cons_zero, List.getElem_cons_succ, List.setIfInBounds_toArray, List.set_cons_zero, List.set_cons_succ]
                          refine wpAnyG_takeB (i := 3) (b := 15) (v := ?_) rfl (by kernel_rfl) (by kernel_rfl) (by kernel_rfl) (fun _ _ _ h => h) rfl (by kernel_rfl) rfl (by kernel_rfl) (Or.inl ⟨by rfl, ?_⟩) (by assumption) ?_
                          rotate_left
                          · intro Y hY; obtain ⟨⟨f1, f2, f3⟩, _⟩ := hY; go_simp; try with_reducible rfl
                          intro hSB3
                          simp only [Act.put, List.getElem_toArray, List.getElem_cons_zero, List.getElem_cons_succ, List.setIfInBounds_toArray, List.set_cons_zero, List.set_cons_succ]
                          refine wpAnyG_takeB (i := 4) (b := 15) (v := ?_) rfl (by kernel_rfl) (by kernel_rfl) (by kernel_rfl) (fun _ _ _ h => h) rfl (by kernel_rfl) rfl (by kernel_rfl) (Or.inl ⟨by rfl, ?_⟩) (by assumption) ?_
                          rotate_left
                          · intro Y hY; obtain ⟨⟨f1, f2, f3⟩, _⟩ := hY; go_simp; try with_reducible rfl
                          intro hSB4
                          simp only [Act.put, List.getElem_toArray, List.getElem_cons_zero, List.getElem_cons_succ, List.setIfInBounds_toArray, List.set_cons_zero, List.set_cons_succ]
                          refine wpAnyG_takeB (i := 5) (b := 15) (v := ?_) rfl (by kernel_rfl) (by kernel_rfl) (by kernel_rfl) (fun _ _ _ h => h) rfl (by kernel_rfl) rfl (by kernel_rfl) (Or.inl ⟨by rfl, ?_⟩) (by assumption) ?_
                          rotate_left
                          · intro Y hY; obtain ⟨⟨f1, f2, f3⟩, _⟩ := hY; go_simp; try with_reducible rfl
                          intro hSB5
                          simp only [Act.put, List.getElem_toArray, List.getElem_cons_zero, List.getElem_cons_succ, List.setIfInBounds_toArray, List.set_cons_zero, List.set_cons_succ]
                          refine wpAnyG_takeB (i := 6) (b := 15) (v := ?_) rfl (by kernel_rfl) (by kernel_rfl) (by kernel_rfl) (fun _ _ _ h => h) rfl (by kernel_rfl) rfl (by kernel_rfl) (Or.inl ⟨by rfl, ?_⟩) (by assumption) ?_
                          rotate_left
                          · intro Y hY; obtain ⟨⟨f1, f2, f3⟩, _⟩ := hY; go_simp; try with_reducible rfl
                          intro hSB6
                          simp only [Act.put, List.getElem_toArray, List.getElem_cons_zero, List.getElem_cons_succ, List.setIfInBounds_toArray, List.set_cons_zero, List.set_cons_succ]
                          refine wpAnyG_takeB (i := 7) (b := 15) (v := ?_) rfl (by kernel_rfl) (by kernel_rfl) (by kernel_rfl) (fun _ _ _ h => h) rfl (by kernel_rfl) rfl (by kernel_rfl) (Or.inl ⟨by rfl, ?_⟩) (by assumption) ?_
                          rotate_left
                          · intro Y hY; obtain ⟨⟨f1, f2, f3⟩, _⟩ := hY; go_simp; try with_reducible rfl
                          intro hSB7
                          simp only [Act.put, List.getElem_toArray, List.getElem_cons_zero, List.getElem_cons_succ, List.setIfInBounds_toArray, List.set_cons_zero, List.set_cons_succ]
                          refine wpAnyG_takeB (i := 8) (b := 15) (v := ?_) rfl (by kernel_rfl) (by kernel_rfl) (by kernel_rfl) (fun _ _ _ h => h) rfl (by kernel_rfl) rfl (by kernel_rfl) (Or.inl ⟨by rfl, ?_⟩) (by assumption) ?_
                          rotate_left
                          · intro Y hY; obtain ⟨⟨f1, f2, f3⟩, _⟩ := hY; go_simp; try with_reducible rfl
                          intro hSB8
                          simp only [Act.put, List.getElem_toArray, List.getElem_cons_zero, List.getElem_cons_succ, List.setIfInBounds_toArray, List.set_cons_zero, List.set_cons_succ]
                          refine wpAnyG_takeB (i := 9) (b := 15) (v := ?_) rfl (by kernel_rfl) (by kernel_rfl) (by kernel_rfl) (fun _ _ _ h => h) rfl (by kernel_rfl) rfl (by kernel_rfl) (Or.inl ⟨by rfl, ?_⟩) (by assumption) ?_
                          rotate_left
                          · intro Y hY; obtain ⟨⟨f1, f2, f3⟩, _⟩ := hY; go_simp; try with_reducible rfl
                          intro hSB9
                          simp only [Act.put, List.getElem_toArray, List.getElem_cons_zero, List.getElem_cons_succ, List.setIfInBounds_toArray, List.set_cons_zero, List.set_cons_succ]
                          refine wpAnyG_takeB (i := 10) (b := 15) (v := ?_) rfl (by kernel_rfl) (by kernel_rfl) (by kernel_rfl) (fun _ _ _ h => h) rfl (by kernel_rfl) rfl (by kernel_rfl) (Or.inl ⟨by rfl, ?_⟩) (by assumption) ?_
                          rotate_left
                          · intro Y hY; obtain ⟨⟨f1, f2, f3⟩, _⟩ := hY; go_simp; try with_reducible rfl
                          intro hSB10
                          simp only [Act.put, List.getElem_toArray, List.getElem_cons_zero, List.getElem_cons_succ, List.setIfInBounds_toArray, List.set_cons_zero, List.set_cons_succ]
                          refine wpAnyG_one (i := 11) (by kernel_rfl) rfl (fun K hK => ?_)
                          go_simp
                          refine hK.out _ _ (SB.on ⟨c1a, z1a, y2a⟩ trivial) (fun hSB11 => ?_)
                          clear hK K
                          refine wpAnyG_one (i := 12) (by kernel_rfl) rfl (fun K hK => ?_)
                          refine step_appN _ (by rfl) _ _ (by rfl) i0 _ hi hzz0 hzz1 hzz2 rfl (.slice na NL nc) NL (ndCells ns) (by rfl) hrowA ⟨w8.heap.size, 0, none⟩ ⟨oi, pa, PL, pc, b.blob, parsG st.ids b⟩ (by rfl) (cells_node_new w8 ⟨oi, pa, PL, pc, b.blob, parsG st.ids b⟩) (by omega) ?_
                          intro v' w3 ho3 hg3 hat3
                          obtain ⟨a4, c4, rfl, _, _⟩ := row_shapeN ho3
                          obtain ⟨hx0', hx1', hS3, hF3⟩ := HEnd.out _ w3 ho3 hg3 hat3
                          refine hK.out _ _ (SB.on ⟨hx0', hS3.1, hS3.2⟩ trivial) (fun hSB12 => ?_)
                          clear ho3 hg3 hat3
                          clear hK K
                          simp only [Act.put, List.getElem_toArray, List.getElem_cons_zero, List.getElem_cons_succ, List.setIfInBounds_toArray, List.set_cons_zero, List.set_cons_succ]
                          refine wpAnyG_takeP (i := 13) (v := ?_) rfl (by kernel_rfl) (by kernel_rfl) (by kernel_rfl) (fun _ _ _ h => h) rfl (Or.inl ⟨by rfl, ?_⟩) (by assumption) ?_
                          rotate_left
                          · intro Y hY; go_simp; try with_reducible rfl
                          intro hSB13
                          simp only [Act.put, List.getElem_toArray, List.getElem_cons_zero, List.getElem_cons_succ, List.setIfInBounds_toArray, List.set_cons_zero, List.set_cons_succ]
                          refine wpAnyG_takeP (i := 14) (v := ?_) rfl (by kernel_rfl) (by kernel_rfl) (by kernel_rfl) (fun _ _ _ h => h) rfl (Or.inl ⟨by rfl, ?_⟩) (by assumption) ?_
                          rotate_left
                          · intro Y hY; go_simp; try with_reducible rfl
                          intro hSB14
                          simp only [Act.put, List.getElem_toArray, List.getElem_cons_zero, List.getElem_cons_succ, List.setIfInBounds_toArray, List.set_cons_zero, List.set_cons_succ]
                          refine wpAnyG_one (i := 15) (by kernel_rfl) rfl (fun K hK => ?_)
                          go_simp
                          refine hK.out _ _ (SB.off (by kernel_rfl) trivial) (fun hSB15 => ?_)
                          clear hK K
                          refine wpAnyG_done (by kernel_rfl) ?_ _
                          go_wp2
                          go_meet
                          exact ⟨_, _, _, by rw [HE2.out]; exact hF3.out⟩
                        · have hh : hasN st.nodes oi = true := by
                            cases h : hasN st.nodes oi with
                            | true => rfl
                            | false => exact absurd (HFI.out.2 h) hfi
                          have HE2 : Hid (N2 = st.nodes) := by rw [HN2.out, hh]; rfl
                          have H8 : Hid (BS8 w hb s d e0 ⟨os', st.ids, st.nodes, st.bare⟩ S7 F7 G7 X (.slice na NL nc) iv bv ns B8 ba j bc b w8) := HR7.out.to8
                          clear hh
                          go_wp2
                          go_meet
                          exact ⟨_, _, _, by rw [HE2.out]; exact H8.out⟩
                      case rest =>
                        obtain ⟨X', nv', ns', H8⟩ := hcut
                        have I8 := H8.out.I
                        obtain ⟨y0, y1, y2, y3, y4⟩ := five_cells H8.out.b8
                        have n8 := H8.out.n8
                        have hkl := HK.out.2.2.2.2.1
                        have hbl : st.bare.length = k := by have := I8.ok.blen; simp only at this; rw [this, hkl]
                        have hIL : st.ids.length = k := hkl
                        have hBL : st.bare.length = k := hbl
                        obtain ⟨ia, ic, hiv, _, _⟩ := row_shapeN I8.ir
                        obtain ⟨ba3, bc3, hbv, _, _⟩ := row_shapeN I8.br
                        simp only at hiv hbv
                        rw [hkl] at hiv
                        rw [hbl] at hbv
                        subst hiv hbv
                        have c2 := I8.c2
                        have c3 := I8.c3
                        have hrowI0 := I8.ir
                        have hrowB0 := I8.br
                        simp only at hrowI0 hrowB0
                        rw [hkl] at hrowI0
                        rw [hbl] at hrowB0
                        have hhl := World.block_lt_of_cell? wc _ c2
                        have h8l := lt_of_block H8.out.b8
                        have nb4 : hb ≠ B8 := fun e => n8 (.inl e.symm)
                        have hrowI := ((row_low hrowI0 (Nat.zero_le _)).alloc (.cells #[.int .u64 oi] 31)).drew
                        have al : ∀ q : Addr, q.block < wc.heap.size → (wc.alloc (.cells #[.int .u64 oi] 31)).cell? q = wc.cell? q := fun q hq => World.cell?_of_block (Below.heap_alloc _ _ _ hq)
                        have c2a := (al ⟨hb, 2, none⟩ hhl).trans c2
                        have c3a := (al ⟨hb, 3, none⟩ hhl).trans c3
                        have y2a := (al ⟨B8, 2, none⟩ h8l).trans y2
                        have y4a := (al ⟨B8, 4, none⟩ h8l).trans y4
                        obtain ⟨i0, hi, hzz0, hzz1, hzz2⟩ := info_parts infoIdG
                        obtain ⟨j0, hj, hyy0, hyy1, hyy2⟩ := info_parts infoBool
                        have hmx : Tryz.prog.follows .mixedOrders = true := by kernel_rfl
                        have hk24' : k < 24 := HK.out.2.2.2.2.2.2.2.1
                        have HFIN : Hid (∀ (wz : World) {v4 v5 : Value}, BI w wz hb s d e0 ⟨os', st.ids ++ [oi], N2, st.bare ++ [b.bare && !b.blob]⟩ S7 F7 G7 X' nv' v4 v5 ns' → E = bornL e0 ((l.take 24).drop (k + 1)) ⟨os', st.ids ++ [oi], N2, st.bare ++ [b.bare && !b.blob]⟩ ∧ BLp w wz hb s d e0 ⟨os', st.ids ++ [oi], N2, st.bare ++ [b.bare && !b.blob]⟩ S7 F7 G7 X' nv' v4 v5 ns' (k + 1)) := by
                          intro wz v4 v5 h
                          have hk' := HK.out
                          refine ⟨HEs.out, h, by simp [hkl], by show os'.length ≤ _; omega, ?_, hk'.2.2.1⟩
                          show N2.length ≤ k + 1
                          rw [HN2.out]
                          split
                          · omega
                          · rw [List.length_append]; simp; omega
                        clear hbl hkl al
                        cases hba : b.bare
                        · rw [hba] at y4 y4a HFIN
                          simp only [Bool.false_and] at HFIN
                          have hend : ∀ v4 w4, w4.ownsRow 0 31 1 v4 (k + 1) (st.ids.map (Value.int .u64) ++ [.int .u64 oi]) → (wc.alloc (.cells #[.int .u64 oi] 31)).drew.grownBy w4 (Value.slice ia k ic).ownBlock → (v4.ownBlock = (Value.slice ia k ic).ownBlock ∨ v4.ownBlock = some (wc.alloc (.cells #[.int .u64 oi] 31)).drew.heap.size) →
                              w4.cell? ⟨hb, 2, none⟩ = some (.slice ia k ic) ∧ (w4.alloc (.cells #[.bool false] 4)).cell? ⟨hb, 2, none⟩ = some (.slice ia k ic) ∧ w4.cell? ⟨hb, 3, none⟩ = some (.slice ba3 k bc3) ∧ (w4.alloc (.cells #[.bool false] 4)).cell? ⟨hb, 3, none⟩ = some (.slice ba3 k bc3) ∧ (w4.cell? ⟨B8, 2, none⟩ = some (.bool b.blob) ∧ w4.cell? ⟨B8, 4, none⟩ = some (.bool false)) ∧ ((w4.alloc (.cells #[.bool false] 4)).cell? ⟨B8, 2, none⟩ = some (.bool b.blob) ∧ (w4.alloc (.cells #[.bool false] 4)).cell? ⟨B8, 4, none⟩ = some (.bool false)) ∧ (w4.alloc (.cells #[.bool false] 4)).ownsRow 0 4 1 (.slice ba3 k bc3) k (st.bare.map Value.bool) ∧
                              Hid (∀ v5 w5, w5.ownsRow 0 4 1 v5 (k + 1) (st.bare.map Value.bool ++ [.bool false]) → (w4.alloc (.cells #[.bool false] 4)).grownBy w5 (Value.slice ba3 k bc3).ownBlock → (v5.ownBlock = (Value.slice ba3 k bc3).ownBlock ∨ v5.ownBlock = some (w4.alloc (.cells #[.bool false] 4)).heap.size) →
                                w5.cell? ⟨hb, 2, none⟩ = some (.slice ia k ic) ∧ w5.frozen? ⟨hb, 2, none⟩ = false ∧ w5.cell? ⟨hb, 3, none⟩ = some (.slice ba3 k bc3) ∧ (w5.setCell ⟨hb, 2, none⟩ v4).cell? ⟨hb, 3, none⟩ = some (.slice ba3 k bc3) ∧ (w5.setCell ⟨hb, 2, none⟩ v4).frozen? ⟨hb, 3, none⟩ = false ∧ (w5.cell? ⟨B8, 2, none⟩ = some (.bool b.blob) ∧ w5.cell? ⟨B8, 4, none⟩ = some (.bool false)) ∧ ((w5.setCell ⟨hb, 2, none⟩ v4).cell? ⟨B8, 2, none⟩ = some (.bool b.blob) ∧ (w5.setCell ⟨hb, 2, none⟩ v4).cell? ⟨B8, 4, none⟩ = some (.bool false)) ∧ (((w5.setCell ⟨hb, 2, none⟩ v4).setCell ⟨hb, 3, none⟩ v5).cell? ⟨B8, 2, none⟩ = some (.bool b.blob) ∧ ((w5.setCell ⟨hb, 2, none⟩ v4).setCell ⟨hb, 3, none⟩ v5).cell? ⟨B8, 4, none⟩ = some (.bool false)) ∧ Hid (BI w ((w5.setCell ⟨hb, 2, none⟩ v4).setCell ⟨hb, 3, none⟩ v5) hb s d e0 ⟨os', st.ids ++ [oi], N2, st.bare ++ [false]⟩ S7 F7 G7 X' nv' v4 v5 ns')) := by
                            intro v4 w4 ho4 hg4 hat4
                            have hT4 : Turn (fun z => (Value.slice ia k ic).ownBlock = some z) wc w4 := by
                              have h1 : Turn (fun z => (Value.slice ia k ic).ownBlock = some z) wc (wc.alloc (.cells #[.int .u64 oi] 31)).drew := Turn.of_below _ (Below.trans ((Below.refl _ wc).alloc (Nat.le_refl _) (.cells #[.int .u64 oi] 31)) ⟨rfl, rfl, rfl, Nat.le_refl _, fun _ _ => rfl⟩)
                              exact h1.trans (Turn.of_grownBy (Fp := fun z => (Value.slice ia k ic).ownBlock = some z) hg4 (fun z hz => .inl hz)) (fun _ _ e => e)
                            have hb4 : ∀ z, v4.ownBlock = some z → (Value.slice ia k ic).ownBlock = some z ∨ wc.heap.size ≤ z := own_or (w := wc) (o := (.cells #[.int .u64 oi] 31)) hat4
                            have kh : w4.heap[hb]? = wc.heap[hb]? := hT4.block hb hhl (fun e => (I8.ai hb e).1 rfl)
                            have k8 : w4.heap[B8]? = wc.heap[B8]? := hT4.block B8 h8l (fun e => n8 (.inr (.inr (.inl e))))
                            have hh4 : hb < w4.heap.size := Nat.lt_of_lt_of_le hhl hT4.size
                            have h84 : B8 < w4.heap.size := Nat.lt_of_lt_of_le h8l hT4.size
                            have e2 := (World.cell?_of_block (a := ⟨hb, 2, none⟩) kh).trans c2
                            have e3 := (World.cell?_of_block (a := ⟨hb, 3, none⟩) kh).trans c3
                            have e4 := (World.cell?_of_block (a := ⟨B8, 2, none⟩) k8).trans y2
                            have e5 := (World.cell?_of_block (a := ⟨B8, 4, none⟩) k8).trans y4
                            have aa : ∀ q : Addr, q.block < w4.heap.size → (w4.alloc (.cells #[.bool false] 4)).cell? q = w4.cell? q := fun q hq => World.cell?_of_block (Below.heap_alloc _ _ _ hq)
                            have hrB4 : w4.ownsRow w.heap.size 4 1 (.slice ba3 k bc3) k (st.bare.map Value.bool) := row_moved hrowB0 fun z hz => hT4.block z (hrowB0.lt z hz).2 (fun e => (I8.ai z e).2 hz)
                            refine ⟨e2, (aa _ hh4).trans e2, e3, (aa _ hh4).trans e3, ⟨e4, e5⟩, ⟨(aa _ h84).trans e4, (aa _ h84).trans e5⟩, (row_low hrB4 (Nat.zero_le _)).alloc _, ?_⟩
                            intro v5 w5 ho5 hg5 hat5
                            have hT5 : Turn (fun z => (Value.slice ba3 k bc3).ownBlock = some z) w4 w5 := (Turn.of_below (fun z => (Value.slice ba3 k bc3).ownBlock = some z) ((Below.refl _ w4).alloc (Nat.le_refl _) (.cells #[.bool false] 4))).trans (Turn.of_grownBy (Fp := fun z => (Value.slice ba3 k bc3).ownBlock = some z) hg5 (fun z hz => .inl hz)) (fun _ _ e => e)
                            have hb5 : ∀ z, v5.ownBlock = some z → (Value.slice ba3 k bc3).ownBlock = some z ∨ w4.heap.size ≤ z := own_or (w := w4) (o := (.cells #[.bool false] 4)) hat5
                            have kh5 : w5.heap[hb]? = wc.heap[hb]? := (hT5.block hb hh4 (fun e => I8.ab hb e rfl)).trans kh
                            have k85 : w5.heap[B8]? = wc.heap[B8]? := (hT5.block B8 h84 (fun e => n8 (.inr (.inr (.inr (.inl e)))))).trans k8
                            have g2 := (World.cell?_of_block (a := ⟨B8, 2, none⟩) k85).trans y2
                            have g4 := (World.cell?_of_block (a := ⟨B8, 4, none⟩) k85).trans y4
                            have nn : ∀ (i q : Nat), (⟨hb, i, none⟩ : Addr) ≠ ⟨B8, q, none⟩ := fun i q e => nb4 (congrArg Addr.block e)
                            have nm : ∀ (i q : Nat), (⟨B8, q, none⟩ : Addr) ≠ ⟨hb, i, none⟩ := fun i q e => nb4 (congrArg Addr.block e).symm
                            have sc : ∀ (W : World) (i q : Nat) (v : Value), (W.setCell ⟨hb, i, none⟩ v).cell? ⟨B8, q, none⟩ = W.cell? ⟨B8, q, none⟩ := fun W i q v => by first | exact World.cell?_setCell_other _ _ _ _ (nn i q) | exact World.cell?_setCell_other _ _ _ _ (nm i q)
                            refine ⟨(World.cell?_of_block (a := ⟨hb, 2, none⟩) kh5).trans c2, (World.frozen?_of_block (a := ⟨hb, 2, none⟩) kh5).trans (I8.fz 2), (World.cell?_of_block (a := ⟨hb, 3, none⟩) kh5).trans c3, ?_, ?_, ⟨g2, g4⟩, ⟨(sc _ _ _ _).trans g2, (sc _ _ _ _).trans g4⟩, ⟨(sc _ _ _ _).trans ((sc _ _ _ _).trans g2), (sc _ _ _ _).trans ((sc _ _ _ _).trans g4)⟩, ?_⟩
                            · rw [World.cell?_setCell_other _ _ _ _ (by simp)]; exact (World.cell?_of_block (a := ⟨hb, 3, none⟩) kh5).trans c3
                            · rw [World.frozen?_setCell]; exact (World.frozen?_of_block (a := ⟨hb, 3, none⟩) kh5).trans (I8.fz 3)
                            · have hh4' : w4.ownsRow w.heap.size 31 1 v4 (k + 1) (st.ids.map (Value.int .u64) ++ [.int .u64 oi]) := by
                                refine row_high ho4 fun z hz => ?_
                                rcases hb4 z hz with h | h
                                · exact (hrowI0.lt z h).1
                                · have := I8.B.size; omega
                              have hh5' : w5.ownsRow w.heap.size 4 1 v5 (k + 1) (st.bare.map Value.bool ++ [.bool false]) := by
                                refine row_high ho5 fun z hz => ?_
                                rcases hb5 z hz with h | h
                                · exact (hrowB0.lt z h).1
                                · have h1 := I8.B.size; have h2 := hT4.size; omega
                              exact H8.out.fin oi false HK.out.2.2.2.2.2.2.2.2 v4 v5 (by rw [hIL]; exact hh4') hT4 hb4 (by rw [hBL]; exact hh5') hT5 hb5
                          have HEnd1 : Hid _ := hend
                          have HI8 : Hid (BI w wc hb s d e0 ⟨os', st.ids, N2, st.bare⟩ S7 F7 G7 X' nv' (.slice ia k ic) (.slice ba3 k bc3) ns') := I8
                          clear hend I8 hrowB0 hrowI0 hhl h8l n8 hIL hBL y0 y1 y3
                          go_upto_region 33 with fail
                          refine wp_region_G (S := SB 24 (fun W => W.cell? ⟨hb, 2, none⟩ = some (.slice ia k ic) ∧ W.cell? ⟨hb, 3, none⟩ = some (.slice ba3 k bc3)) (fun W => W.cell? ⟨B8, 2, none⟩ = some (.bool b.blob) ∧ W.cell? ⟨B8, 4, none⟩ = some (.bool false))) hmx ?_
                          have hSB : SB 24 (fun W => W.cell? ⟨hb, 2, none⟩ = some (.slice ia k ic) ∧ W.cell? ⟨hb, 3, none⟩ = some (.slice ba3 k bc3)) (fun W => W.cell? ⟨B8, 2, none⟩ = some (.bool b.blob) ∧ W.cell? ⟨B8, 4, none⟩ = some (.bool false)) (Array.replicate 28 false) wc.drew := SB.on ⟨c2, c3⟩ ⟨y2, y4⟩
                          refine wpAnyG_takeP (i := 0) (v := ?_) rfl (by kernel_rfl) (by kernel_rfl) (by kernel_rfl) (fun _ _ _ h => h) rfl (Or.inl ⟨by rfl, ?_⟩) (by assumption) ?_
                          rotate_left
                          · intro Y hY; obtain ⟨f3, f4⟩ := hY; go_simp; try with_reducible rfl
                          intro hSB0
                          simp only [Act.put, List.getElem_toArray, List.getElem_cons_zero, List.setIfInBounds_toArray, List.set_cons_zero, List.set_cons_succ]
                          refine wpAnyG_takeP (i := 1) (v := ?_) rfl (by kernel_rfl) (by kernel_rfl) (by kernel_rfl) (fun _ _ _ h => h) rfl (Or.inl ⟨by rfl, ?_⟩) (by assumption) ?_
                          rotate_left
                          · intro Y hY; obtain ⟨f3, f4⟩ := hY; go_simp; try with_reducible rfl
                          intro hSB1
                          simp only [Act.put, List.getElem_toArray, List.getElem_cons_zero, List.getElem_cons_succ, List.setIfInBounds_toArray, List.set_cons_zero, List.set_cons_succ]
                          refine wpAnyG_takeP (i := 2) (v := ?_) rfl (by kernel_rfl) (by kernel_rfl) (by kernel_rfl) (fun _ _ _ h => h) rfl (Or.inl ⟨by rfl, ?_⟩) (by assumption) ?_
                          rotate_left
                          · intro Y hY; obtain ⟨f3, f4⟩ := hY; go_simp; try with_reducible rfl
                          intro hSB2
                          simp only [Act.put, List.getElem_toArray, List.getElem_cons_zero, List.getElem_cons_succ, List.setIfInBounds_toArray, List.set_cons_zero, List.set_cons_succ]
                          refine wpAnyG_takeP (i := 3) (v := ?_) rfl (by kernel_rfl) (by kernel_rfl) (by kernel_rfl) (fun _ _ _ h => h) rfl (Or.inl ⟨by rfl, ?_⟩) (by assumption) ?_
                          rotate_left
                          · intro Y hY; obtain ⟨f3, f4⟩ := hY; go_simp; try with_reducible rfl
                          intro hSB3
                          simp only [Act.put, List.getElem_toArray, List.getElem_cons_zero, List.getElem_cons_succ, List.setIfInBounds_toArray, List.set_cons_zero, List.set_cons_succ]
                          refine wpAnyG_takeP (i := 4) (v := ?_) rfl (by kernel_rfl) (by kernel_rfl) (by kernel_rfl) (fun _ _ _ h => h) rfl (Or.inl ⟨by rfl, ?_⟩) (by assumption) ?_
                          rotate_left
                          · intro Y hY; obtain ⟨f3, f4⟩ := hY; go_simp; try with_reducible rfl
                          intro hSB4
                          simp only [Act.put, List.getElem_toArray, List.getElem_cons_zero, List.getElem_cons_succ, List.setIfInBounds_toArray, List.set_cons_zero, List.set_cons_succ]
                          refine wpAnyG_takeB (i := 5) (b := 24) (v := ?_) rfl (by kernel_rfl) (by kernel_rfl) (by kernel_rfl) (fun _ _ _ h => h) rfl (by kernel_rfl) rfl (by kernel_rfl) (Or.inl ⟨by rfl, ?_⟩) (by assumption) ?_
                          rotate_left
                          · intro Y hY; obtain ⟨⟨f1, f2⟩, f3, f4⟩ := hY; go_simp; try with_reducible rfl
                          intro hSB5
                          simp only [Act.put, List.getElem_toArray, List.getElem_cons_zero, List.getElem_cons_succ, List.setIfInBounds_toArray, List.set_cons_zero, List.set_cons_succ]
                          refine wpAnyG_takeP (i := 6) (v := ?_) rfl (by kernel_rfl) (by kernel_rfl) (by kernel_rfl) (fun _ _ _ h => h) rfl (Or.inl ⟨by rfl, ?_⟩) (by assumption) ?_
                          rotate_left
                          · intro Y hY; obtain ⟨f3, f4⟩ := hY; go_simp; try with_reducible rfl
                          intro hSB6
                          simp only [Act.put, List.getElem_toArray, List.getElem_cons_zero, List.getElem_cons_succ, List.setIfInBounds_toArray, List.set_cons_zero, List.set_cons_succ]
                          refine wpAnyG_takeP (i := 9) (v := ?_) rfl (by kernel_rfl) (by kernel_rfl) (by kernel_rfl) (fun _ _ _ h => h) rfl (Or.inl ⟨by rfl, ?_⟩) (by assumption) ?_
                          rotate_left
                          · intro Y hY; obtain ⟨f3, f4⟩ := hY; go_simp; try with_reducible rfl
                          intro hSB9
                          simp only [Act.put, List.getElem_toArray, List.getElem_cons_zero, List.getElem_cons_succ, List.setIfInBounds_toArray, List.set_cons_zero, List.set_cons_succ]
                          refine wpAnyG_takeP (i := 10) (v := ?_) rfl (by kernel_rfl) (by kernel_rfl) (by kernel_rfl) (fun _ _ _ h => h) rfl (Or.inl ⟨by rfl, ?_⟩) (by assumption) ?_
                          rotate_left
                          · intro Y hY; obtain ⟨f3, f4⟩ := hY; go_simp; try with_reducible rfl
                          intro hSB10
                          simp only [Act.put, List.getElem_toArray, List.getElem_cons_zero, List.getElem_cons_succ, List.setIfInBounds_toArray, List.set_cons_zero, List.set_cons_succ]
                          refine wpAnyG_takeP (i := 11) (v := ?_) rfl (by kernel_rfl) (by kernel_rfl) (by kernel_rfl) (fun _ _ _ h => h) rfl (Or.inl ⟨by rfl, ?_⟩) (by assumption) ?_
                          rotate_left
                          · intro Y hY; obtain ⟨f3, f4⟩ := hY; go_simp; try with_reducible rfl
                          intro hSB11
                          simp only [Act.put, List.getElem_toArray, List.getElem_cons_zero, List.getElem_cons_succ, List.setIfInBounds_toArray, List.set_cons_zero, List.set_cons_succ]
                          refine wpAnyG_takeB (i := 12) (b := 24) (v := ?_) rfl (by kernel_rfl) (by kernel_rfl) (by kernel_rfl) (fun _ _ _ h => h) rfl (by kernel_rfl) rfl (by kernel_rfl) (Or.inl ⟨by rfl, ?_⟩) (by assumption) ?_
                          rotate_left
                          · intro Y hY; obtain ⟨⟨f1, f2⟩, f3, f4⟩ := hY; go_simp; try with_reducible rfl
                          intro hSB12
                          simp only [Act.put, List.getElem_toArray, List.getElem_cons_zero, List.getElem_cons_succ, List.setIfInBounds_toArray, List.set_cons_zero, List.set_cons_succ]
                          refine wpAnyG_takeP (i := 13) (v := ?_) rfl (by kernel_rfl) (by kernel_rfl) (by kernel_rfl) (fun _ _ _ h => h) rfl (Or.inl ⟨by rfl, ?_⟩) (by assumption) ?_
                          rotate_left
                          · intro Y hY; obtain ⟨f3, f4⟩ := hY; go_simp; try with_reducible rfl
                          intro hSB13
                          simp only [Act.put, List.getElem_toArray, List.getElem_cons_zero, List.getElem_cons_succ, List.setIfInBounds_toArray, List.set_cons_zero, List.set_cons_succ]
                          refine wpAnyG_takeP (i := 14) (v := ?_) rfl (by kernel_rfl) (by kernel_rfl) (by kernel_rfl) (fun _ _ _ h => h) rfl (Or.inl ⟨by rfl, ?_⟩) (by assumption) ?_
                          rotate_left
                          · intro Y hY; obtain ⟨f3, f4⟩ := hY; go_simp; try with_reducible rfl
                          intro hSB14
                          simp only [Act.put, List.getElem_toArray, List.getElem_cons_zero, List.getElem_cons_succ, List.setIfInBounds_toArray, List.set_cons_zero, List.set_cons_succ]
                          refine wpAnyG_one (i := 7) (by kernel_rfl) rfl (fun K hK => ?_)
                          go_simp
                          refine hK.out _ _ (SB.on ⟨c2a, c3a⟩ ⟨y2a, y4a⟩) (fun hSB7 => ?_)
                          clear hK K
                          refine wpAnyG_one (i := 8) (by kernel_rfl) rfl (fun K hK => ?_)
                          refine step_push1 _ (by rfl) _ _ 28 31 i0 _ 8 (by rfl) Tryz.underlying28 hi hzz0 hzz1 hzz2 rfl (.slice ia k ic) k _ (by rfl) hrowI wc.heap.size (.int .u64 oi) (by rfl) (cell_newD wc (.int .u64 oi) 31) rfl (by unfold maxLen; omega) (by omega) ?_
                          intro v4 w4 ho4 hg4 hat4
                          obtain ⟨a4, c4, rfl, _, _⟩ := row_shapeN ho4
                          obtain ⟨c24, c24a, c34, c34a, hS4, hS4a, hrowB, HE4⟩ := HEnd1.out _ w4 ho4 hg4 hat4
                          clear ho4 hg4 hat4
                          refine hK.out _ _ (SB.on ⟨c24, c34⟩ hS4) (fun hSB8 => ?_)
                          clear hK K
                          simp only [Act.put, List.getElem_toArray, List.getElem_cons_zero, List.getElem_cons_succ, List.setIfInBounds_toArray, List.set_cons_zero, List.set_cons_succ]
                          refine wpAnyG_takeP (i := 15) (v := ?_) rfl (by kernel_rfl) (by kernel_rfl) (by kernel_rfl) (fun _ _ _ h => h) rfl (Or.inl ⟨by rfl, ?_⟩) (by assumption) ?_
                          rotate_left
                          · intro Y hY; obtain ⟨f3, f4⟩ := hY; go_simp; try with_reducible rfl
                          intro hSB15
                          simp only [Act.put, List.getElem_toArray, List.getElem_cons_zero, List.getElem_cons_succ, List.setIfInBounds_toArray, List.set_cons_zero, List.set_cons_succ]
                          refine wpAnyG_takeP (i := 16) (v := undef) rfl (by kernel_rfl) (by kernel_rfl) (by kernel_rfl) (fun _ _ _ h => h) rfl (Or.inr ⟨by rfl, rfl⟩) (by assumption) ?_
                          intro hSB16
                          simp only [Act.put, List.getElem_toArray, List.getElem_cons_zero, List.getElem_cons_succ, List.setIfInBounds_toArray, List.set_cons_zero, List.set_cons_succ]
                          refine wpAnyG_takeP (i := 17) (v := undef) rfl (by kernel_rfl) (by kernel_rfl) (by kernel_rfl) (fun _ _ _ h => h) rfl (Or.inr ⟨by rfl, rfl⟩) (by assumption) ?_
                          intro hSB17
                          simp only [Act.put, List.getElem_toArray, List.getElem_cons_zero, List.getElem_cons_succ, List.setIfInBounds_toArray, List.set_cons_zero, List.set_cons_succ]
                          refine wpAnyG_takeP (i := 18) (v := undef) rfl (by kernel_rfl) (by kernel_rfl) (by kernel_rfl) (fun _ _ _ h => h) rfl (Or.inr ⟨by rfl, rfl⟩) (by assumption) ?_
                          intro hSB18
                          simp only [Act.put, List.getElem_toArray, List.getElem_cons_zero, List.getElem_cons_succ, List.setIfInBounds_toArray, List.set_cons_zero, List.set_cons_succ]
                          refine wpAnyG_takeP (i := 19) (v := ?_) rfl (by kernel_rfl) (by kernel_rfl) (by kernel_rfl) (fun _ _ _ h => h) rfl (Or.inl ⟨by rfl, ?_⟩) (by assumption) ?_
                          rotate_left
                          · intro Y hY; obtain ⟨f3, f4⟩ := hY; go_simp; try with_reducible rfl
                          intro hSB19
                          simp only [Act.put, List.getElem_toArray, List.getElem_cons_zero, List.getElem_cons_succ, List.setIfInBounds_toArray, List.set_cons_zero, List.set_cons_succ]
                          refine wpAnyG_one (i := 20) (by kernel_rfl) rfl (fun K hK => ?_)
                          go_simp
                          refine hK.out _ _ (SB.on ⟨c24a, c34a⟩ hS4a) (fun hSB20 => ?_)
                          clear hK K
                          refine wpAnyG_one (i := 21) (by kernel_rfl) rfl (fun K hK => ?_)
                          refine step_push1 _ (by rfl) _ _ 65 4 j0 _ 1 (by rfl) Tryz.underlying65 hj hyy0 hyy1 hyy2 rfl (.slice ba3 k bc3) k _ (by rfl) hrowB w4.heap.size (.bool false) (by rfl) (cell_newP w4 (.bool false) 4) rfl (by unfold maxLen; omega) (by omega) ?_
                          intro v5 w5 ho5 hg5 hat5
                          obtain ⟨a5, c5, rfl, _, _⟩ := row_shapeN ho5
                          obtain ⟨d2, df2, d33, d3, df3, hS5, hS6, hS7, HE5⟩ := HE4.out _ w5 ho5 hg5 hat5
                          clear ho5 hg5 hat5
                          refine hK.out _ _ (SB.on ⟨d2, d33⟩ hS5) (fun hSB21 => ?_)
                          clear hK K
                          simp only [Act.put, List.getElem_toArray, List.getElem_cons_zero, List.getElem_cons_succ, List.setIfInBounds_toArray, List.set_cons_zero, List.set_cons_succ]
                          refine wpAnyG_takeP (i := 22) (v := ?_) rfl (by kernel_rfl) (by kernel_rfl) (by kernel_rfl) (fun _ _ _ h => h) rfl (Or.inl ⟨by rfl, ?_⟩) (by assumption) ?_
                          rotate_left
                          · intro Y hY; obtain ⟨f3, f4⟩ := hY; go_simp; try with_reducible rfl
                          intro hSB22
                          simp only [Act.put, List.getElem_toArray, List.getElem_cons_zero, List.getElem_cons_succ, List.setIfInBounds_toArray, List.set_cons_zero, List.set_cons_succ]
                          refine wpAnyG_takeP (i := 23) (v := ?_) rfl (by kernel_rfl) (by kernel_rfl) (by kernel_rfl) (fun _ _ _ h => h) rfl (Or.inl ⟨by rfl, ?_⟩) (by assumption) ?_
                          rotate_left
                          · intro Y hY; obtain ⟨f3, f4⟩ := hY; go_simp; try with_reducible rfl
                          intro hSB23
                          simp only [Act.put, List.getElem_toArray, List.getElem_cons_zero, List.getElem_cons_succ, List.setIfInBounds_toArray, List.set_cons_zero, List.set_cons_succ]
                          refine wpAnyG_one (i := 24) (by kernel_rfl) rfl (fun K hK => ?_)
                          go_simp
                          refine hK.out _ _ (SB.off (by kernel_rfl) hS6) (fun hSB24 => ?_)
                          clear hK K
                          refine wpAnyG_takeP (i := 25) (v := ?_) rfl (by kernel_rfl) (by kernel_rfl) (by kernel_rfl) (fun _ _ _ h => h) rfl (Or.inl ⟨by rfl, ?_⟩) (by assumption) ?_
                          rotate_left
                          · intro Y hY; obtain ⟨f3, f4⟩ := hY; go_simp; try with_reducible rfl
                          intro hSB25
                          simp only [Act.put, List.getElem_toArray, List.getElem_cons_zero, List.getElem_cons_succ, List.setIfInBounds_toArray, List.set_cons_zero, List.set_cons_succ]
                          refine wpAnyG_takeP (i := 26) (v := ?_) rfl (by kernel_rfl) (by kernel_rfl) (by kernel_rfl) (fun _ _ _ h => h) rfl (Or.inl ⟨by rfl, ?_⟩) (by assumption) ?_
                          rotate_left
                          · intro Y hY; obtain ⟨f3, f4⟩ := hY; go_simp; try with_reducible rfl
                          intro hSB26
                          simp only [Act.put, List.getElem_toArray, List.getElem_cons_zero, List.getElem_cons_succ, List.setIfInBounds_toArray, List.set_cons_zero, List.set_cons_succ]
                          refine wpAnyG_one (i := 27) (by kernel_rfl) rfl (fun K hK => ?_)
                          go_simp
                          refine hK.out _ _ (SB.off (by kernel_rfl) hS7) (fun hSB27 => ?_)
                          clear hK K
                          refine wpAnyG_done (by kernel_rfl) ?_ _
                          go_wp2
                          go_roundg (n - (k + 1))
                          case measure => omega
                          case rel => exact ⟨k + 1, _, _, _, _, _, _, _, _, _, by omega, by omega, by simp, rfl, HFIN.out _ HE5.out⟩
                        · rw [hba] at y4 y4a HFIN
                          simp only [Bool.true_and] at HFIN
                          have hend : ∀ v4 w4, w4.ownsRow 0 31 1 v4 (k + 1) (st.ids.map (Value.int .u64) ++ [.int .u64 oi]) → (wc.alloc (.cells #[.int .u64 oi] 31)).drew.grownBy w4 (Value.slice ia k ic).ownBlock → (v4.ownBlock = (Value.slice ia k ic).ownBlock ∨ v4.ownBlock = some (wc.alloc (.cells #[.int .u64 oi] 31)).drew.heap.size) →
                              w4.cell? ⟨hb, 2, none⟩ = some (.slice ia k ic) ∧ (w4.alloc (.cells #[.bool (!b.blob)] 4)).cell? ⟨hb, 2, none⟩ = some (.slice ia k ic) ∧ w4.cell? ⟨hb, 3, none⟩ = some (.slice ba3 k bc3) ∧ (w4.alloc (.cells #[.bool (!b.blob)] 4)).cell? ⟨hb, 3, none⟩ = some (.slice ba3 k bc3) ∧ (w4.cell? ⟨B8, 2, none⟩ = some (.bool b.blob) ∧ w4.cell? ⟨B8, 4, none⟩ = some (.bool true)) ∧ ((w4.alloc (.cells #[.bool (!b.blob)] 4)).cell? ⟨B8, 2, none⟩ = some (.bool b.blob) ∧ (w4.alloc (.cells #[.bool (!b.blob)] 4)).cell? ⟨B8, 4, none⟩ = some (.bool true)) ∧ (w4.alloc (.cells #[.bool (!b.blob)] 4)).ownsRow 0 4 1 (.slice ba3 k bc3) k (st.bare.map Value.bool) ∧
                              Hid (∀ v5 w5, w5.ownsRow 0 4 1 v5 (k + 1) (st.bare.map Value.bool ++ [.bool (!b.blob)]) → (w4.alloc (.cells #[.bool (!b.blob)] 4)).grownBy w5 (Value.slice ba3 k bc3).ownBlock → (v5.ownBlock = (Value.slice ba3 k bc3).ownBlock ∨ v5.ownBlock = some (w4.alloc (.cells #[.bool (!b.blob)] 4)).heap.size) →
                                w5.cell? ⟨hb, 2, none⟩ = some (.slice ia k ic) ∧ w5.frozen? ⟨hb, 2, none⟩ = false ∧ w5.cell? ⟨hb, 3, none⟩ = some (.slice ba3 k bc3) ∧ (w5.setCell ⟨hb, 2, none⟩ v4).cell? ⟨hb, 3, none⟩ = some (.slice ba3 k bc3) ∧ (w5.setCell ⟨hb, 2, none⟩ v4).frozen? ⟨hb, 3, none⟩ = false ∧ (w5.cell? ⟨B8, 2, none⟩ = some (.bool b.blob) ∧ w5.cell? ⟨B8, 4, none⟩ = some (.bool true)) ∧ ((w5.setCell ⟨hb, 2, none⟩ v4).cell? ⟨B8, 2, none⟩ = some (.bool b.blob) ∧ (w5.setCell ⟨hb, 2, none⟩ v4).cell? ⟨B8, 4, none⟩ = some (.bool true)) ∧ (((w5.setCell ⟨hb, 2, none⟩ v4).setCell ⟨hb, 3, none⟩ v5).cell? ⟨B8, 2, none⟩ = some (.bool b.blob) ∧ ((w5.setCell ⟨hb, 2, none⟩ v4).setCell ⟨hb, 3, none⟩ v5).cell? ⟨B8, 4, none⟩ = some (.bool true)) ∧ Hid (BI w ((w5.setCell ⟨hb, 2, none⟩ v4).setCell ⟨hb, 3, none⟩ v5) hb s d e0 ⟨os', st.ids ++ [oi], N2, st.bare ++ [(!b.blob)]⟩ S7 F7 G7 X' nv' v4 v5 ns')) := by
                            intro v4 w4 ho4 hg4 hat4
                            have hT4 : Turn (fun z => (Value.slice ia k ic).ownBlock = some z) wc w4 := by
                              have h1 : Turn (fun z => (Value.slice ia k ic).ownBlock = some z) wc (wc.alloc (.cells #[.int .u64 oi] 31)).drew := Turn.of_below _ (Below.trans ((Below.refl _ wc).alloc (Nat.le_refl _) (.cells #[.int .u64 oi] 31)) ⟨rfl, rfl, rfl, Nat.le_refl _, fun _ _ => rfl⟩)
                              exact h1.trans (Turn.of_grownBy (Fp := fun z => (Value.slice ia k ic).ownBlock = some z) hg4 (fun z hz => .inl hz)) (fun _ _ e => e)
                            have hb4 : ∀ z, v4.ownBlock = some z → (Value.slice ia k ic).ownBlock = some z ∨ wc.heap.size ≤ z := own_or (w := wc) (o := (.cells #[.int .u64 oi] 31)) hat4
                            have kh : w4.heap[hb]? = wc.heap[hb]? := hT4.block hb hhl (fun e => (I8.ai hb e).1 rfl)
                            have k8 : w4.heap[B8]? = wc.heap[B8]? := hT4.block B8 h8l (fun e => n8 (.inr (.inr (.inl e))))
                            have hh4 : hb < w4.heap.size := Nat.lt_of_lt_of_le hhl hT4.size
                            have h84 : B8 < w4.heap.size := Nat.lt_of_lt_of_le h8l hT4.size
                            have e2 := (World.cell?_of_block (a := ⟨hb, 2, none⟩) kh).trans c2
                            have e3 := (World.cell?_of_block (a := ⟨hb, 3, none⟩) kh).trans c3
                            have e4 := (World.cell?_of_block (a := ⟨B8, 2, none⟩) k8).trans y2
                            have e5 := (World.cell?_of_block (a := ⟨B8, 4, none⟩) k8).trans y4
                            have aa : ∀ q : Addr, q.block < w4.heap.size → (w4.alloc (.cells #[.bool (!b.blob)] 4)).cell? q = w4.cell? q := fun q hq => World.cell?_of_block (Below.heap_alloc _ _ _ hq)
                            have hrB4 : w4.ownsRow w.heap.size 4 1 (.slice ba3 k bc3) k (st.bare.map Value.bool) := row_moved hrowB0 fun z hz => hT4.block z (hrowB0.lt z hz).2 (fun e => (I8.ai z e).2 hz)
                            refine ⟨e2, (aa _ hh4).trans e2, e3, (aa _ hh4).trans e3, ⟨e4, e5⟩, ⟨(aa _ h84).trans e4, (aa _ h84).trans e5⟩, (row_low hrB4 (Nat.zero_le _)).alloc _, ?_⟩
                            intro v5 w5 ho5 hg5 hat5
                            have hT5 : Turn (fun z => (Value.slice ba3 k bc3).ownBlock = some z) w4 w5 := (Turn.of_below (fun z => (Value.slice ba3 k bc3).ownBlock = some z) ((Below.refl _ w4).alloc (Nat.le_refl _) (.cells #[.bool (!b.blob)] 4))).trans (Turn.of_grownBy (Fp := fun z => (Value.slice ba3 k bc3).ownBlock = some z) hg5 (fun z hz => .inl hz)) (fun _ _ e => e)
                            have hb5 : ∀ z, v5.ownBlock = some z → (Value.slice ba3 k bc3).ownBlock = some z ∨ w4.heap.size ≤ z := own_or (w := w4) (o := (.cells #[.bool (!b.blob)] 4)) hat5
                            have kh5 : w5.heap[hb]? = wc.heap[hb]? := (hT5.block hb hh4 (fun e => I8.ab hb e rfl)).trans kh
                            have k85 : w5.heap[B8]? = wc.heap[B8]? := (hT5.block B8 h84 (fun e => n8 (.inr (.inr (.inr (.inl e)))))).trans k8
                            have g2 := (World.cell?_of_block (a := ⟨B8, 2, none⟩) k85).trans y2
                            have g4 := (World.cell?_of_block (a := ⟨B8, 4, none⟩) k85).trans y4
                            have nn : ∀ (i q : Nat), (⟨hb, i, none⟩ : Addr) ≠ ⟨B8, q, none⟩ := fun i q e => nb4 (congrArg Addr.block e)
                            have nm : ∀ (i q : Nat), (⟨B8, q, none⟩ : Addr) ≠ ⟨hb, i, none⟩ := fun i q e => nb4 (congrArg Addr.block e).symm
                            have sc : ∀ (W : World) (i q : Nat) (v : Value), (W.setCell ⟨hb, i, none⟩ v).cell? ⟨B8, q, none⟩ = W.cell? ⟨B8, q, none⟩ := fun W i q v => by first | exact World.cell?_setCell_other _ _ _ _ (nn i q) | exact World.cell?_setCell_other _ _ _ _ (nm i q)
                            refine ⟨(World.cell?_of_block (a := ⟨hb, 2, none⟩) kh5).trans c2, (World.frozen?_of_block (a := ⟨hb, 2, none⟩) kh5).trans (I8.fz 2), (World.cell?_of_block (a := ⟨hb, 3, none⟩) kh5).trans c3, ?_, ?_, ⟨g2, g4⟩, ⟨(sc _ _ _ _).trans g2, (sc _ _ _ _).trans g4⟩, ⟨(sc _ _ _ _).trans ((sc _ _ _ _).trans g2), (sc _ _ _ _).trans ((sc _ _ _ _).trans g4)⟩, ?_⟩
                            · rw [World.cell?_setCell_other _ _ _ _ (by simp)]; exact (World.cell?_of_block (a := ⟨hb, 3, none⟩) kh5).trans c3
                            · rw [World.frozen?_setCell]; exact (World.frozen?_of_block (a := ⟨hb, 3, none⟩) kh5).trans (I8.fz 3)
                            · have hh4' : w4.ownsRow w.heap.size 31 1 v4 (k + 1) (st.ids.map (Value.int .u64) ++ [.int .u64 oi]) := by
                                refine row_high ho4 fun z hz => ?_
                                rcases hb4 z hz with h | h
                                · exact (hrowI0.lt z h).1
                                · have := I8.B.size; omega
                              have hh5' : w5.ownsRow w.heap.size 4 1 v5 (k + 1) (st.bare.map Value.bool ++ [.bool (!b.blob)]) := by
                                refine row_high ho5 fun z hz => ?_
                                rcases hb5 z hz with h | h
                                · exact (hrowB0.lt z h).1
                                · have h1 := I8.B.size; have h2 := hT4.size; omega
                              exact H8.out.fin oi (!b.blob) HK.out.2.2.2.2.2.2.2.2 v4 v5 (by rw [hIL]; exact hh4') hT4 hb4 (by rw [hBL]; exact hh5') hT5 hb5
                          have HEnd1 : Hid _ := hend
                          have HI8 : Hid (BI w wc hb s d e0 ⟨os', st.ids, N2, st.bare⟩ S7 F7 G7 X' nv' (.slice ia k ic) (.slice ba3 k bc3) ns') := I8
                          clear hend I8 hrowB0 hrowI0 hhl h8l n8 hIL hBL y0 y1 y3
                          go_upto_region 33 with fail
                          refine wp_region_G (S := SB 24 (fun W => W.cell? ⟨hb, 2, none⟩ = some (.slice ia k ic) ∧ W.cell? ⟨hb, 3, none⟩ = some (.slice ba3 k bc3)) (fun W => W.cell? ⟨B8, 2, none⟩ = some (.bool b.blob) ∧ W.cell? ⟨B8, 4, none⟩ = some (.bool true))) hmx ?_
                          have hSB : SB 24 (fun W => W.cell? ⟨hb, 2, none⟩ = some (.slice ia k ic) ∧ W.cell? ⟨hb, 3, none⟩ = some (.slice ba3 k bc3)) (fun W => W.cell? ⟨B8, 2, none⟩ = some (.bool b.blob) ∧ W.cell? ⟨B8, 4, none⟩ = some (.bool true)) (Array.replicate 28 false) wc.drew := SB.on ⟨c2, c3⟩ ⟨y2, y4⟩
                          refine wpAnyG_takeP (i := 0) (v := ?_) rfl (by kernel_rfl) (by kernel_rfl) (by kernel_rfl) (fun _ _ _ h => h) rfl (Or.inl ⟨by rfl, ?_⟩) (by assumption) ?_
                          rotate_left
                          · intro Y hY; obtain ⟨f3, f4⟩ := hY; go_simp; try with_reducible rfl
                          intro hSB0
                          simp only [Act.put, List.getElem_toArray, List.getElem_cons_zero, List.setIfInBounds_toArray, List.set_cons_zero, List.set_cons_succ]
                          refine wpAnyG_takeP (i := 1) (v := ?_) rfl (by kernel_rfl) (by kernel_rfl) (by kernel_rfl) (fun _ _ _ h => h) rfl (Or.inl ⟨by rfl, ?_⟩) (by assumption) ?_
                          rotate_left
                          · intro Y hY; obtain ⟨f3, f4⟩ := hY; go_simp; try with_reducible rfl
                          intro hSB1
                          simp only [Act.put, List.getElem_toArray, List.getElem_cons_zero, List.getElem_cons_succ, List.setIfInBounds_toArray, List.set_cons_zero, List.set_cons_succ]
                          refine wpAnyG_takeP (i := 2) (v := ?_) rfl (by kernel_rfl) (by kernel_rfl) (by kernel_rfl) (fun _ _ _ h => h) rfl (Or.inl ⟨by rfl, ?_⟩) (by assumption) ?_
                          rotate_left
                          · intro Y hY; obtain ⟨f3, f4⟩ := hY; go_simp; try with_reducible rfl
                          intro hSB2
                          simp only [Act.put, List.getElem_toArray, List.getElem_cons_zero, List.getElem_cons_succ, List.setIfInBounds_toArray, List.set_cons_zero, List.set_cons_succ]
                          refine wpAnyG_takeP (i := 3) (v := ?_) rfl (by kernel_rfl) (by kernel_rfl) (by kernel_rfl) (fun _ _ _ h => h) rfl (Or.inl ⟨by rfl, ?_⟩) (by assumption) ?_
                          rotate_left
                          · intro Y hY; obtain ⟨f3, f4⟩ := hY; go_simp; try with_reducible rfl
                          intro hSB3
                          simp only [Act.put, List.getElem_toArray, List.getElem_cons_zero, List.getElem_cons_succ, List.setIfInBounds_toArray, List.set_cons_zero, List.set_cons_succ]
                          refine wpAnyG_takeP (i := 4) (v := ?_) rfl (by kernel_rfl) (by kernel_rfl) (by kernel_rfl) (fun _ _ _ h => h) rfl (Or.inl ⟨by rfl, ?_⟩) (by assumption) ?_
                          rotate_left
                          · intro Y hY; obtain ⟨f3, f4⟩ := hY; go_simp; try with_reducible rfl
                          intro hSB4
                          simp only [Act.put, List.getElem_toArray, List.getElem_cons_zero, List.getElem_cons_succ, List.setIfInBounds_toArray, List.set_cons_zero, List.set_cons_succ]
                          refine wpAnyG_takeB (i := 5) (b := 24) (v := ?_) rfl (by kernel_rfl) (by kernel_rfl) (by kernel_rfl) (fun _ _ _ h => h) rfl (by kernel_rfl) rfl (by kernel_rfl) (Or.inl ⟨by rfl, ?_⟩) (by assumption) ?_
                          rotate_left
                          · intro Y hY; obtain ⟨⟨f1, f2⟩, f3, f4⟩ := hY; go_simp; try with_reducible rfl
                          intro hSB5
                          simp only [Act.put, List.getElem_toArray, List.getElem_cons_zero, List.getElem_cons_succ, List.setIfInBounds_toArray, List.set_cons_zero, List.set_cons_succ]
                          refine wpAnyG_takeP (i := 6) (v := ?_) rfl (by kernel_rfl) (by kernel_rfl) (by kernel_rfl) (fun _ _ _ h => h) rfl (Or.inl ⟨by rfl, ?_⟩) (by assumption) ?_
                          rotate_left
                          · intro Y hY; obtain ⟨f3, f4⟩ := hY; go_simp; try with_reducible rfl
                          intro hSB6
                          simp only [Act.put, List.getElem_toArray, List.getElem_cons_zero, List.getElem_cons_succ, List.setIfInBounds_toArray, List.set_cons_zero, List.set_cons_succ]
                          refine wpAnyG_takeP (i := 9) (v := ?_) rfl (by kernel_rfl) (by kernel_rfl) (by kernel_rfl) (fun _ _ _ h => h) rfl (Or.inl ⟨by rfl, ?_⟩) (by assumption) ?_
                          rotate_left
                          · intro Y hY; obtain ⟨f3, f4⟩ := hY; go_simp; try with_reducible rfl
                          intro hSB9
                          simp only [Act.put, List.getElem_toArray, List.getElem_cons_zero, List.getElem_cons_succ, List.setIfInBounds_toArray, List.set_cons_zero, List.set_cons_succ]
                          refine wpAnyG_takeP (i := 10) (v := ?_) rfl (by kernel_rfl) (by kernel_rfl) (by kernel_rfl) (fun _ _ _ h => h) rfl (Or.inl ⟨by rfl, ?_⟩) (by assumption) ?_
                          rotate_left
                          · intro Y hY; obtain ⟨f3, f4⟩ := hY; go_simp; try with_reducible rfl
                          intro hSB10
                          simp only [Act.put, List.getElem_toArray, List.getElem_cons_zero, List.getElem_cons_succ, List.setIfInBounds_toArray, List.set_cons_zero, List.set_cons_succ]
                          refine wpAnyG_takeP (i := 11) (v := ?_) rfl (by kernel_rfl) (by kernel_rfl) (by kernel_rfl) (fun _ _ _ h => h) rfl (Or.inl ⟨by rfl, ?_⟩) (by assumption) ?_
                          rotate_left
                          · intro Y hY; obtain ⟨f3, f4⟩ := hY; go_simp; try with_reducible rfl
                          intro hSB11
                          simp only [Act.put, List.getElem_toArray, List.getElem_cons_zero, List.getElem_cons_succ, List.setIfInBounds_toArray, List.set_cons_zero, List.set_cons_succ]
                          refine wpAnyG_takeB (i := 12) (b := 24) (v := ?_) rfl (by kernel_rfl) (by kernel_rfl) (by kernel_rfl) (fun _ _ _ h => h) rfl (by kernel_rfl) rfl (by kernel_rfl) (Or.inl ⟨by rfl, ?_⟩) (by assumption) ?_
                          rotate_left
                          · intro Y hY; obtain ⟨⟨f1, f2⟩, f3, f4⟩ := hY; go_simp; try with_reducible rfl
                          intro hSB12
                          simp only [Act.put, List.getElem_toArray, List.getElem_cons_zero, List.getElem_cons_succ, List.setIfInBounds_toArray, List.set_cons_zero, List.set_cons_succ]
                          refine wpAnyG_takeP (i := 13) (v := ?_) rfl (by kernel_rfl) (by kernel_rfl) (by kernel_rfl) (fun _ _ _ h => h) rfl (Or.inl ⟨by rfl, ?_⟩) (by assumption) ?_
                          rotate_left
                          · intro Y hY; obtain ⟨f3, f4⟩ := hY; go_simp; try with_reducible rfl
                          intro hSB13
                          simp only [Act.put, List.getElem_toArray, List.getElem_cons_zero, List.getElem_cons_succ, List.setIfInBounds_toArray, List.set_cons_zero, List.set_cons_succ]
                          refine wpAnyG_takeP (i := 14) (v := ?_) rfl (by kernel_rfl) (by kernel_rfl) (by kernel_rfl) (fun _ _ _ h => h) rfl (Or.inl ⟨by rfl, ?_⟩) (by assumption) ?_
                          rotate_left
                          · intro Y hY; obtain ⟨f3, f4⟩ := hY; go_simp; try with_reducible rfl
                          intro hSB14
                          simp only [Act.put, List.getElem_toArray, List.getElem_cons_zero, List.getElem_cons_succ, List.setIfInBounds_toArray, List.set_cons_zero, List.set_cons_succ]
                          refine wpAnyG_one (i := 7) (by kernel_rfl) rfl (fun K hK => ?_)
                          go_simp
                          refine hK.out _ _ (SB.on ⟨c2a, c3a⟩ ⟨y2a, y4a⟩) (fun hSB7 => ?_)
                          clear hK K
                          refine wpAnyG_one (i := 8) (by kernel_rfl) rfl (fun K hK => ?_)
                          refine step_push1 _ (by rfl) _ _ 28 31 i0 _ 8 (by rfl) Tryz.underlying28 hi hzz0 hzz1 hzz2 rfl (.slice ia k ic) k _ (by rfl) hrowI wc.heap.size (.int .u64 oi) (by rfl) (cell_newD wc (.int .u64 oi) 31) rfl (by unfold maxLen; omega) (by omega) ?_
                          intro v4 w4 ho4 hg4 hat4
                          obtain ⟨a4, c4, rfl, _, _⟩ := row_shapeN ho4
                          obtain ⟨c24, c24a, c34, c34a, hS4, hS4a, hrowB, HE4⟩ := HEnd1.out _ w4 ho4 hg4 hat4
                          clear ho4 hg4 hat4
                          refine hK.out _ _ (SB.on ⟨c24, c34⟩ hS4) (fun hSB8 => ?_)
                          clear hK K
                          simp only [Act.put, List.getElem_toArray, List.getElem_cons_zero, List.getElem_cons_succ, List.setIfInBounds_toArray, List.set_cons_zero, List.set_cons_succ]
                          refine wpAnyG_takeP (i := 15) (v := ?_) rfl (by kernel_rfl) (by kernel_rfl) (by kernel_rfl) (fun _ _ _ h => h) rfl (Or.inl ⟨by rfl, ?_⟩) (by assumption) ?_
                          rotate_left
                          · intro Y hY; obtain ⟨f3, f4⟩ := hY; go_simp; try with_reducible rfl
                          intro hSB15
                          simp only [Act.put, List.getElem_toArray, List.getElem_cons_zero, List.getElem_cons_succ, List.setIfInBounds_toArray, List.set_cons_zero, List.set_cons_succ]
                          refine wpAnyG_takeP (i := 16) (v := ?_) rfl (by kernel_rfl) (by kernel_rfl) (by kernel_rfl) (fun _ _ _ h => h) rfl (Or.inl ⟨by rfl, ?_⟩) (by assumption) ?_
                          rotate_left
                          · intro Y hY; obtain ⟨f3, f4⟩ := hY; go_simp; try with_reducible rfl
                          intro hSB16
                          simp only [Act.put, List.getElem_toArray, List.getElem_cons_zero, List.getElem_cons_succ, List.setIfInBounds_toArray, List.set_cons_zero, List.set_cons_succ]
                          refine wpAnyG_takeP (i := 17) (v := ?_) rfl (by kernel_rfl) (by kernel_rfl) (by kernel_rfl) (fun _ _ _ h => h) rfl (Or.inl ⟨by rfl, ?_⟩) (by assumption) ?_
                          rotate_left
                          · intro Y hY; obtain ⟨f3, f4⟩ := hY; go_simp; try with_reducible rfl
                          intro hSB17
                          simp only [Act.put, List.getElem_toArray, List.getElem_cons_zero, List.getElem_cons_succ, List.setIfInBounds_toArray, List.set_cons_zero, List.set_cons_succ]
                          refine wpAnyG_takeP (i := 18) (v := ?_) rfl (by kernel_rfl) (by kernel_rfl) (by kernel_rfl) (fun _ _ _ h => h) rfl (Or.inl ⟨by rfl, ?_⟩) (by assumption) ?_
                          rotate_left
                          · intro Y hY; obtain ⟨f3, f4⟩ := hY; go_simp; try with_reducible rfl
                          intro hSB18
                          simp only [Act.put, List.getElem_toArray, List.getElem_cons_zero, List.getElem_cons_succ, List.setIfInBounds_toArray, List.set_cons_zero, List.set_cons_succ]
                          refine wpAnyG_takeP (i := 19) (v := ?_) rfl (by kernel_rfl) (by kernel_rfl) (by kernel_rfl) (fun _ _ _ h => h) rfl (Or.inl ⟨by rfl, ?_⟩) (by assumption) ?_
                          rotate_left
                          · intro Y hY; obtain ⟨f3, f4⟩ := hY; go_simp; try with_reducible rfl
                          intro hSB19
                          simp only [Act.put, List.getElem_toArray, List.getElem_cons_zero, List.getElem_cons_succ, List.setIfInBounds_toArray, List.set_cons_zero, List.set_cons_succ]
                          refine wpAnyG_one (i := 20) (by kernel_rfl) rfl (fun K hK => ?_)
                          go_simp
                          refine hK.out _ _ (SB.on ⟨c24a, c34a⟩ hS4a) (fun hSB20 => ?_)
                          clear hK K
                          refine wpAnyG_one (i := 21) (by kernel_rfl) rfl (fun K hK => ?_)
                          refine step_push1 _ (by rfl) _ _ 65 4 j0 _ 1 (by rfl) Tryz.underlying65 hj hyy0 hyy1 hyy2 rfl (.slice ba3 k bc3) k _ (by rfl) hrowB w4.heap.size (.bool (!b.blob)) (by rfl) (cell_newP w4 (.bool (!b.blob)) 4) rfl (by unfold maxLen; omega) (by omega) ?_
                          intro v5 w5 ho5 hg5 hat5
                          obtain ⟨a5, c5, rfl, _, _⟩ := row_shapeN ho5
                          obtain ⟨d2, df2, d33, d3, df3, hS5, hS6, hS7, HE5⟩ := HE4.out _ w5 ho5 hg5 hat5
                          clear ho5 hg5 hat5
                          refine hK.out _ _ (SB.on ⟨d2, d33⟩ hS5) (fun hSB21 => ?_)
                          clear hK K
                          simp only [Act.put, List.getElem_toArray, List.getElem_cons_zero, List.getElem_cons_succ, List.setIfInBounds_toArray, List.set_cons_zero, List.set_cons_succ]
                          refine wpAnyG_takeP (i := 22) (v := ?_) rfl (by kernel_rfl) (by kernel_rfl) (by kernel_rfl) (fun _ _ _ h => h) rfl (Or.inl ⟨by rfl, ?_⟩) (by assumption) ?_
                          rotate_left
                          · intro Y hY; obtain ⟨f3, f4⟩ := hY; go_simp; try with_reducible rfl
                          intro hSB22
                          simp only [Act.put, List.getElem_toArray, List.getElem_cons_zero, List.getElem_cons_succ, List.setIfInBounds_toArray, List.set_cons_zero, List.set_cons_succ]
                          refine wpAnyG_takeP (i := 23) (v := ?_) rfl (by kernel_rfl) (by kernel_rfl) (by kernel_rfl) (fun _ _ _ h => h) rfl (Or.inl ⟨by rfl, ?_⟩) (by assumption) ?_
                          rotate_left
                          · intro Y hY; obtain ⟨f3, f4⟩ := hY; go_simp; try with_reducible rfl
                          intro hSB23
                          simp only [Act.put, List.getElem_toArray, List.getElem_cons_zero, List.getElem_cons_succ, List.setIfInBounds_toArray, List.set_cons_zero, List.set_cons_succ]
                          refine wpAnyG_one (i := 24) (by kernel_rfl) rfl (fun K hK => ?_)
                          go_simp
                          refine hK.out _ _ (SB.off (by kernel_rfl) hS6) (fun hSB24 => ?_)
                          clear hK K
                          refine wpAnyG_takeP (i := 25) (v := ?_) rfl (by kernel_rfl) (by kernel_rfl) (by kernel_rfl) (fun _ _ _ h => h) rfl (Or.inl ⟨by rfl, ?_⟩) (by assumption) ?_
                          rotate_left
                          · intro Y hY; obtain ⟨f3, f4⟩ := hY; go_simp; try with_reducible rfl
                          intro hSB25
                          simp only [Act.put, List.getElem_toArray, List.getElem_cons_zero, List.getElem_cons_succ, List.setIfInBounds_toArray, List.set_cons_zero, List.set_cons_succ]
                          refine wpAnyG_takeP (i := 26) (v := ?_) rfl (by kernel_rfl) (by kernel_rfl) (by kernel_rfl) (fun _ _ _ h => h) rfl (Or.inl ⟨by rfl, ?_⟩) (by assumption) ?_
                          rotate_left
                          · intro Y hY; obtain ⟨f3, f4⟩ := hY; go_simp; try with_reducible rfl
                          intro hSB26
                          simp only [Act.put, List.getElem_toArray, List.getElem_cons_zero, List.getElem_cons_succ, List.setIfInBounds_toArray, List.set_cons_zero, List.set_cons_succ]
                          refine wpAnyG_one (i := 27) (by kernel_rfl) rfl (fun K hK => ?_)
                          go_simp
                          refine hK.out _ _ (SB.off (by kernel_rfl) hS7) (fun hSB27 => ?_)
                          clear hK K
                          refine wpAnyG_done (by kernel_rfl) ?_ _
                          go_wp2
                          go_roundg (n - (k + 1))
                          case measure => omega
                          case rel => exact ⟨k + 1, _, _, _, _, _, _, _, _, _, by omega, by omega, by simp, rfl, HFIN.out _ HE5.out⟩
            | succ gk =>
              have hjl : j < bn := by omega
              obtain ⟨hBk, hbn, hd1, hd2, hk2⟩ := HBk.out
              have hbl := hBk.1
              obtain ⟨x, hx⟩ : ∃ x, b.back[j]? = some x := ⟨_, List.getElem?_eq_getElem (by omega)⟩
              obtain ⟨b2, o2, hba, hc2⟩ := hBk.2 (by omega)
              subst hba
              have q0 := (HR.out.I.B.cell (p := ⟨b2, o2 + j, none⟩) (World.block_lt_of_cell? w _ (hc2 j x hx))).trans (hc2 j x hx)
              have c2 := HR.out.I.c2
              have hir := HR.out.I.ir
              obtain ⟨ia, ic, hiv, hic1, hic2⟩ := row_shapeN hir
              subst hiv
              have hkl := HI1.out.2.1
              rw [hkl] at c2
              have j2 : (j : Int) < (bn : Int) := by omega
              have j3 : ¬ bn ≤ j := by omega
              by_cases hk0 : k = 0
              · subst hk0
                have HJ : Hid (j + 1 + gk = bn) := by show _ = _; omega
                have HN : Hid (BR w hb s d e0 st S F G X nv (.slice ia st.ids.length ic) bv ns B8 B9 (some ⟨b2, o2, none⟩) bn bc b wr tv pv (backsP st.ids b.back (j + 1))) := by
                  have e : backsP st.ids b.back (j + 1) = backsP st.ids b.back j := by unfold backsP; rw [if_pos hkl, if_pos hkl]
                  rw [e]; exact HR.out
                clear hc2 hx hBk hir hd1 hd2 HR hbl hkl
                go_wp2
                go_roundg gk
                case measure => omega
                case rel => exact ⟨j + 1, _, HJ.out, by simp, HN.out⟩
              · by_cases hj7 : j < 7
                · have j7 : (j : Int) < 7 := by omega
                  have kp : (0 : Int) < (k : Int) := by omega
                  obtain ⟨pa, pc, hpv, hpc1, hpc2⟩ := row_shapeN HR.out.row
                  subst hpv
                  obtain ⟨z0, z1, z2, z3, z4⟩ := five_cells HR.out.b9
                  have zf := five_frozen HR.out.b9 1
                  obtain ⟨ig, hig⟩ : ∃ ig, ia = some ⟨ig, 0, none⟩ := by
                    rcases hir.2 with ⟨h0, h1⟩ | ⟨g, cap, cur, h0, _⟩
                    · omega
                    · cases h0; exact ⟨g, rfl⟩
                  subst hig
                  obtain ⟨mk, hmk⟩ : ∃ mk, mk = (max x 0).toNat % k := ⟨_, rfl⟩
                  have hmkl : mk < k := by rw [hmk]; exact Nat.mod_lt _ (by omega)
                  obtain ⟨ix, hix⟩ : ∃ ix, ix = k - 1 - mk := ⟨_, rfl⟩
                  obtain ⟨idv, hidv⟩ : ∃ idv, st.ids[ix]? = some idv := ⟨_, List.getElem?_eq_getElem (by omega)⟩
                  have hbi : backId st.ids x = idv := by
                    unfold backId backI
                    rw [hkl, ← hmk, ← hix, hidv]
                    rfl
                  have qi : wr.cell? ⟨ig, ix, none⟩ = some (.int .u64 idv) := by
                    rw [hkl] at hir
                    rw [hir.cellAt ix (by omega), List.getElem?_map, hidv]
                    rfl
                  have hIX : IntKind.i64.wrap (IntKind.i64.wrap ((k : Int) - 1) - (if x < 0 then 0 else x).tmod (k : Int)) = (ix : Int) := by
                    have h1 : (if x < 0 then (0 : Int) else x) = (((max x 0).toNat : Nat) : Int) := by split <;> omega
                    have h2 : (((max x 0).toNat : Nat) : Int).tmod (k : Int) = (mk : Int) := by rw [hmk]; rfl
                    rw [h1, h2, show IntKind.i64.wrap ((k : Int) - 1) = (k : Int) - 1 from wrap_small (by omega) (by omega), wrap_small (by omega) (by omega)]
                    omega
                  have hix2 : (ix : Int) < (k : Int) := by omega
                  have hix3 : ix < k := by omega
                  have hix4 : (0 : Int) ≤ (ix : Int) := by omega
                  have hix5 : ¬ k ≤ ix := by omega
                  have hpl := backsP_len st.ids b.back j
                  have hstp := backsP_more st.ids b.back j _ (by omega) hj7 hx
                  rw [hbi] at hstp
                  have hrowA := ((row_low HR.out.row (Nat.zero_le _)).alloc (.cells #[.int .u64 idv] 31)).drew
                  have HBR : Hid (BR w hb s d e0 st S F G X nv (.slice (some ⟨ig, 0, none⟩) st.ids.length ic) bv ns B8 B9 (some ⟨b2, o2, none⟩) bn bc b wr tv (.slice pa (backsP st.ids b.back j).length pc) (backsP st.ids b.back j)) := HR.out
                  have h9l := lt_of_block HR.out.b9
                  have z1a : (wr.alloc (.cells #[.int .u64 idv] 31)).cell? ⟨B9, 1, none⟩ = some (.slice pa (backsP st.ids b.back j).length pc) := by
                    rw [World.cell?_of_block (w := wr) (Below.heap_alloc _ _ _ h9l)]; exact z1
                  obtain ⟨i0, hi, hzz0, hzz1, hzz2⟩ := info_parts infoIdG
                  have hend : ∀ v' w3, w3.ownsRow 0 31 1 v' ((backsP st.ids b.back j).length + 1) ((backsP st.ids b.back j).map (Value.int .u64) ++ [.int .u64 idv]) → (wr.alloc (.cells #[.int .u64 idv] 31)).drew.grownBy w3 (Value.slice pa (backsP st.ids b.back j).length pc).ownBlock → (v'.ownBlock = (Value.slice pa (backsP st.ids b.back j).length pc).ownBlock ∨ v'.ownBlock = some (wr.alloc (.cells #[.int .u64 idv] 31)).drew.heap.size) →
                      w3.cell? ⟨B9, 1, none⟩ = some (.slice pa (backsP st.ids b.back j).length pc) ∧ w3.frozen? ⟨B9, 1, none⟩ = false ∧ (w3.cell? ⟨hb, 2, none⟩ = some (.slice (some ⟨ig, 0, none⟩) k ic) ∧ w3.cell? ⟨ig, ix, none⟩ = some (.int .u64 idv)) ∧ Hid (BR w hb s d e0 st S F G X nv (.slice (some ⟨ig, 0, none⟩) st.ids.length ic) bv ns B8 B9 (some ⟨b2, o2, none⟩) bn bc b (w3.setCell ⟨B9, 1, none⟩ v') tv v' (backsP st.ids b.back (j + 1))) := by
                    intro v' w3 ho3 hg3 hat3
                    have hT3 : Turn (fun z => (Value.slice pa (backsP st.ids b.back j).length pc).ownBlock = some z) wr w3 := by
                      have h1 : Turn (fun z => (Value.slice pa (backsP st.ids b.back j).length pc).ownBlock = some z) wr (wr.alloc (.cells #[.int .u64 idv] 31)).drew := Turn.of_below _ (Below.trans ((Below.refl _ wr).alloc (Nat.le_refl _) (.cells #[.int .u64 idv] 31)) ⟨rfl, rfl, rfl, Nat.le_refl _, fun _ _ => rfl⟩)
                      exact h1.trans (Turn.of_grownBy (Fp := fun z => (Value.slice pa (backsP st.ids b.back j).length pc).ownBlock = some z) hg3 (fun z hz => .inl hz)) (fun _ _ e => e)
                    have k9 : w3.heap[B9]? = wr.heap[B9]? := hT3.block B9 h9l (fun e => (HBR.out.pn B9 e).2.2 rfl)
                    have hbk : ∀ z, v'.ownBlock = some z → (Value.slice pa (backsP st.ids b.back j).length pc).ownBlock = some z ∨ wr.heap.size ≤ z := fun z hz => hat3.elim (fun e => .inl (by rw [← e]; exact hz)) (fun e => .inr (by
                      rw [e] at hz
                      cases hz
                      show wr.heap.size ≤ (wr.alloc (.cells #[.int .u64 idv] 31)).heap.size
                      simp))
                    have hhl := World.block_lt_of_cell? wr _ c2
                    have hil := World.block_lt_of_cell? wr _ qi
                    have kh : w3.heap[hb]? = wr.heap[hb]? := hT3.block hb hhl (fun e => (HBR.out.pn hb e).1 (.inl rfl))
                    have ki : w3.heap[ig]? = wr.heap[ig]? := hT3.block ig hil (fun e => (HBR.out.pn ig e).1 (.inr (.inr (.inl rfl))))
                    refine ⟨(World.cell?_of_block k9).trans z1, (World.frozen?_of_block k9).trans zf, ⟨(World.cell?_of_block kh).trans c2, (World.cell?_of_block ki).trans qi⟩, ?_⟩
                    rw [hstp]
                    refine HBR.out.app idv v' (row_high ho3 fun z hz => ?_) hT3 hbk
                    rcases hbk z hz with h | h
                    · exact (HBR.out.row.lt z h).1
                    · have := HBR.out.I.B.size; omega
                  have HEnd : Hid _ := hend
                  have nb1 : B9 ≠ hb := fun e => HBR.out.n9 (.inl e)
                  have nb2 : B9 ≠ ig := fun e => HBR.out.n9 (.inr (.inr (.inl (by rw [e]; rfl))))
                  have nb3 : hb ≠ B9 := fun e => nb1 e.symm
                  have nb4 : ig ≠ B9 := fun e => nb2 e.symm
                  have HJ : Hid (j + 1 + gk = bn) := by show _ = _; omega
                  clear hc2 hx hBk hir hd1 hd2 hmk hix hidv hbi hstp hend HR hbl hmkl h9l hpc1 hpc2 hic1 hic2 hk24 hkl
                  generalize hPL : (backsP st.ids b.back j).length = PL at *
                  have HPL : Hid ((backsP st.ids b.back j).length = PL) := hPL
                  clear hPL
                  go_wp2
                  have hmx : Tryz.prog.follows .mixedOrders = true := by kernel_rfl
                  have c2a : (wr.alloc (.cells #[.int .u64 idv] 31)).cell? ⟨hb, 2, none⟩ = some (.slice (some ⟨ig, 0, none⟩) k ic) := by
                    rw [World.cell?_of_block (w := wr) (Below.heap_alloc _ _ _ (World.block_lt_of_cell? wr _ c2))]; exact c2
                  have qia : (wr.alloc (.cells #[.int .u64 idv] 31)).cell? ⟨ig, ix, none⟩ = some (.int .u64 idv) := by
                    rw [World.cell?_of_block (w := wr) (Below.heap_alloc _ _ _ (World.block_lt_of_cell? wr _ qi))]; exact qi
                  refine wp_region_G (S := SB 26 (fun W => W.cell? ⟨hb, 2, none⟩ = some (.slice (some ⟨ig, 0, none⟩) k ic) ∧ W.cell? ⟨ig, ix, none⟩ = some (.int .u64 idv) ∧ W.cell? ⟨B9, 1, none⟩ = some (.slice pa PL pc)) (fun _ => True)) hmx ?_
                  have hSB : SB 26 (fun W => W.cell? ⟨hb, 2, none⟩ = some (.slice (some ⟨ig, 0, none⟩) k ic) ∧ W.cell? ⟨ig, ix, none⟩ = some (.int .u64 idv) ∧ W.cell? ⟨B9, 1, none⟩ = some (.slice pa PL pc)) (fun _ => True) (Array.replicate 27 false) wr.drew := SB.on ⟨c2, qi, z1⟩ trivial
                  refine wpAnyG_takeB (i := 0) (b := 26) (v := ?_) rfl (by kernel_rfl) (by kernel_rfl) (by kernel_rfl) (fun _ _ _ h => h) rfl (by kernel_rfl) rfl (by kernel_rfl) (Or.inl ⟨by rfl, ?_⟩) (by assumption) ?_
                  rotate_left
                  · intro Y hY; obtain ⟨⟨f1, f2, f3⟩, _⟩ := hY; go_simp; try with_reducible rfl
                  intro hSB0
                  simp only [Act.put, List.getElem_toArray, List.getElem_cons_zero, List.setIfInBounds_toArray, List.set_cons_zero, List.set_cons_succ]
                  refine wpAnyG_takeB (i := 1) (b := 26) (v := ?_) rfl (by kernel_rfl) (by kernel_rfl) (by kernel_rfl) (fun _ _ _ h => h) rfl (by kernel_rfl) rfl (by kernel_rfl) (Or.inl ⟨by rfl, ?_⟩) (by assumption) ?_
                  rotate_left
                  · intro Y hY; obtain ⟨⟨f1, f2, f3⟩, _⟩ := hY; go_simp; try with_reducible rfl
                  intro hSB1
                  simp only [Act.put, List.getElem_toArray, List.getElem_cons_zero, List.getElem_cons_succ, List.setIfInBounds_toArray, List.set_cons_zero, List.set_cons_succ]
                  refine wpAnyG_takeB (i := 2) (b := 26) (v := ?_) rfl (by kernel_rfl) (by kernel_rfl) (by kernel_rfl) (fun _ _ _ h => h) rfl (by kernel_rfl) rfl (by kernel_rfl) (Or.inl ⟨by rfl, ?_⟩) (by assumption) ?_
                  rotate_left
                  · intro Y hY; obtain ⟨⟨f1, f2, f3⟩, _⟩ := hY; go_simp; try with_reducible rfl
                  intro hSB2
                  simp only [Act.put, List.getElem_toArray, List.getElem_cons_zero, List.getElem_cons_succ, List.setIfInBounds_toArray, List.set_cons_zero, List.set_cons_succ]
                  refine wpAnyG_takeB (i := 3) (b := 26) (v := ?_) rfl (by kernel_rfl) (by kernel_rfl) (by kernel_rfl) (fun _ _ _ h => h) rfl (by kernel_rfl) rfl (by kernel_rfl) (Or.inl ⟨by rfl, ?_⟩) (by assumption) ?_
                  rotate_left
                  · intro Y hY; obtain ⟨⟨f1, f2, f3⟩, _⟩ := hY; go_simp; try with_reducible rfl
                  intro hSB3
                  simp only [Act.put, List.getElem_toArray, List.getElem_cons_zero, List.getElem_cons_succ, List.setIfInBounds_toArray, List.set_cons_zero, List.set_cons_succ]
                  refine wpAnyG_takeB (i := 4) (b := 26) (v := ?_) rfl (by kernel_rfl) (by kernel_rfl) (by kernel_rfl) (fun _ _ _ h => h) rfl (by kernel_rfl) rfl (by kernel_rfl) (Or.inl ⟨by rfl, ?_⟩) (by assumption) ?_
                  rotate_left
                  · intro Y hY; obtain ⟨⟨f1, f2, f3⟩, _⟩ := hY; go_simp; try with_reducible rfl
                  intro hSB4
                  simp only [Act.put, List.getElem_toArray, List.getElem_cons_zero, List.getElem_cons_succ, List.setIfInBounds_toArray, List.set_cons_zero, List.set_cons_succ]
                  refine wpAnyG_takeB (i := 5) (b := 26) (v := ?_) rfl (by kernel_rfl) (by kernel_rfl) (by kernel_rfl) (fun _ _ _ h => h) rfl (by kernel_rfl) rfl (by kernel_rfl) (Or.inl ⟨by rfl, ?_⟩) (by assumption) ?_
                  rotate_left
                  · intro Y hY; obtain ⟨⟨f1, f2, f3⟩, _⟩ := hY; go_simp; try with_reducible rfl
                  intro hSB5
                  simp only [Act.put, List.getElem_toArray, List.getElem_cons_zero, List.getElem_cons_succ, List.setIfInBounds_toArray, List.set_cons_zero, List.set_cons_succ]
                  refine wpAnyG_takeB (i := 6) (b := 26) (v := ?_) rfl (by kernel_rfl) (by kernel_rfl) (by kernel_rfl) (fun _ _ _ h => h) rfl (by kernel_rfl) rfl (by kernel_rfl) (Or.inl ⟨by rfl, ?_⟩) (by assumption) ?_
                  rotate_left
                  · intro Y hY; obtain ⟨⟨f1, f2, f3⟩, _⟩ := hY; go_simp; try with_reducible rfl
                  intro hSB6
                  simp only [Act.put, List.getElem_toArray, List.getElem_cons_zero, List.getElem_cons_succ, List.setIfInBounds_toArray, List.set_cons_zero, List.set_cons_succ]
                  refine wpAnyG_takeB (i := 7) (b := 26) (v := ?_) rfl (by kernel_rfl) (by kernel_rfl) (by kernel_rfl) (fun _ _ _ h => h) rfl (by kernel_rfl) rfl (by kernel_rfl) (Or.inl ⟨by rfl, ?_⟩) (by assumption) ?_
                  rotate_left
                  · intro Y hY; obtain ⟨⟨f1, f2, f3⟩, _⟩ := hY; go_simp; try with_reducible rfl
                  intro hSB7
                  simp only [Act.put, List.getElem_toArray, List.getElem_cons_zero, List.getElem_cons_succ, List.setIfInBounds_toArray, List.set_cons_zero, List.set_cons_succ]
                  refine wpAnyG_takeB (i := 8) (b := 26) (v := ?_) rfl (by kernel_rfl) (by kernel_rfl) (by kernel_rfl) (fun _ _ _ h => h) rfl (by kernel_rfl) rfl (by kernel_rfl) (Or.inl ⟨by rfl, ?_⟩) (by assumption) ?_
                  rotate_left
                  · intro Y hY; obtain ⟨⟨f1, f2, f3⟩, _⟩ := hY; go_simp; try with_reducible rfl
                  intro hSB8
                  simp only [Act.put, List.getElem_toArray, List.getElem_cons_zero, List.getElem_cons_succ, List.setIfInBounds_toArray, List.set_cons_zero, List.set_cons_succ]
                  refine wpAnyG_takeB (i := 9) (b := 26) (v := ?_) rfl (by kernel_rfl) (by kernel_rfl) (by kernel_rfl) (fun _ _ _ h => h) rfl (by kernel_rfl) rfl (by kernel_rfl) (Or.inl ⟨by rfl, ?_⟩) (by assumption) ?_
                  rotate_left
                  · intro Y hY; obtain ⟨⟨f1, f2, f3⟩, _⟩ := hY; go_simp; try with_reducible rfl
                  intro hSB9
                  simp only [Act.put, List.getElem_toArray, List.getElem_cons_zero, List.getElem_cons_succ, List.setIfInBounds_toArray, List.set_cons_zero, List.set_cons_succ]
                  refine wpAnyG_takeB (i := 10) (b := 26) (v := ?_) rfl (by kernel_rfl) (by kernel_rfl) (by kernel_rfl) (fun _ _ _ h => h) rfl (by kernel_rfl) rfl (by kernel_rfl) (Or.inl ⟨by rfl, ?_⟩) (by assumption) ?_
                  rotate_left
                  · intro Y hY; obtain ⟨⟨f1, f2, f3⟩, _⟩ := hY; go_simp; try with_reducible rfl
                  intro hSB10
                  simp only [Act.put, List.getElem_toArray, List.getElem_cons_zero, List.getElem_cons_succ, List.setIfInBounds_toArray, List.set_cons_zero, List.set_cons_succ]
                  refine wpAnyG_takeB (i := 11) (b := 26) (v := ?_) rfl (by kernel_rfl) (by kernel_rfl) (by kernel_rfl) (fun _ _ _ h => h) rfl (by kernel_rfl) rfl (by kernel_rfl) (Or.inl ⟨by rfl, ?_⟩) (by assumption) ?_
                  rotate_left
                  · intro Y hY; obtain ⟨⟨f1, f2, f3⟩, _⟩ := hY; go_simp; try with_reducible rfl
                  intro hSB11
                  simp only [Act.put, List.getElem_toArray, List.getElem_cons_zero, List.getElem_cons_succ, List.setIfInBounds_toArray, List.set_cons_zero, List.set_cons_succ]
                  refine wpAnyG_takeB (i := 12) (b := 26) (v := ?_) rfl (by kernel_rfl) (by kernel_rfl) (by kernel_rfl) (fun _ _ _ h => h) rfl (by kernel_rfl) rfl (by kernel_rfl) (Or.inl ⟨by rfl, ?_⟩) (by assumption) ?_
                  rotate_left
                  · intro Y hY; obtain ⟨⟨f1, f2, f3⟩, _⟩ := hY; go_simp; try with_reducible rfl
                  intro hSB12
                  simp only [Act.put, List.getElem_toArray, List.getElem_cons_zero, List.getElem_cons_succ, List.setIfInBounds_toArray, List.set_cons_zero, List.set_cons_succ]
                  refine wpAnyG_takeB (i := 13) (b := 26) (v := ?_) rfl (by kernel_rfl) (by kernel_rfl) (by kernel_rfl) (fun _ _ _ h => h) rfl (by kernel_rfl) rfl (by kernel_rfl) (Or.inl ⟨by rfl, ?_⟩) (by assumption) ?_
                  rotate_left
                  · intro Y hY; obtain ⟨⟨f1, f2, f3⟩, _⟩ := hY; go_simp; try with_reducible rfl
                  intro hSB13
                  simp only [Act.put, List.getElem_toArray, List.getElem_cons_zero, List.getElem_cons_succ, List.setIfInBounds_toArray, List.set_cons_zero, List.set_cons_succ]
                  refine wpAnyG_takeB (i := 14) (b := 26) (v := ?_) rfl (by kernel_rfl) (by kernel_rfl) (by kernel_rfl) (fun _ _ _ h => h) rfl (by kernel_rfl) rfl (by kernel_rfl) (Or.inl ⟨by rfl, ?_⟩) (by assumption) ?_
                  rotate_left
                  · intro Y hY; obtain ⟨⟨f1, f2, f3⟩, _⟩ := hY; go_simp; try with_reducible rfl
                  intro hSB14
                  simp only [Act.put, List.getElem_toArray, List.getElem_cons_zero, List.getElem_cons_succ, List.setIfInBounds_toArray, List.set_cons_zero, List.set_cons_succ]
                  refine wpAnyG_takeB (i := 15) (b := 26) (v := ?_) rfl (by kernel_rfl) (by kernel_rfl) (by kernel_rfl) (fun _ _ _ h => h) rfl (by kernel_rfl) rfl (by kernel_rfl) (Or.inl ⟨by rfl, ?_⟩) (by assumption) ?_
                  rotate_left
                  · intro Y hY; obtain ⟨⟨f1, f2, f3⟩, _⟩ := hY; go_simp; try with_reducible rfl
                  intro hSB15
                  simp only [Act.put, List.getElem_toArray, List.getElem_cons_zero, List.getElem_cons_succ, List.setIfInBounds_toArray, List.set_cons_zero, List.set_cons_succ]
                  refine wpAnyG_takeB (i := 16) (b := 26) (v := ?_) rfl (by kernel_rfl) (by kernel_rfl) (by kernel_rfl) (fun _ _ _ h => h) rfl (by kernel_rfl) rfl (by kernel_rfl) (Or.inl ⟨by rfl, ?_⟩) (by assumption) ?_
                  rotate_left
                  · intro Y hY; obtain ⟨⟨f1, f2, f3⟩, _⟩ := hY; go_simp; try with_reducible rfl
                  intro hSB16
                  simp only [Act.put, List.getElem_toArray, List.getElem_cons_zero, List.getElem_cons_succ, List.setIfInBounds_toArray, List.set_cons_zero, List.set_cons_succ]
                  refine wpAnyG_takeB (i := 17) (b := 26) (v := ?_) rfl (by kernel_rfl) (by kernel_rfl) (by kernel_rfl) (fun _ _ _ h => h) rfl (by kernel_rfl) rfl (by kernel_rfl) (Or.inl ⟨by rfl, ?_⟩) (by assumption) ?_
                  rotate_left
                  · intro Y hY; obtain ⟨⟨f1, f2, f3⟩, _⟩ := hY; go_simp; try with_reducible rfl
                  intro hSB17
                  simp only [Act.put, List.getElem_toArray, List.getElem_cons_zero, List.getElem_cons_succ, List.setIfInBounds_toArray, List.set_cons_zero, List.set_cons_succ]
                  refine wpAnyG_takeB (i := 18) (b := 26) (v := ?_) rfl (by kernel_rfl) (by kernel_rfl) (by kernel_rfl) (fun _ _ _ h => h) rfl (by kernel_rfl) rfl (by kernel_rfl) (Or.inl ⟨by rfl, ?_⟩) (by assumption) ?_
                  rotate_left
                  · intro Y hY; obtain ⟨⟨f1, f2, f3⟩, _⟩ := hY; go_simp; try with_reducible rfl
                  intro hSB18
                  simp only [Act.put, List.getElem_toArray, List.getElem_cons_zero, List.getElem_cons_succ, List.setIfInBounds_toArray, List.set_cons_zero, List.set_cons_succ]
                  refine wpAnyG_takeB (i := 19) (b := 26) (v := ?_) rfl (by kernel_rfl) (by kernel_rfl) (by kernel_rfl) (fun _ _ _ h => h) rfl (by kernel_rfl) rfl (by kernel_rfl) (Or.inl ⟨by rfl, ?_⟩) (by assumption) ?_
                  rotate_left
                  · intro Y hY; obtain ⟨⟨f1, f2, f3⟩, _⟩ := hY; go_simp; try with_reducible rfl
                  intro hSB19
                  simp only [Act.put, List.getElem_toArray, List.getElem_cons_zero, List.getElem_cons_succ, List.setIfInBounds_toArray, List.set_cons_zero, List.set_cons_succ]
                  refine wpAnyG_takeB (i := 20) (b := 26) (v := ?_) rfl (by kernel_rfl) (by kernel_rfl) (by kernel_rfl) (fun _ _ _ h => h) rfl (by kernel_rfl) rfl (by kernel_rfl) (Or.inl ⟨by rfl, ?_⟩) (by assumption) ?_
                  rotate_left
                  · intro Y hY; obtain ⟨⟨f1, f2, f3⟩, _⟩ := hY; go_simp; try with_reducible rfl
                  intro hSB20
                  simp only [Act.put, List.getElem_toArray, List.getElem_cons_zero, List.getElem_cons_succ, List.setIfInBounds_toArray, List.set_cons_zero, List.set_cons_succ]
                  refine wpAnyG_takeB (i := 21) (b := 26) (v := ?_) rfl (by kernel_rfl) (by kernel_rfl) (by kernel_rfl) (fun _ _ _ h => h) rfl (by kernel_rfl) rfl (by kernel_rfl) (Or.inl ⟨by rfl, ?_⟩) (by assumption) ?_
                  rotate_left
                  · intro Y hY; obtain ⟨⟨f1, f2, f3⟩, _⟩ := hY; go_simp; try with_reducible rfl
                  intro hSB21
                  simp only [Act.put, List.getElem_toArray, List.getElem_cons_zero, List.getElem_cons_succ, List.setIfInBounds_toArray, List.set_cons_zero, List.set_cons_succ]
                  refine wpAnyG_takeB (i := 22) (b := 26) (v := ?_) rfl (by kernel_rfl) (by kernel_rfl) (by kernel_rfl) (fun _ _ _ h => h) rfl (by kernel_rfl) rfl (by kernel_rfl) (Or.inl ⟨by rfl, ?_⟩) (by assumption) ?_
                  rotate_left
                  · intro Y hY; obtain ⟨⟨f1, f2, f3⟩, _⟩ := hY; go_simp; try with_reducible rfl
                  intro hSB22
                  simp only [Act.put, List.getElem_toArray, List.getElem_cons_zero, List.getElem_cons_succ, List.setIfInBounds_toArray, List.set_cons_zero, List.set_cons_succ]
                  refine wpAnyG_one (i := 23) (by kernel_rfl) rfl (fun K hK => ?_)
                  go_simp
                  refine hK.out _ _ (SB.on ⟨c2a, qia, z1a⟩ trivial) (fun hSB23 => ?_)
                  clear hK K
                  refine wpAnyG_one (i := 24) (by kernel_rfl) rfl (fun K hK => ?_)
                  refine step_push1 _ (by rfl) _ _ 28 31 i0 _ 8 (by rfl) Tryz.underlying28 hi hzz0 hzz1 hzz2 rfl (.slice pa PL pc) PL _ (by rfl) hrowA wr.heap.size (.int .u64 idv) (by rfl) (cell_newD wr (.int .u64 idv) 31) rfl (by unfold maxLen; omega) (by omega) ?_
                  intro v' w3 ho3 hg3 hat3
                  obtain ⟨a4, c4, rfl, _, _⟩ := row_shapeN ho3
                  obtain ⟨hx0', hx1', hS3, hF3⟩ := HEnd.out _ w3 ho3 hg3 hat3
                  refine hK.out _ _ (SB.on ⟨hS3.1, hS3.2, hx0'⟩ trivial) (fun hSB24 => ?_)
                  clear ho3 hg3 hat3
                  clear hK K
                  simp only [Act.put, List.getElem_toArray, List.getElem_cons_zero, List.getElem_cons_succ, List.setIfInBounds_toArray, List.set_cons_zero, List.set_cons_succ]
                  refine wpAnyG_takeP (i := 25) (v := ?_) rfl (by kernel_rfl) (by kernel_rfl) (by kernel_rfl) (fun _ _ _ h => h) rfl (Or.inl ⟨by rfl, ?_⟩) (by assumption) ?_
                  rotate_left
                  · intro Y hY; go_simp; try with_reducible rfl
                  intro hSB25
                  simp only [Act.put, List.getElem_toArray, List.getElem_cons_zero, List.getElem_cons_succ, List.setIfInBounds_toArray, List.set_cons_zero, List.set_cons_succ]
                  refine wpAnyG_one (i := 26) (by kernel_rfl) rfl (fun K hK => ?_)
                  go_simp
                  refine hK.out _ _ (SB.off (by kernel_rfl) trivial) (fun hSB26 => ?_)
                  clear hK K
                  refine wpAnyG_done (by kernel_rfl) ?_ _
                  go_wp2
                  all_goals (
                    go_roundg gk
                    case measure => omega
                    case rel => exact ⟨j + 1, _, HJ.out, by simp, hF3.out⟩)
                · have j7 : ¬ (j : Int) < 7 := by omega
                  have kp : (0 : Int) < (k : Int) := by omega
                  have HJ : Hid (j + 1 + gk = bn) := by show _ = _; omega
                  have HN : Hid (BR w hb s d e0 st S F G X nv (.slice ia st.ids.length ic) bv ns B8 B9 (some ⟨b2, o2, none⟩) bn bc b wr tv pv (backsP st.ids b.back (j + 1))) := by
                    have e : backsP st.ids b.back (j + 1) = backsP st.ids b.back j := by unfold backsP; rw [show min (j + 1) 7 = min j 7 by omega]
                    rw [e]; exact HR.out
                  clear hc2 hx hBk hir hd1 hd2 HR hbl hkl
                  go_wp2
                  go_roundg gk
                  case measure => omega
                  case rel => exact ⟨j + 1, _, HJ.out, by simp, HN.out⟩
    · obtain rfl : k = n := by omega
      have i2 : ¬ (k : Int) < (k : Int) := by omega
      have e0' : (l.take 24).drop k = [] := List.drop_of_length_le (by rw [List.length_take]; omega)
      have HEn : Hid (E = some st) := by have h := HR.out.1; rw [e0'] at h; exact h
      have HBB : Hid (BI w wr hb s d e0 st S F G X nv iv bv ns ∧ st.os.length ≤ 25 ∧ st.ids.length ≤ 24 ∧ st.nodes.length ≤ 24) := ⟨HR.out.2.1, by have := HR.out.2.2.2.1; omega, by have := HR.out.2.2.1; omega, by have := HR.out.2.2.2.2.1; omega⟩
      clear HR e0'
      go_wp2
      go_ret2
      rw [HEn.out]
      exact ⟨HBB.out.1.B, hb, s, d, S, F, G, X, nv, iv, bv, ns, rfl, by rw [← HE0.out]; exact HBB.out.1, HBB.out.2⟩
end Go.Proofs.YtncagdfbgpdhfaaGreat
