import Derived.Test.YtiafhbpklddlnaaGreatDoorE13
import Derived.Test.YtiafhbpklddlnaaGreatDoorE12
import Derived.Test.YtiafhbpklddlnaaGreatDoorE26
import Derived.Test.YtiafhbpklddlnaaGreatDoorE27
import Derived.Test.YtiafhbpklddlnaaGreatDoorE24
import Derived.Test.YtiafhbpklddlnaaGreatDoorE09
/- The walk of the document's reading of a short form: it answers the same function of the bytes as the program's. -/
namespace Go.Proofs.YtiafhbpklddlnaaGreatDoor
open Go.RowKit

set_option maxHeartbeats 1000000 in
theorem number_any (a : Option Addr) (n cap : Nat) (l : List UInt8) (w : World) (hb : Bytes w a n l) (hm : n ≤ maxLen) :
    Calls Tryz.prog 71 #[.slice a n cap] w fun e w' => e = .returned (.tuple #[.int .u64 (num l).1, .int .i64 (num l).2.1, .int .i64 (num l).2.2]) ∧ w' = w := by
  unfold maxLen at hm
  obtain ⟨hl, hc⟩ := hb
  have HN : Hid (num l = numFrom l (n - 0) 0) := by show num l = _; unfold num; rw [hl]; rfl
  go_enter Tryz.func71, Tryz.ntmps71
  go_wp2
  go_loop [5, 6, 7] (fun x s i => ∃ k : Nat, k ≤ n ∧ k ≤ 9 ∧ i = .int .i64 k ∧ x = .int .u64 (accTo l k) ∧ s = .int .u64 (128 ^ k) ∧ Hid (num l = numFrom l (n - k) k)) (fun _ _ i => n - (intOf i).toNat)
  case atStart => exact ⟨0, Nat.zero_le _, by omega, rfl, rfl, rfl, HN⟩
  case round =>
    clear HN
    obtain ⟨k, hk, hk9, rfl, rfl, rfl, HN⟩ := hrel
    by_cases hlt : k < n
    · obtain ⟨b, off, rfl, hcell⟩ := hc (by omega)
      have hck := hcell k hlt
      have b0 := bt_lo l k
      have b1 := bt_hi l k
      have h0 := accTo_lo l k
      clear hcell hc hl
      have HS : Hid (accTo l k + bt l k % 128 * 128 ^ k = accTo l (k + 1)) := (accTo_succ l k).symm
      have HF : Hid (k ≤ 9 → (k = 9 → bt l k ≤ 1) → (0 ≤ bt l k % 128 * 128 ^ k ∧ bt l k % 128 * 128 ^ k ≤ 9223372036854775808) ∧ (0 ≤ accTo l k + bt l k % 128 * 128 ^ k ∧ accTo l k + bt l k % 128 * 128 ^ k ≤ 18446744073709551615)) :=
        fun h1 h2 => ⟨group_fits (bt l k) k b0 h1 h2, add_step l (bt l k) k b0 h1 h2⟩
      have NB : Hid (brokenB k (bt l k) = true → num l = (0, 0, 8)) := num_broken HN.out hlt
      have NL : Hid (brokenB k (bt l k) = false → bt l k < 128 → num l = (accTo l (k + 1), k + 1, 0)) := num_last HN.out hlt
      have NN : Hid (brokenB k (bt l k) = false → ¬ bt l k < 128 → num l = numFrom l (n - (k + 1)) (k + 1)) := num_next HN.out hlt
      have P8 : Hid (k ≤ 8 → (128 : Int) ^ k ≤ 72057594037927936) := pow128_8 k
      have P0 : (0 : Int) ≤ 128 ^ k := Int.pow_nonneg (by omega)
      have PS : Hid ((128 : Int) ^ k * 128 = 128 ^ (k + 1)) := (Int.pow_succ 128 k).symm
      clear HN
      generalize bt l k = c at *
      generalize hpw : (128 : Int) ^ k = P at *
      clear hpw
      by_cases h9 : k = 9
      · have k9 : ((k : Int) == 9) = true := by simp; omega
        have kp : 0 < k := by omega
        have H9 : Hid (k = 9) := h9
        clear h9
        by_cases hc1 : 1 < c
        · go_wp2
          go_ret3
          exact ⟨ret3_of (NB.out (by have := H9.out; simp [brokenB]; omega)) (by omega), rfl⟩
        · by_cases hz : c = 0
          · subst hz
            go_wp2
            go_ret3
            exact ⟨ret3_of (NB.out (by have := H9.out; simp [brokenB]; omega)) (by omega), rfl⟩
          · have cz : (c == 0) = false := by simpa using hz
            have h8 : c < 128 := by omega
            have F := HF.out hk9 (fun _ => by omega)
            have e1 : IntKind.u64.wrap (c % 128 * P) = c % 128 * P := wraps64 _ F.1.1 (by omega)
            have e2 : IntKind.u64.wrap (accTo l k + c % 128 * P) = accTo l k + c % 128 * P := wraps64 _ F.2.1 (by omega)
            clear F
            go_wp2
            go_ret3
            exact ⟨ret3_of (by rw [NL.out (by have := H9.out; simp [brokenB]; omega) h8, HS.out]; congr 2) (by omega), rfl⟩
      · have k9 : ((k : Int) == 9) = false := by simp; omega
        have F := HF.out (by omega) (fun _ => by omega)
        have e1 : IntKind.u64.wrap (c % 128 * P) = c % 128 * P := wraps64 _ F.1.1 (by omega)
        have e2 : IntKind.u64.wrap (accTo l k + c % 128 * P) = accTo l k + c % 128 * P := wraps64 _ F.2.1 (by omega)
        have p8 := P8.out (by omega)
        clear F
        by_cases hk0 : ¬ 0 < k
        · by_cases h8 : c < 128
          · go_wp2
            go_ret3
            exact ⟨ret3_of (by rw [NL.out (by simp [brokenB]; omega) h8, HS.out]; congr 2) (by omega), rfl⟩
          · go_wp2
            go_round
            case rel => exact ⟨k + 1, by omega, by omega, by go_num, by rw [HS.out], by rw [← PS.out], NN.out (by simp [brokenB]; omega) h8⟩
            case measure => simp [intOf]; omega
        · have kp : 0 < k := by omega
          by_cases hz : c = 0
          · subst hz
            go_wp2
            go_ret3
            exact ⟨ret3_of (NB.out (by simp [brokenB]; omega)) (by omega), rfl⟩
          · have cz : (c == 0) = false := by simpa using hz
            by_cases h8 : c < 128
            · go_wp2
              go_ret3
              exact ⟨ret3_of (by rw [NL.out (by simp [brokenB]; omega) h8, HS.out]; congr 2) (by omega), rfl⟩
            · go_wp2
              go_round
              case rel => exact ⟨k + 1, by omega, by omega, by go_num, by rw [HS.out], by rw [← PS.out], NN.out (by simp [brokenB]; omega) h8⟩
              case measure => simp [intOf]; omega
    · have NS := num_short HN.out hlt
      clear HN
      have NS' : Hid (num l = (0, 0, 110)) := NS
      clear NS
      go_wp2
      go_ret3
      exact ⟨ret3_of (by rw [NS'.out]; rfl) (by omega), rfl⟩
end Go.Proofs.YtiafhbpklddlnaaGreatDoor

/- Plain: what the document's own reading of a file's bytes tells of its first record is what rec1 says. Nothing of the program is named here. -/
namespace Go.Proofs.YtiafhbpklddlnaaGreatDoor
open Go.RowKit

theorem wideVal_inj (t u : List UInt8) : ∀ k, wideVal t k = wideVal u k → ∀ i, i < k → bt t i = bt u i := by
  intro k
  induction k with
  | zero => intro _ i hi; omega
  | succ k ih =>
    intro h i hi
    rw [wideVal_succ, wideVal_succ] at h
    have a0 := bt_lo t k
    have a1 := bt_hi t k
    have b0 := bt_lo u k
    have b1 := bt_hi u k
    by_cases e : i = k
    · subst e; omega
    · exact ih (by omega) i (by omega)

theorem bt_ext {t u : List UInt8} (hl : t.length = u.length) (h : ∀ i, i < t.length → bt t i = bt u i) : t = u := by
  refine List.ext_getElem hl fun i h1 h2 => ?_
  have := h i h1
  simp only [bt, List.getD, List.getElem?_eq_getElem h1, List.getElem?_eq_getElem h2, Option.getD_some] at this
  exact UInt8.toNat_inj.1 (by omega)

theorem wide_back (t : List UInt8) (ht : t.length = 8) (X : Nat) (hX : X < 18446744073709551616) (h : wideVal t 8 = (X : Int)) : t = wide X := by
  have hw := wideVal_wide X [] 8 (by omega) (by omega)
  rw [List.append_nil] at hw
  have e : wideVal t 8 = wideVal (wide X) 8 := by rw [h, hw]; simp
  exact bt_ext (by rw [ht, wide_len]) (fun i hi => wideVal_inj t (wide X) 8 e i (by omega))

theorem rec1_a {l : List UInt8} (h : (num l).2.2 = 110) : rec1 l = .short := by
  unfold rec1; rw [txt_num l 262144 (by decide) (by rw [h]; decide), h]; simp
theorem rec1_b {l : List UInt8} (h : (num l).2.2 ≠ 110) (h0 : (num l).2.2 ≠ 0) : rec1 l = .wrong := by
  unfold rec1; rw [txt_num l 262144 (by decide) h0]; simp [h, h0]
theorem rec1_c {l : List UInt8} (h0 : (num l).2.2 = 0) (h : 262144 < (num l).1) : rec1 l = .wrong := by
  unfold rec1; rw [txt_long l 262144 (by decide) h0 h]; simp
theorem rec1_d {l : List UInt8} {X k : Nat} (hn : num l = ((X : Int), k, 0)) (h : X ≤ 262144) (hs : l.length - k < X + 8) : rec1 l = .short := by
  by_cases h2 : l.length - k < X
  · unfold rec1; rw [txt_short l 262144 (by decide) (by rw [hn]) (by rw [hn]; simp only; omega) (by rw [hn]; simp only; omega)]; simp
  · have hle := num_le l
    rw [hn] at hle
    simp only at hle
    unfold rec1
    rw [txt_ok l 262144 (by decide) (by rw [hn]) (by rw [hn]; simp only; omega) (by rw [hn]; simp only; omega), hn]
    simp only
    rw [if_neg (by decide), if_neg (by simp), if_pos (by simp; omega)]

theorem recB_at {l : List UInt8} {X k : Nat} (hn : num l = ((X : Int), k, 0)) (hs : X + 8 ≤ l.length - k) : ((l.drop k).take X).length = X ∧ short X = l.take k ∧ (recB ((l.drop k).take X)).length = k + X + 8 ∧ k ≤ l.length ∧ 1 ≤ k := by
  obtain ⟨X', e, h1, h2, h3, h4, _⟩ := num_back l _ _ hn
  have e' : X' = X := by omega
  subst e'
  have hp : ((l.drop k).take X').length = X' := by rw [List.length_take, List.length_drop]; omega
  exact ⟨hp, h1, by rw [recB_len, hp, h1, List.length_take]; omega, h4, h2⟩

theorem rec1_e {l : List UInt8} {X k : Nat} (hn : num l = ((X : Int), k, 0)) (h : X ≤ 262144) (hs : X + 8 ≤ l.length - k) (he : recB ((l.drop k).take X) = l.take (k + X + 8)) : rec1 l = .one ((l.drop k).take X) (k + X + 8) := by
  obtain ⟨hp, _, hr, _⟩ := recB_at hn hs
  have hl : l = recB ((l.drop k).take X) ++ l.drop (k + X + 8) := by rw [he, List.take_append_drop]
  have := rec1_rec ((l.drop k).take X) (l.drop (k + X + 8)) (by omega)
  rw [← hl, hr] at this
  exact this

theorem rec1_f {l : List UInt8} {X k : Nat} (hn : num l = ((X : Int), k, 0)) (h : X ≤ 262144) (hs : X + 8 ≤ l.length - k) (he : recB ((l.drop k).take X) ≠ l.take (k + X + 8)) : rec1 l = .wrong := by
  obtain ⟨hp, hsh, hr, hk, _⟩ := recB_at hn hs
  have ht : txt l 262144 = (k, k + X, 0) := by
    rw [txt_ok l 262144 (by decide) (by rw [hn]) (by rw [hn]; simp only; omega) (by rw [hn]; simp only; omega), hn]; simp
  have hpay : pay1 l = (l.drop k).take X := by
    unfold pay1; rw [ht]; simp only; rw [List.drop_take]; congr 1; omega
  unfold rec1
  rw [hpay, ht]
  simp only
  rw [if_neg (by decide), if_neg (by simp), if_neg (by omega), if_pos]
  intro hw
  apply he
  have h8 := wide_back ((l.drop (k + X)).take 8) (by rw [List.length_take, List.length_drop]; omega) _ (hashN_lt _) hw
  unfold recB
  rw [hp, hsh, ← h8]
  have e1 : l.take (k + X + 8) = l.take k ++ ((l.drop k).take X ++ (l.drop (k + X)).take 8) := by
    rw [List.take_add, List.take_add, List.append_assoc]
  exact e1.symm

end Go.Proofs.YtiafhbpklddlnaaGreatDoor

/- The walk of the look whether a Journal has just these records, where it has. -/
namespace Go.Proofs.YtiafhbpklddlnaaGreatDoor
open Go.RowKit Go.Shelf

attribute [local go_sem] Oper.semAt_some

/-- a slice of n slices of bytes that leads to these lists -/
def Slices (w : World) (a : Option Addr) (n : Nat) (ls : List (List UInt8)) : Prop :=
  ls.length = n ∧ ∀ k, k < n → ∃ b off x m c, a = some ⟨b, off, none⟩ ∧ w.cell? ⟨b, off + k, none⟩ = some (.slice x m c) ∧ Bytes w x m (rc ls k)

theorem Slices.turn {w w' : World} {a : Option Addr} {n : Nat} {ls : List (List UInt8)} (h : Slices w a n ls) (hB : Below w.heap.size w w') : Slices w' a n ls := by
  refine ⟨h.1, fun k hk => ?_⟩
  obtain ⟨b, off, x, m, c, h1, h2, h3⟩ := h.2 k hk
  exact ⟨b, off, x, m, c, h1, (hB.cell (p := ⟨b, off + k, none⟩) (World.block_lt_of_cell? w _ h2)).trans h2, (Turn.of_below (fun _ => False) hB).bytes h3 (fun _ _ _ => id)⟩

end Go.Proofs.YtiafhbpklddlnaaGreatDoor

/- A list of slices of bytes, none at the end of its room. -/
namespace Go.Proofs.YtiafhbpklddlnaaGreatDoor
open Go.RowKit

/-- v is a row of slices that lead to these lists; their bytes lie below B -/
def DoneC (B : Nat) (w : World) (v : Value) (ds : List (List UInt8)) : Prop :=
  ∃ xs, w.ownsRow 0 33 1 v ds.length xs ∧ (∀ g, v.ownBlock = some g → B ≤ g) ∧ ∀ i, i < ds.length → ∃ x m c, xs[i]? = some (.slice x m c) ∧ Bytes w x m (rc ds i) ∧ ((0 < m → ∀ y, x = some y → y.block < B) ∧ m < c ∧ c ≤ maxLen)

theorem DoneC.nil (B : Nat) (w : World) : DoneC B w (.slice none 0 0) [] := ⟨[], World.ownsRow_nil _ _ _ _, by simp [Value.ownBlock], fun i hi => by simp at hi⟩

theorem DoneC.turn {B : Nat} {w w' : World} {v : Value} {ds : List (List UInt8)} {Q : Nat → Prop} (h : DoneC B w v ds) (hT : Turn Q w w') (hQ : ∀ k, Q k → B ≤ k) (hv : ∀ g, v.ownBlock = some g → ¬ Q g) : DoneC B w' v ds := by
  obtain ⟨xs, h1, h2, h3⟩ := h
  refine ⟨xs, ownsRow_move' h1 (fun g hg => hT.block g (h1.lt g hg).2 (hv g hg)), h2, fun i hi => ?_⟩
  obtain ⟨x, m, c, e, hb, hx⟩ := h3 i hi
  exact ⟨x, m, c, e, hT.bytes hb (fun h0 y hy hq => by have := hx.1 h0 y hy; have := hQ _ hq; omega), hx⟩
theorem DoneC.below {B : Nat} {w w' : World} {v : Value} {ds : List (List UInt8)} (h : DoneC B w v ds) (hB : Below w.heap.size w w') : DoneC B w' v ds :=
  h.turn (Turn.of_below (fun _ => False) hB) (fun _ h => h.elim) (fun _ _ => id)

/-- one list more -/
theorem DoneC.push {B : Nat} {w w' : World} {v v' : Value} {ds : List (List UInt8)} {xs : List Value} {x : Option Addr} {m c : Nat} {l : List UInt8} (h1 : w.ownsRow 0 33 1 v ds.length xs) (h2 : ∀ g, v.ownBlock = some g → B ≤ g)
    (h3 : ∀ i, i < ds.length → ∃ x m c, xs[i]? = some (.slice x m c) ∧ Bytes w x m (rc ds i) ∧ ((0 < m → ∀ y, x = some y → y.block < B) ∧ m < c ∧ c ≤ maxLen))
    (hb : Bytes w x m l) (hx : (0 < m → ∀ y, x = some y → y.block < B) ∧ m < c ∧ c ≤ maxLen) (hBw : B ≤ w.heap.size) (hown : w'.ownsRow 0 33 1 v' (ds.length + 1) (xs ++ [.slice x m c])) (hg : w.grownBy w' v.ownBlock) (hat : v'.ownBlock = v.ownBlock ∨ v'.ownBlock = some w.heap.size) : DoneC B w' v' (ds ++ [l]) := by
  have hxl : xs.length = ds.length := by have := h1.1; omega
  have keep : ∀ {y : Option Addr} {k : Nat} {q : List UInt8}, Bytes w y k q → (0 < k → ∀ z, y = some z → z.block < B) → Bytes w' y k q := fun hy hz => ⟨hy.1, fun h0 => by
    obtain ⟨b, off, e, hc⟩ := hy.2 h0
    refine ⟨b, off, e, fun i hi => hg.cell (hc i hi) (fun e' => ?_)⟩
    have h1 := hz h0 _ e
    have h4 := h2 _ e'.symm
    simp only at h1 h4
    omega⟩
  refine ⟨xs ++ [.slice x m c], by rw [List.length_append, List.length_singleton]; exact hown, fun g hg' => ?_, fun i hi => ?_⟩
  · rcases hat with e | e
    · exact h2 g (by rw [← e]; exact hg')
    · rw [e] at hg'
      have : w.heap.size = g := by simpa using hg'
      omega
  · rw [List.length_append, List.length_singleton] at hi
    by_cases e : i = ds.length
    · subst e
      exact ⟨x, m, c, by rw [← hxl, List.getElem?_append_right (Nat.le_refl _)]; simp, by rw [rc_last]; exact keep hb hx.1, hx⟩
    · obtain ⟨y, k, d, e1, hy, hz⟩ := h3 i (by omega)
      exact ⟨y, k, d, by rw [List.getElem?_append_left (by omega)]; exact e1, by rw [rc_snoc _ _ _ (by omega)]; exact keep hy hz.1, hz⟩
end Go.Proofs.YtiafhbpklddlnaaGreatDoor
