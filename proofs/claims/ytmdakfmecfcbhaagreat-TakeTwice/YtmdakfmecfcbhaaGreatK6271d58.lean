/- 4 texts in one. -/
import Derived.Test.YtmdakfmecfcbhaaGreatProg
import Derived.Test.YtmdakfmecfcbhaaGreatK7e06493
import Derived.Test.YtmdakfmecfcbhaaGreatK85cc7d6
set_option linter.unusedVariables false
set_option linter.unusedSimpArgs false
namespace Go.Proofs.YtmdakfmecfcbhaaGreat
open Go.RowKit
attribute [local go_sem] bs_size bs_toList bs_append bs_get bs_extract
theorem Tryz.info5 : (Tryz.prog.info? 5).map (fun i => (i.zero, i.size, i.bytes)) = some (some (.int .u8 0), 1, 1) := by kernel_rfl
set_option maxRecDepth 20000 in
set_option maxHeartbeats 400000 in
theorem number_any (n : Nat) (w : World) (hn : n < 18446744073709551616) :
    Calls Tryz.prog 35 #[.int .u64 n] w fun e w' => e = .returned (.string (bs (numB n))) ∧ Below w.heap.size w w' := by
  obtain ⟨i0, hi, hz0, hz1, hz2⟩ := info_parts Tryz.info5
  have HN : Hid (n < 128^(9+1)) := by show n < 128^(9+1); omega
  clear hn
  go_enter Tryz.func35, Tryz.ntmps35
  go_wp2
  go_loopw [0, 3] (fun n3 v wr => ∃ (f n' : Nat) (done : List UInt8), Hid (numB n = done ++ numF f n' ∧ n' < 128^(f+1)) ∧ n3 = .int .u64 n' ∧ wr.ownsRow w.heap.size 5 1 v done.length (bytesV done) ∧ Below w.heap.size w wr) (fun n3 _ _ => (intOf n3).toNat)
  case atStart => exact ⟨9, n, [], ⟨rfl, HN⟩, rfl, World.ownsRow_nil _ _ _ _, Below.refl _ _⟩
  case round =>
    obtain ⟨f, n', done, hlt, rfl, hown, hb⟩ := hrel
    have hlen : done.length ≤ 9 := by
      have h1 := congrArg List.length hlt.out.1
      have h2 := numB_length n
      have h3 := numF_length f n'
      simp at h1
      omega
    have hsz := hb.size
    by_cases h : n' < 128
    · have h' : (n' : Int) < 128 := by omega
      go_wp2_with (at_builtin; refine wpList_append_own _ rfl _ _ 63 rfl w.heap.size 5 i0 (.int .u8 0) 1 1 Tryz.underlying63 hi hz0 hz1 hz2 rfl (by decide) _ done.length (bytesV done) rfl (hown.alloc _) ⟨wr.heap.size, 0, none⟩ 1 1 (bytesV [UInt8.ofNat n']) rfl rfl (bcell _ _ _ _ (ofNat_toNat _ (by omega))) (bytesV_oneCell _) (by unfold maxLen; omega) (by omega) (by simp; omega) ?_; intro v' w1 hown' hgrow _; rw [← bytesV_append] at hown'; have hcv := run_bytesStr (P := Tryz.prog) Tryz.underlying63 Tryz.underlying5 Tryz.underlying9 (l := done ++ [UInt8.ofNat n']) (by simpa using hown'))
      go_ret
      exact ⟨by rw [hlt.out.1, numF_small _ _ h]; rfl, (hb.alloc hsz _).grown hgrow (by simp; omega) (fun k hk => (hown.lt k hk).1)⟩
    · have h' : ¬ (n' : Int) < 128 := by omega
      have ho := or128 n'
      obtain ⟨g, rfl⟩ : ∃ g, f = g + 1 := by
        cases f with
        | zero => have := hlt.out.2; omega
        | succ g => exact ⟨g, rfl⟩
      go_wp2_with (at_builtin; refine wpList_append_own _ rfl _ _ 63 rfl w.heap.size 5 i0 (.int .u8 0) 1 1 Tryz.underlying63 hi hz0 hz1 hz2 rfl (by decide) _ done.length (bytesV done) rfl (hown.alloc _) ⟨wr.heap.size, 0, none⟩ 1 1 (bytesV [hiByte n']) rfl rfl (bcell _ _ _ _ (by rw [hiByte_toNat]; first | rfl | omega)) (bytesV_oneCell _) (by unfold maxLen; omega) (by omega) (by simp; omega) ?_; intro v' w1 hown' hgrow _; rw [← bytesV_append] at hown')
      go_roundw
      case rel => exact ⟨g, n' / 128, done ++ [hiByte n'], ⟨by rw [hlt.out.1, numF_big _ _ h]; simp, by have := hlt.out.2; rw [Nat.pow_succ] at this; omega⟩, by go_num, by simpa using hown', (hb.alloc hsz _).grown hgrow (by simp; omega) (fun k hk => (hown.lt k hk).1)⟩
      case measure => simp [intOf]; omega
set_option maxHeartbeats 400000 in
theorem numberSize_any (l : List UInt8) (w : World) (hs : l.length ≤ maxLen) :
    Calls Tryz.prog 61 #[.string (bs l)] w fun e w' => e = .returned (.int .i64 (numSize l)) ∧ w' = w := by
  unfold maxLen at hs
  go_enter Tryz.func61, Tryz.ntmps61
  go_wp2
  go_loop [3] (fun i => ∃ k : Nat, k ≤ l.length ∧ i = .int .i64 k ∧ Hid (∀ j (hj : j < l.length), j < k → ¬ (l[j].toNat : Int) < 128)) (fun i => l.length - (intOf i).toNat)
  case atStart => exact ⟨0, Nat.zero_le _, rfl, fun j _ h => by omega⟩
  case round =>
    obtain ⟨k, hk, rfl, H⟩ := hrel
    by_cases hlt : k < l.length
    · by_cases hc : (l[k].toNat : Int) < 128
      · have hr : Hid (numSize l = k + 1) := numSize_hit l k hlt H.out hc
        go_wp2
        go_ret
        exact ⟨ret_int (by rw [hr.out]; simp), rfl⟩
      · go_wp2
        go_round
        case rel => exact ⟨k + 1, by omega, by go_num, fun j hj h => by
          by_cases e : j = k
          · subst e; exact hc
          · exact H.out j hj (by omega)⟩
        case measure => simp [intOf]; omega
    · have hr : Hid (numSize l = 0) := numSize_miss l (fun j hj => H.out j hj (by omega))
      go_wp2
      go_ret
      exact ⟨ret_int (by rw [hr.out]; simp), rfl⟩
theorem readNum_none {l : List UInt8} (h : numSize l = 0) : readNum l = (0, 0, 1) := by simp [readNum, h]
theorem readNum_long {l : List UInt8} (h0 : ¬ numSize l = 0) (h : 10 < numSize l ∨ (numSize l = 10 ∧ 1 < (l.getD 9 0).toNat)) : readNum l = (0, 0, 3) := by simp only [readNum, h0, h, if_false, if_true]
theorem readNum_ok {l : List UInt8} (h0 : ¬ numSize l = 0) (h : ¬ (10 < numSize l ∨ (numSize l = 10 ∧ 1 < (l.getD 9 0).toNat))) : readNum l = (numVal (l.take (numSize l)), numSize l, 0) := by simp only [readNum, h0, h, if_false]
set_option maxRecDepth 20000 in
set_option maxHeartbeats 400000 in
theorem readNumber_any (l : List UInt8) (w : World) (hs : l.length ≤ maxLen) :
    Calls Tryz.prog 34 #[.string (bs l)] w fun e w' => e = .returned (.tuple #[.int .u64 (readNum l).1, .int .i64 (readNum l).2.1, .int .i64 (readNum l).2.2]) ∧ w' = w := by
  have hs' := hs
  unfold maxLen at hs
  have hle := numSize_le l
  obtain ⟨z, HZ⟩ : ∃ z, Hid (numSize l = z) := ⟨_, rfl⟩
  rw [HZ.out] at hle
  go_enter Tryz.func34, Tryz.ntmps34
  by_cases h0 : z = 0
  · subst h0
    go_wp2_with (go_at_call 61; refine (numberSize_any l _ hs').mono ?_; rintro e w' ⟨rfl, rfl⟩; rw [HZ.out])
    go_ret3
    exact ⟨by rw [readNum_none HZ.out]; rfl, rfl⟩
  · have h0' : ((z : Int) == 0) = false := by simp; omega
    by_cases h10 : 10 < z
    · have h10' : (10 : Int) < (z : Int) := by omega
      go_wp2_with (go_at_call 61; refine (numberSize_any l _ hs').mono ?_; rintro e w' ⟨rfl, rfl⟩; rw [HZ.out])
      go_ret3
      exact ⟨by rw [readNum_long (by rw [HZ.out]; exact h0) (by rw [HZ.out]; exact .inl h10)]; rfl, rfl⟩
    · have h10' : ¬ (10 : Int) < (z : Int) := by omega
      have HT : Hid ((l.take (numSize l)).length = z) := by show _ = _; rw [List.length_take, HZ.out]; omega
      have HG : Hid (∀ j (hj : j < z) (hl : j < l.length), (l.take (numSize l))[j]'(by rw [HT.out]; exact hj) = l[j]) := fun j hj hl => List.getElem_take ..
      by_cases h1 : z = 10 ∧ 1 < (l.getD 9 0).toNat
      · obtain ⟨h1, h9⟩ := h1
        subst h1
        have h9' : (1 : Int) < (l[9].toNat : Int) := by rw [getD_get _ _ (by omega)] at h9; omega
        have H9 : Hid (1 < (l.getD 9 0).toNat) := h9
        clear h9
        go_wp2_with (go_at_call 61; refine (numberSize_any l _ hs').mono ?_; rintro e w' ⟨rfl, rfl⟩; rw [HZ.out])
        go_ret3
        exact ⟨by rw [readNum_long (by rw [HZ.out]; omega) (.inr ⟨HZ.out, H9.out⟩)]; rfl, rfl⟩
      · have HO : Hid (readNum l = (numVal (l.take (numSize l)), numSize l, 0)) := readNum_ok (by rw [HZ.out]; exact h0) (by rw [HZ.out]; omega)
        have HV : Hid (numVal (l.take (numSize l)) < 18446744073709551616) := by
          by_cases h : z = 10
          · exact numVal_ten _ (by rw [HT.out]; exact h) (by rw [List.getD_eq_getElem?_getD, List.getElem?_take_of_lt (by rw [HZ.out]; omega), ← List.getD_eq_getElem?_getD]; exact fun h9 => h1 ⟨h, h9⟩)
          · exact numVal_nine _ (by rw [HT.out]; omega)
        have HB : Hid (z = 10 → ¬ (1 < (l.getD 9 0).toNat)) := fun h h9 => h1 ⟨h, h9⟩
        clear h1
        generalize l.take (numSize l) = T at HT HG HO HV
        by_cases h : z = 10
        · subst h
          have h9' : ¬ (1 : Int) < (l[9].toNat : Int) := by have := HB.out rfl; rw [getD_get _ _ (by omega)] at this; omega
          clear HB
          go_wp2_with (go_at_call 61; refine (numberSize_any l _ hs').mono ?_; rintro e w' ⟨rfl, rfl⟩; rw [HZ.out])
          go_loop [6, 7] (fun n i => ∃ (k : Int) (N : Nat), -1 ≤ k ∧ k < 10 ∧ i = .int .i64 k ∧ n = .int .u64 N ∧ Hid (N = numVal (T.drop (k + 1).toNat))) (fun _ i => (intOf i + 1).toNat)
          case atStart => exact ⟨9, 0, by omega, by omega, rfl, rfl, by show _ = _; rw [List.drop_eq_nil_of_le (by rw [HT.out]; omega)]; rfl⟩
          case round =>
            obtain ⟨k, N, hk1, hk2, rfl, rfl, HN⟩ := hrel
            by_cases hk : 0 ≤ k
            · obtain ⟨j, rfl⟩ := Int.eq_ofNat_of_zero_le hk
              have hjl : j < l.length := by omega
              have HD : Hid (bits .or .u64 (IntKind.u64.wrap ((N : Int) * 128)) (IntKind.u64.wrap (bits .and .u8 (l[j].toNat : Int) 127)) = ((numVal (T.drop j) : Nat) : Int)) := by
                have := digit_step T j (by rw [HT.out]; omega) HV.out
                rw [HG.out j (by omega) hjl] at this
                rw [HN.out]; exact this
              go_wp2
              go_roundw
              case rel => exact ⟨(j : Int) - 1, numVal (T.drop j), by omega, by omega, rfl, by rw [HD.out], by show _ = _; rw [show ((j : Int) - 1 + 1).toNat = j from by omega]⟩
              case measure => simp [intOf]
            · go_wp2
              go_ret3
              obtain rfl : k = -1 := by omega
              exact ⟨by rw [HO.out, HN.out, HZ.out]; rfl, rfl⟩
        · have h' : ((z : Int) == 10) = false := by simp; omega
          have H : Hid (¬ z = 10) := h
          have H0 : Hid (¬ z = 0) := h0
          clear HB h h0
          go_wp2_with (go_at_call 61; refine (numberSize_any l _ hs').mono ?_; rintro e w' ⟨rfl, rfl⟩; rw [HZ.out])
          go_loop [6, 7] (fun n i => ∃ (k : Int) (N : Nat), -1 ≤ k ∧ k < z ∧ i = .int .i64 k ∧ n = .int .u64 N ∧ Hid (N = numVal (T.drop (k + 1).toNat))) (fun _ i => (intOf i + 1).toNat)
          case atStart => exact ⟨(z : Int) - 1, 0, by omega, by omega, rfl, rfl, by show _ = _; rw [List.drop_eq_nil_of_le (by rw [HT.out]; omega)]; rfl⟩
          case round =>
            obtain ⟨k, N, hk1, hk2, rfl, rfl, HN⟩ := hrel
            by_cases hk : 0 ≤ k
            · obtain ⟨j, rfl⟩ := Int.eq_ofNat_of_zero_le hk
              have hjl : j < l.length := by omega
              have HD : Hid (bits .or .u64 (IntKind.u64.wrap ((N : Int) * 128)) (IntKind.u64.wrap (bits .and .u8 (l[j].toNat : Int) 127)) = ((numVal (T.drop j) : Nat) : Int)) := by
                have := digit_step T j (by rw [HT.out]; omega) HV.out
                rw [HG.out j (by omega) hjl] at this
                rw [HN.out]; exact this
              go_wp2
              go_roundw
              case rel => exact ⟨(j : Int) - 1, numVal (T.drop j), by omega, by omega, rfl, by rw [HD.out], by show _ = _; rw [show ((j : Int) - 1 + 1).toNat = j from by omega]⟩
              case measure => simp [intOf]
            · go_wp2
              go_ret3
              obtain rfl : k = -1 := by omega
              exact ⟨by rw [HO.out, HN.out, HZ.out]; rfl, rfl⟩
/-- A panic with one of the program's errors. -/
abbrev gaveUp (e : Int) : Ending := .panicked [{ v := .iface 24 (.int .i64 e), recovered := false }]
theorem most_ok (n m : Int) (w : World) (h : n ≤ m) :
    Calls Tryz.prog 64 #[.int .i64 n, .int .i64 m] w fun e w' => e = .returned (.tuple #[]) ∧ w' = w := by
  go_enter Tryz.func64, Tryz.ntmps64
  have h' : ¬ m < n := by omega
  go_wp2
  go_end0
  exact ⟨rfl, rfl⟩
theorem most_no (n m : Int) (w : World) (h : m < n) :
    Calls Tryz.prog 64 #[.int .i64 n, .int .i64 m] w fun e w' => e = gaveUp 2 ∧ w' = w := by
  go_enter Tryz.func64, Tryz.ntmps64
  go_wp2
  exact ⟨rfl, rfl, rfl⟩
/-- Below block B nothing has turned, but for block b. -/
structure KeptX (B b : Nat) (w w' : World) : Prop where
  os : w'.os = w.os
  tape : w'.tape = w.tape
  output : w'.output = w.output
  size : w.heap.size ≤ w'.heap.size
  block : ∀ k, k < B → k ≠ b → w'.heap[k]? = w.heap[k]?
theorem KeptX.refl (B b : Nat) (w : World) : KeptX B b w w := ⟨rfl, rfl, rfl, Nat.le_refl _, fun _ _ _ => rfl⟩
theorem KeptX.trans {B b : Nat} {a c d : World} (h : KeptX B b a c) (k : KeptX B b c d) : KeptX B b a d :=
  ⟨k.os.trans h.os, k.tape.trans h.tape, k.output.trans h.output, Nat.le_trans h.size k.size, fun i hi hn => (k.block i hi hn).trans (h.block i hi hn)⟩
theorem keptX_of {B b : Nat} {w w' : World} (h : Below B w w') : KeptX B b w w' := ⟨h.os, h.tape, h.output, h.size, fun k hk _ => h.block k hk⟩
theorem KeptX.below {B b A : Nat} {w w' : World} (h : KeptX B b w w') (h1 : A ≤ B) (h2 : A ≤ b) : Below A w w' := ⟨h.os, h.tape, h.output, h.size, fun k hk => h.block k (by omega) (by omega)⟩
theorem KeptX.setCell {B b : Nat} {w w' : World} (h : KeptX B b w w') (v : Value) : KeptX B b w (w'.setCell ⟨b, 0, none⟩ v) :=
  ⟨h.os, h.tape, h.output, by simpa [World.setCell] using h.size, fun k hk hn => (Below.heap_setCell _ _ _ _ hn).trans (h.block k hk hn)⟩
theorem KeptX.get {B b : Nat} {w w' : World} (h : KeptX B b w w') {k : Nat} {o : Obj} (hk : w.heap[k]? = some o) (h1 : k < B) (h2 : k ≠ b) : w'.heap[k]? = some o := (h.block k h1 h2).trans hk
/-- Block b is a writer that holds the bytes l; its row is among the blocks from B on. -/
def holdsW (w : World) (B b : Nat) (l : List UInt8) : Prop :=
  B ≤ w.heap.size ∧ ∃ v, w.heap[b]? = some (.cells #[v] 65 (0, 0)) ∧ w.ownsRow B 5 1 v l.length (bytesV l)
/-- What a writer's method does: it writes some bytes, or gives up where there would be too many. -/
def wrote (B b : Nat) (l out : List UInt8) (w : World) (e : Ending) (w' : World) : Prop :=
  KeptX B b w w' ∧ ((l.length + out.length ≤ 20000 ∧ e = .returned (.tuple #[]) ∧ holdsW w' B b (l ++ out)) ∨ (20000 < l.length + out.length ∧ e = gaveUp 2))
set_option maxRecDepth 20000 in
set_option maxHeartbeats 400000 in
theorem add_any (w : World) (B b : Nat) (l s : List UInt8) (hh : holdsW w B b l) (hl : l.length ≤ 20000) (hs : s.length ≤ 1000000) :
    Calls Tryz.prog 114 #[.pointer (some ⟨b, 0, none⟩), .string (bs s)] w (wrote B b l s w) := by
  obtain ⟨i0, hi, hz0, hz1, hz2⟩ := info_parts Tryz.info5
  obtain ⟨hB, v, hb, hown⟩ := hh
  have hc := cell_of_one hb
  have hf := free_of_one hb
  have hlt := lt_of_block hb
  have hne := own_apart hown hb (by decide)
  obtain ⟨ao, cp, rfl⟩ := own_shape hown
  go_enter Tryz.func114, Tryz.ntmps114
  by_cases hfit : l.length + s.length ≤ 20000
  · go_wp2_with (first
      | (go_at_call 64; refine (most_ok _ _ _ (by omega)).mono ?_; rintro e w' ⟨rfl, rfl⟩)
      | (at_builtin; refine Lib.wpList_append_own_string _ rfl _ _ 63 9 rfl B 5 i0 Tryz.underlying63 Tryz.underlying9 hi hz0 hz1 hz2 _ l.length (bytesV l) rfl hown (bs s) rfl (by rw [bs_size]; unfold maxLen; omega) (by rw [bs_size]; omega) (by omega) ?_; intro v' w1 hown' hgrow _; obtain ⟨ao', cp', rfl⟩ := own_shape hown'; have hb1 := grown_block hgrow hb hne; have hc1 := cell_of_one hb1; have hf1 := free_of_one hb1; clear hc hf))
    go_end0
    have hbel : Below B w' w1 := (Below.refl B w').grown hgrow (by omega) (fun k hk => (hown.lt k hk).1)
    rw [bs_size, strCells_bs, ← bytesV_append] at hown'
    refine ⟨(keptX_of hbel).setCell _, .inl ⟨hfit, rfl, by have := hbel.size; simp [World.setCell]; omega, _, one_setCell hb1, ?_⟩⟩
    rw [List.length_append]
    exact ownsRow_setCell_other hown' (own_apart hown' hb1 (by decide)) _
  · go_wp2_with (go_at_call 64; refine (most_no _ _ _ (by omega)).mono ?_; rintro e w' ⟨rfl, rfl⟩)
    exact ⟨rfl, KeptX.refl _ _ _, .inr ⟨by omega, rfl⟩⟩
/-- Two writes behind one another are one. -/
theorem wrote_trans {B b : Nat} {l o1 o2 : List UInt8} {w w1 w2 : World} {e : Ending} (h1 : KeptX B b w w1) (hl : l.length + o1.length ≤ 20000) (h2 : wrote B b (l ++ o1) o2 w1 e w2) : wrote B b l (o1 ++ o2) w e w2 := by
  obtain ⟨hb, h⟩ := h2
  refine ⟨h1.trans hb, ?_⟩
  rcases h with ⟨h3, h4, h5⟩ | ⟨h3, h4⟩
  · exact .inl ⟨by simp at h3 ⊢; omega, h4, by rw [← List.append_assoc]; exact h5⟩
  · exact .inr ⟨by simp at h3 ⊢; omega, h4⟩
theorem wrote_gone {B b : Nat} {l o1 o2 : List UInt8} {w w1 : World} (h1 : KeptX B b w w1) (hl : 20000 < l.length + o1.length) : wrote B b l (o1 ++ o2) w (gaveUp 2) w1 := ⟨h1, .inr ⟨by simp; omega, rfl⟩⟩
theorem holdsW_le {w : World} {B b : Nat} {l : List UInt8} (h : holdsW w B b l) : B ≤ w.heap.size := by
  exact h.1
theorem holdsW_below {w w' : World} {B b : Nat} {l : List UInt8} (h : holdsW w B b l) {B' : Nat} (hb : Below B' w w') (hB : w.heap.size ≤ B') : holdsW w' B b l := by
  obtain ⟨h0, v, h1, h2⟩ := h
  refine ⟨by have := hb.size; omega, v, below_block hb h1 (by have := lt_of_block h1; omega), ?_⟩
  obtain ⟨h3, h4⟩ := h2
  refine ⟨h3, ?_⟩
  rcases h4 with h4 | ⟨g, cap, cur, r1, r2, r3, r4⟩
  · exact .inl h4
  · exact .inr ⟨g, cap, cur, r1, r2, below_block hb r3 (by have := lt_of_block r3; omega), r4⟩
set_option maxRecDepth 20000 in
set_option maxHeartbeats 400000 in
theorem number_w (w : World) (B b n : Nat) (l : List UInt8) (hh : holdsW w B b l) (hl : l.length ≤ 20000) (hn : n < 18446744073709551616) :
    Calls Tryz.prog 93 #[.pointer (some ⟨b, 0, none⟩), .int .u64 n] w (wrote B b l (numB n) w) := by
  have HN : Hid (n < 18446744073709551616) := hn
  clear hn
  have hlen := numB_length n
  go_enter Tryz.func93, Tryz.ntmps93
  go_wp2_with (first
    | (go_at_call 35; refine (number_any n _ HN.out).mono ?_; rintro e w1 ⟨rfl, hb1⟩; have hh1 := holdsW_below hh hb1 (Nat.le_refl _))
    | (go_at_call 114; refine (add_any _ B b l (numB n) hh1 hl (by omega)).mono ?_; rintro e w2 ⟨hb2, (⟨h1, rfl, hh2⟩ | ⟨h1, rfl⟩)⟩))
  · go_end0
    exact ⟨(keptX_of (hb1.mono (holdsW_le hh))).trans hb2, .inl ⟨h1, rfl, hh2⟩⟩
  · exact ⟨rfl, (keptX_of (hb1.mono (holdsW_le hh))).trans hb2, .inr ⟨h1, rfl⟩⟩
/-- What 'bytes' writes. -/
def fieldB (h : Nat) (s : List UInt8) : List UInt8 := numB h ++ (numB s.length ++ s)
set_option maxRecDepth 20000 in
set_option maxHeartbeats 400000 in
theorem bytes_w (w : World) (B b h : Nat) (l s : List UInt8) (hh : holdsW w B b l) (hl : l.length ≤ 20000) (hs : s.length ≤ 1000000) (hn : h < 1000) :
    Calls Tryz.prog 90 #[.pointer (some ⟨b, 0, none⟩), .int .u64 h, .string (bs s)] w (wrote B b l (fieldB h s) w) := by
  go_enter Tryz.func90, Tryz.ntmps90
  go_wp2_with fail
  refine (number_w w B b h l hh hl (by omega)).mono ?_
  rintro e w1 ⟨hb1, (⟨h1, rfl, hh1⟩ | ⟨h1, rfl⟩)⟩
  · go_wp2_with fail
    refine (number_w w1 B b s.length _ hh1 (by simpa using h1) (by omega)).mono ?_
    rintro e w2 ⟨hb2, (⟨h2, rfl, hh2⟩ | ⟨h2, rfl⟩)⟩
    · go_wp2_with fail
      refine (add_any w2 B b _ s hh2 (by simp at h2 ⊢; omega) hs).mono ?_
      rintro e w3 ⟨hb3, (⟨h3, rfl, hh3⟩ | ⟨h3, rfl⟩)⟩
      · go_wp2
        go_end0
        exact wrote_trans hb1 h1 (wrote_trans hb2 h2 ⟨hb3, .inl ⟨h3, rfl, hh3⟩⟩)
      · exact ⟨rfl, wrote_trans hb1 h1 (wrote_trans hb2 h2 ⟨hb3, .inr ⟨h3, rfl⟩⟩)⟩
    · exact ⟨rfl, wrote_trans hb1 h1 (wrote_gone hb2 h2)⟩
  · exact ⟨rfl, wrote_gone hb1 h1⟩
set_option maxRecDepth 20000 in
set_option maxHeartbeats 1000000 in
theorem eight_w (w : World) (B b n : Nat) (l : List UInt8) (hh : holdsW w B b l) (hl : l.length ≤ 20000) (hn : n < 18446744073709551616) :
    Calls Tryz.prog 94 #[.pointer (some ⟨b, 0, none⟩), .int .u64 n] w (wrote B b l (wordB n) w) := by
  have HN : Hid (n < 18446744073709551616) := hn
  clear hn
  go_enter Tryz.func94, Tryz.ntmps94
  go_wp2
  refine wp_loop_rounds 9 ?_
  iterate 8 (rw [rounds_succ]; go_wp2)
  rw [rounds_succ]
  have hcv := word_conv (P := Tryz.prog) w n Tryz.underlying63 Tryz.underlying5 Tryz.underlying9 137
  go_wp2_with fail
  have hbel : Below w.heap.size w (w.alloc (.cells #[.int .u8 ((n : Int) % 256), .int .u8 ((n : Int) / 256 % 256), .int .u8 ((n : Int) / 65536 % 256), .int .u8 ((n : Int) / 16777216 % 256), .int .u8 ((n : Int) / 4294967296 % 256), .int .u8 ((n : Int) / 1099511627776 % 256), .int .u8 ((n : Int) / 281474976710656 % 256), .int .u8 ((n : Int) / 72057594037927936 % 256)] 137)) := (Below.refl _ _).alloc (Nat.le_refl _) _
  refine (add_any _ B b l (wordB n) (holdsW_below hh hbel (Nat.le_refl _)) hl (by rw [wordB_length]; omega)).mono ?_
  rintro e w2 ⟨hb2, (⟨h1, rfl, hh2⟩ | ⟨h1, rfl⟩)⟩
  · go_wp2
    go_end0
    exact ⟨(keptX_of (hbel.mono (holdsW_le hh))).trans hb2, .inl ⟨h1, rfl, hh2⟩⟩
  · exact ⟨rfl, (keptX_of (hbel.mono (holdsW_le hh))).trans hb2, .inr ⟨h1, rfl⟩⟩
theorem holdsW_new (w : World) : holdsW (w.alloc (.cells #[.slice none 0 0] 65)) w.heap.size w.heap.size [] :=
  ⟨by simp, _, heap_alloc_new w _, World.ownsRow_nil _ _ _ _⟩
set_option maxRecDepth 20000 in
set_option maxHeartbeats 1000000 in
/-- 'within': what the function value writes into a new writer, as a field of bytes. -/
theorem within_w (w : World) (B b h : Nat) (l inner : List UInt8) (g : Nat) (cap : Array Value) (hh : holdsW w B b l) (hl : l.length ≤ 20000) (hn : h < 1000)
    (hcf : ∀ (args : Array Value) (w : World), (callFunc g args).run Tryz.prog w = .ok (.enter g args) w)
    (hfill : Calls Tryz.prog g (#[.pointer (some ⟨w.heap.size, 0, none⟩)] ++ cap) (w.alloc (.cells #[.slice none 0 0] 65)) (wrote w.heap.size w.heap.size [] inner (w.alloc (.cells #[.slice none 0 0] 65)))) :
    Calls Tryz.prog 65 #[.pointer (some ⟨b, 0, none⟩), .int .u64 h, .func (.func g) #[] cap] w (wrote B b l (fieldB h inner) w) := by
  have HF := hide hfill
  clear hfill
  go_enter Tryz.func65, Tryz.ntmps65
  go_wp2_with fail
  refine HF.out.mono ?_
  clear HF hcf
  rintro e w1 ⟨hb1, (⟨h1, rfl, hB, v, hv, hown⟩ | ⟨h1, rfl⟩)⟩
  · have hbel : Below w.heap.size w w1 := ((Below.refl _ _).alloc (Nat.le_refl _) _).trans (hb1.below (Nat.le_refl _) (Nat.le_refl _))
    have hcell := cell_of_one hv
    simp only [List.nil_append] at hown
    have hcv := run_bytesStr (P := Tryz.prog) Tryz.underlying63 Tryz.underlying5 Tryz.underlying9 hown
    obtain ⟨ao, cp, rfl⟩ := own_shape hown
    go_wp2_with fail
    refine (bytes_w w1 B b h l inner (holdsW_below hh hbel (Nat.le_refl _)) hl (by simp at h1; omega) hn).mono ?_
    rintro e w2 ⟨hb2, (⟨h2, rfl, hh2⟩ | ⟨h2, rfl⟩)⟩
    · go_wp2
      go_end0
      exact ⟨(keptX_of (hbel.mono (holdsW_le hh))).trans hb2, .inl ⟨h2, rfl, hh2⟩⟩
    · exact ⟨rfl, (keptX_of (hbel.mono (holdsW_le hh))).trans hb2, .inr ⟨h2, rfl⟩⟩
  · refine ⟨rfl, keptX_of ((((Below.refl _ _).alloc (Nat.le_refl _) _).trans (hb1.below (Nat.le_refl _) (Nat.le_refl _))).mono (holdsW_le hh)), .inr ⟨?_, rfl⟩⟩
    simp [fieldB] at h1 ⊢; omega
/-- A label: name and value; a sample: time and bits; a series. -/
abbrev Lab := List UInt8 × List UInt8
abbrev Sam := Int × Nat
abbrev Ser := List Lab × List Sam
/-- A time as a number from 0 on. -/
def unsig (t : Int) : Nat := (t % 18446744073709551616).toNat
theorem unsig_wrap (t : Int) : IntKind.u64.wrap t = ((unsig t : Nat) : Int) := by
  rw [IntKind.wrap_u64, unsig]; omega
theorem unsig_lt (t : Int) : unsig t < 18446744073709551616 := by
  unfold unsig; omega
def labelIn (x : Lab) : List UInt8 := fieldB 10 x.1 ++ fieldB 18 x.2
def sampleIn (x : Sam) : List UInt8 := numB 9 ++ (wordB x.2 ++ (numB 16 ++ numB (unsig x.1)))
def labelsB : List Lab → List UInt8
  | [] => []
  | x :: l => fieldB 10 (labelIn x) ++ labelsB l
def samplesB : List Sam → List UInt8
  | [] => []
  | x :: l => fieldB 18 (sampleIn x) ++ samplesB l
def seriesB : List Ser → List UInt8
  | [] => []
  | x :: l => fieldB 10 (labelsB x.1 ++ samplesB x.2) ++ seriesB l
theorem labelsB_append (a b : List Lab) : labelsB (a ++ b) = labelsB a ++ labelsB b := by
  induction a with
  | nil => rfl
  | cons x a ih => simp [labelsB, ih]
theorem samplesB_append (a b : List Sam) : samplesB (a ++ b) = samplesB a ++ samplesB b := by
  induction a with
  | nil => rfl
  | cons x a ih => simp [samplesB, ih]
theorem seriesB_append (a b : List Ser) : seriesB (a ++ b) = seriesB a ++ seriesB b := by
  induction a with
  | nil => rfl
  | cons x a ih => simp [seriesB, ih]
theorem labelsB_take_le (l : List Lab) (k : Nat) : (labelsB (l.take k)).length ≤ (labelsB l).length := by
  have h := congrArg List.length (labelsB_append (l.take k) (l.drop k))
  rw [List.take_append_drop] at h
  simp at h; omega
theorem samplesB_take_le (l : List Sam) (k : Nat) : (samplesB (l.take k)).length ≤ (samplesB l).length := by
  have h := congrArg List.length (samplesB_append (l.take k) (l.drop k))
  rw [List.take_append_drop] at h
  simp at h; omega
theorem seriesB_take_le (l : List Ser) (k : Nat) : (seriesB (l.take k)).length ≤ (seriesB l).length := by
  have h := congrArg List.length (seriesB_append (l.take k) (l.drop k))
  rw [List.take_append_drop] at h
  simp at h; omega
theorem two_cells {w : World} {b : Nat} {x y : Value} {t : TypeId} (h : w.heap[b]? = some (.cells #[x, y] t (0, 0))) : w.cell? ⟨b, 0, none⟩ = some x ∧ w.cell? ⟨b, 1, none⟩ = some y := by simp [World.cell?, h]
set_option maxRecDepth 20000 in
set_option maxHeartbeats 1000000 in
theorem labels1_w (w : World) (B b xb : Nat) (l n v : List UInt8) (hh : holdsW w B b l) (hl : l.length ≤ 20000) (hn : n.length ≤ 20000) (hv : v.length ≤ 20000)
    (hx : w.heap[xb]? = some (.cells #[.string (bs n), .string (bs v)] 62 (0, 0))) (hxB : xb < B) (hxb : xb ≠ b) :
    Calls Tryz.prog 91 #[.pointer (some ⟨b, 0, none⟩), .pointer (some ⟨xb, 0, none⟩)] w (wrote B b l (labelIn (n, v)) w) := by
  obtain ⟨c0, c1⟩ := two_cells hx
  go_enter Tryz.func91, Tryz.ntmps91
  go_wp2_with fail
  refine (bytes_w w B b 10 l n hh hl (by omega) (by omega)).mono ?_
  rintro e w1 ⟨hb1, (⟨h1, rfl, hh1⟩ | ⟨h1, rfl⟩)⟩
  · obtain ⟨d0, d1⟩ := two_cells (hb1.get hx hxB hxb)
    clear c0 c1
    go_wp2_with fail
    refine (bytes_w w1 B b 18 _ v hh1 (by simpa using h1) (by omega) (by omega)).mono ?_
    rintro e w2 ⟨hb2, (⟨h2, rfl, hh2⟩ | ⟨h2, rfl⟩)⟩
    · go_wp2
      go_end0
      exact wrote_trans hb1 h1 ⟨hb2, .inl ⟨h2, rfl, hh2⟩⟩
    · exact ⟨rfl, wrote_trans hb1 h1 ⟨hb2, .inr ⟨h2, rfl⟩⟩⟩
  · exact ⟨rfl, wrote_gone hb1 h1⟩
set_option maxRecDepth 20000 in
set_option maxHeartbeats 1000000 in
theorem samples1_w (w : World) (B b xb : Nat) (l : List UInt8) (t : Int) (k : Nat) (hh : holdsW w B b l) (hl : l.length ≤ 20000) (hk : k < 18446744073709551616)
    (hx : w.heap[xb]? = some (.cells #[.int .i64 t, .int .u64 k] 48 (0, 0))) (hxB : xb < B) (hxb : xb ≠ b) :
    Calls Tryz.prog 92 #[.pointer (some ⟨b, 0, none⟩), .pointer (some ⟨xb, 0, none⟩)] w (wrote B b l (sampleIn (t, k)) w) := by
  obtain ⟨c0, c1⟩ := two_cells hx
  have HK := hide hk
  clear hk
  go_enter Tryz.func92, Tryz.ntmps92
  go_wp2_with fail
  refine (number_w w B b 9 l hh hl (by omega)).mono ?_
  rintro e w1 ⟨hb1, (⟨h1, rfl, hh1⟩ | ⟨h1, rfl⟩)⟩
  · obtain ⟨d0, d1⟩ := two_cells (hb1.get hx hxB hxb)
    clear c0 c1
    go_wp2_with fail
    refine (eight_w w1 B b k _ hh1 (by simpa using h1) HK.out).mono ?_
    rintro e w2 ⟨hb2, (⟨h2, rfl, hh2⟩ | ⟨h2, rfl⟩)⟩
    · obtain ⟨c0, c1⟩ := two_cells ((hb1.trans hb2).get hx hxB hxb)
      clear d0 d1
      go_wp2_with fail
      refine (number_w w2 B b 16 _ hh2 (by simp at h2 ⊢; omega) (by omega)).mono ?_
      rintro e w3 ⟨hb3, (⟨h3, rfl, hh3⟩ | ⟨h3, rfl⟩)⟩
      · obtain ⟨d0, d1⟩ := two_cells (((hb1.trans hb2).trans hb3).get hx hxB hxb)
        clear c0 c1
        go_wp2_with fail
        rw [unsig_wrap t]
        refine (number_w w3 B b (unsig t) _ hh3 (by simp at h3 ⊢; omega) (unsig_lt t)).mono ?_
        rintro e w4 ⟨hb4, (⟨h4, rfl, hh4⟩ | ⟨h4, rfl⟩)⟩
        · go_wp2
          go_end0
          exact wrote_trans hb1 h1 (wrote_trans hb2 h2 (wrote_trans hb3 h3 ⟨hb4, .inl ⟨h4, rfl, hh4⟩⟩))
        · exact ⟨rfl, wrote_trans hb1 h1 (wrote_trans hb2 h2 (wrote_trans hb3 h3 ⟨hb4, .inr ⟨h4, rfl⟩⟩))⟩
      · exact ⟨rfl, wrote_trans hb1 h1 (wrote_trans hb2 h2 (wrote_gone hb3 h3))⟩
    · exact ⟨rfl, wrote_trans hb1 h1 (wrote_gone hb2 h2)⟩
  · exact ⟨rfl, wrote_gone hb1 h1⟩
/-- A slice of labels below block B. -/
def readsLabels (w : World) (B : Nat) (v : Value) (ls : List Lab) : Prop :=
  ∃ ao cp, v = .slice ao ls.length cp ∧ ∀ i (h : i < ls.length), ∃ b o, ao = some ⟨b, o, none⟩ ∧ b < B ∧ w.cell? ⟨b, o + i * 2, none⟩ = some (.string (bs ls[i].1)) ∧ w.cell? ⟨b, o + i * 2 + 1, none⟩ = some (.string (bs ls[i].2))
def readsSamples (w : World) (B : Nat) (v : Value) (ls : List Sam) : Prop :=
  ∃ ao cp, v = .slice ao ls.length cp ∧ ∀ i (h : i < ls.length), ∃ b o, ao = some ⟨b, o, none⟩ ∧ b < B ∧ w.cell? ⟨b, o + i * 2, none⟩ = some (.int .i64 ls[i].1) ∧ w.cell? ⟨b, o + i * 2 + 1, none⟩ = some (.int .u64 ls[i].2)
def readsSeries (w : World) (B : Nat) (v : Value) (ls : List Ser) : Prop :=
  ∃ ao cp, v = .slice ao ls.length cp ∧ ∀ i (h : i < ls.length), ∃ b o x y, ao = some ⟨b, o, none⟩ ∧ b < B ∧ w.cell? ⟨b, o + i * 2, none⟩ = some x ∧ w.cell? ⟨b, o + i * 2 + 1, none⟩ = some y ∧ readsLabels w B x ls[i].1 ∧ readsSamples w B y ls[i].2
theorem readsLabels_mono {w : World} {B B' : Nat} {v : Value} {ls : List Lab} (h : readsLabels w B v ls) (hB : B ≤ B') : readsLabels w B' v ls := by
  obtain ⟨ao, cp, hv, h⟩ := h
  refine ⟨ao, cp, hv, fun i hi => ?_⟩
  obtain ⟨b, o, h1, h2, h3, h4⟩ := h i hi
  exact ⟨b, o, h1, by omega, h3, h4⟩
theorem readsSamples_mono {w : World} {B B' : Nat} {v : Value} {ls : List Sam} (h : readsSamples w B v ls) (hB : B ≤ B') : readsSamples w B' v ls := by
  obtain ⟨ao, cp, hv, h⟩ := h
  refine ⟨ao, cp, hv, fun i hi => ?_⟩
  obtain ⟨b, o, h1, h2, h3, h4⟩ := h i hi
  exact ⟨b, o, h1, by omega, h3, h4⟩
theorem readsLabels_below {w w' : World} {B : Nat} {v : Value} {ls : List Lab} (h : readsLabels w B v ls) (hb : Below B w w') : readsLabels w' B v ls := by
  obtain ⟨ao, cp, hv, h⟩ := h
  refine ⟨ao, cp, hv, fun i hi => ?_⟩
  obtain ⟨b, o, h1, h2, h3, h4⟩ := h i hi
  exact ⟨b, o, h1, h2, (hb.cell h2).trans h3, (hb.cell h2).trans h4⟩
theorem readsSamples_below {w w' : World} {B : Nat} {v : Value} {ls : List Sam} (h : readsSamples w B v ls) (hb : Below B w w') : readsSamples w' B v ls := by
  obtain ⟨ao, cp, hv, h⟩ := h
  refine ⟨ao, cp, hv, fun i hi => ?_⟩
  obtain ⟨b, o, h1, h2, h3, h4⟩ := h i hi
  exact ⟨b, o, h1, h2, (hb.cell h2).trans h3, (hb.cell h2).trans h4⟩
theorem readsSeries_below {w w' : World} {B : Nat} {v : Value} {ls : List Ser} (h : readsSeries w B v ls) (hb : Below B w w') : readsSeries w' B v ls := by
  obtain ⟨ao, cp, hv, h⟩ := h
  refine ⟨ao, cp, hv, fun i hi => ?_⟩
  obtain ⟨b, o, x, y, h1, h2, h3, h4, h5, h6⟩ := h i hi
  exact ⟨b, o, x, y, h1, h2, (hb.cell h2).trans h3, (hb.cell h2).trans h4, readsLabels_below h5 hb, readsSamples_below h6 hb⟩
theorem readsSeries_mono {w : World} {B B' : Nat} {v : Value} {ls : List Ser} (h : readsSeries w B v ls) (hB : B ≤ B') : readsSeries w B' v ls := by
  obtain ⟨ao, cp, hv, h⟩ := h
  refine ⟨ao, cp, hv, fun i hi => ?_⟩
  obtain ⟨b, o, x, y, h1, h2, h3, h4, h5, h6⟩ := h i hi
  exact ⟨b, o, x, y, h1, by omega, h3, h4, readsLabels_mono h5 hB, readsSamples_mono h6 hB⟩
set_option maxRecDepth 20000 in
set_option maxHeartbeats 1000000 in
theorem labels_w (w : World) (A B b : Nat) (hA : A ≤ B) (hAb : A ≤ b) (l : List UInt8) (v : Value) (ls : List Lab) (hh : holdsW w B b l) (hl : l.length ≤ 20000)
    (hv : readsLabels w A v ls) (hsm : ls.length ≤ 20) (hx : ∀ x ∈ ls, x.1.length ≤ 20000 ∧ x.2.length ≤ 20000) :
    Calls Tryz.prog 67 #[.pointer (some ⟨b, 0, none⟩), v] w (wrote B b l (labelsB ls) w) := by
  obtain ⟨ao, cp, rfl, hcells⟩ := id hv
  have hcf : ∀ (args : Array Value) (w : World), (callFunc 91 args).run Tryz.prog w = .ok (.enter 91 args) w := fun args w => by simp [go_sem]
  go_enter Tryz.func67, Tryz.ntmps67
  go_wp2
  go_loopw [8] (fun i wr => ∃ k : Nat, k ≤ ls.length ∧ i = .int .i64 k ∧ KeptX B b w wr ∧ (l ++ labelsB (ls.take k)).length ≤ 20000 ∧ holdsW wr B b (l ++ labelsB (ls.take k))) (fun i _ => ls.length - (intOf i).toNat)
  case atStart => exact ⟨0, by omega, rfl, KeptX.refl _ _ _, by simpa [labelsB] using hl, by simpa [labelsB] using hh⟩
  case round =>
    obtain ⟨k, hk, rfl, hb, hlen, hhr⟩ := hrel
    by_cases hlt : k < ls.length
    · obtain ⟨lb, lo, rfl, hlB, c0, c1⟩ := hcells k hlt
      have d0 := ((hb.below hA hAb).cell (p := ⟨lb, lo + k * 2, none⟩) hlB).trans c0
      have d1 := ((hb.below hA hAb).cell (p := ⟨lb, lo + k * 2 + 1, none⟩) hlB).trans c1
      clear c0 c1
      have hmem := hx ls[k] (List.getElem_mem hlt)
      have hxb : ((wr.alloc (.cells #[.string (bs ls[k].1), .string (bs ls[k].2)] 62)).alloc (.cells #[.slice none 0 0] 65)).heap[wr.heap.size]? = some (.cells #[.string (bs ls[k].1), .string (bs ls[k].2)] 62 (0, 0)) := by
        rw [Below.heap_alloc _ _ _ (by simp)]; exact heap_alloc_new _ _
      have hba : KeptX B b wr (wr.alloc (.cells #[.string (bs ls[k].1), .string (bs ls[k].2)] 62)) := keptX_of ((Below.refl _ _).alloc (holdsW_le hhr) _)
      have hha := holdsW_below hhr ((Below.refl wr.heap.size wr).alloc (Nat.le_refl _) (.cells #[.string (bs ls[k].1), .string (bs ls[k].2)] 62)) (Nat.le_refl _)
      have HF := hide (within_w (wr.alloc (.cells #[.string (bs ls[k].1), .string (bs ls[k].2)] 62)) B b 10 _ (labelIn ls[k]) 91 #[.pointer (some ⟨wr.heap.size, 0, none⟩)] hha hlen (by omega) hcf
        (labels1_w _ _ _ wr.heap.size [] ls[k].1 ls[k].2 (holdsW_new _) (by simp) hmem.1 hmem.2 hxb (by simp) (by simp)))
      have hcut : labelsB (ls.take (k + 1)) = labelsB (ls.take k) ++ fieldB 10 (labelIn ls[k]) := by rw [List.take_succ_eq_append_getElem hlt, labelsB_append]; simp [labelsB]
      have HC := hide hcut
      clear hcut hxb
      go_wp2_with fail
      refine HF.out.mono ?_
      rintro e w1 ⟨hb1, (⟨h1, rfl, hh1⟩ | ⟨h1, rfl⟩)⟩
      · go_wp2
        go_roundw
        case rel => exact ⟨k + 1, by omega, by go_num, (hb.trans hba).trans hb1, by rw [HC.out]; simp at h1 ⊢; omega, by rw [HC.out, ← List.append_assoc]; exact hh1⟩
        case measure => simp [intOf]; omega
      · refine ⟨rfl, (hb.trans hba).trans hb1, .inr ⟨?_, rfl⟩⟩
        have := labelsB_take_le ls (k + 1)
        rw [HC.out] at this
        simp at h1 this ⊢; omega
    · go_wp2
      go_end0
      rw [List.take_of_length_le (by omega)] at hlen hhr
      exact ⟨hb, .inl ⟨by simpa using hlen, rfl, hhr⟩⟩
set_option maxRecDepth 20000 in
set_option maxHeartbeats 1000000 in
theorem samples_w (w : World) (A B b : Nat) (hA : A ≤ B) (hAb : A ≤ b) (l : List UInt8) (v : Value) (ls : List Sam) (hh : holdsW w B b l) (hl : l.length ≤ 20000)
    (hv : readsSamples w A v ls) (hsm : ls.length ≤ 200) (hx : ∀ x ∈ ls, x.2 < 18446744073709551616) :
    Calls Tryz.prog 68 #[.pointer (some ⟨b, 0, none⟩), v] w (wrote B b l (samplesB ls) w) := by
  obtain ⟨ao, cp, rfl, hcells⟩ := id hv
  have hcf : ∀ (args : Array Value) (w : World), (callFunc 92 args).run Tryz.prog w = .ok (.enter 92 args) w := fun args w => by simp [go_sem]
  go_enter Tryz.func68, Tryz.ntmps68
  go_wp2
  go_loopw [8] (fun i wr => ∃ k : Nat, k ≤ ls.length ∧ i = .int .i64 k ∧ KeptX B b w wr ∧ (l ++ samplesB (ls.take k)).length ≤ 20000 ∧ holdsW wr B b (l ++ samplesB (ls.take k))) (fun i _ => ls.length - (intOf i).toNat)
  case atStart => exact ⟨0, by omega, rfl, KeptX.refl _ _ _, by simpa [samplesB] using hl, by simpa [samplesB] using hh⟩
  case round =>
    obtain ⟨k, hk, rfl, hb, hlen, hhr⟩ := hrel
    by_cases hlt : k < ls.length
    · obtain ⟨lb, lo, rfl, hlB, c0, c1⟩ := hcells k hlt
      have d0 := ((hb.below hA hAb).cell (p := ⟨lb, lo + k * 2, none⟩) hlB).trans c0
      have d1 := ((hb.below hA hAb).cell (p := ⟨lb, lo + k * 2 + 1, none⟩) hlB).trans c1
      clear c0 c1
      have hmem := hx ls[k] (List.getElem_mem hlt)
      have hxb : ((wr.alloc (.cells #[.int .i64 ls[k].1, .int .u64 ls[k].2] 48)).alloc (.cells #[.slice none 0 0] 65)).heap[wr.heap.size]? = some (.cells #[.int .i64 ls[k].1, .int .u64 ls[k].2] 48 (0, 0)) := by
        rw [Below.heap_alloc _ _ _ (by simp)]; exact heap_alloc_new _ _
      have hba : KeptX B b wr (wr.alloc (.cells #[.int .i64 ls[k].1, .int .u64 ls[k].2] 48)) := keptX_of ((Below.refl _ _).alloc (holdsW_le hhr) _)
      have hha := holdsW_below hhr ((Below.refl wr.heap.size wr).alloc (Nat.le_refl _) (.cells #[.int .i64 ls[k].1, .int .u64 ls[k].2] 48)) (Nat.le_refl _)
      have HF := hide (within_w (wr.alloc (.cells #[.int .i64 ls[k].1, .int .u64 ls[k].2] 48)) B b 18 _ (sampleIn ls[k]) 92 #[.pointer (some ⟨wr.heap.size, 0, none⟩)] hha hlen (by omega) hcf
        (samples1_w _ _ _ wr.heap.size [] ls[k].1 ls[k].2 (holdsW_new _) (by simp) hmem hxb (by simp) (by simp)))
      have hcut : samplesB (ls.take (k + 1)) = samplesB (ls.take k) ++ fieldB 18 (sampleIn ls[k]) := by rw [List.take_succ_eq_append_getElem hlt, samplesB_append]; simp [samplesB]
      have HC := hide hcut
      clear hcut hxb
      go_wp2_with fail
      refine HF.out.mono ?_
      rintro e w1 ⟨hb1, (⟨h1, rfl, hh1⟩ | ⟨h1, rfl⟩)⟩
      · go_wp2
        go_roundw
        case rel => exact ⟨k + 1, by omega, by go_num, (hb.trans hba).trans hb1, by rw [HC.out]; simp at h1 ⊢; omega, by rw [HC.out, ← List.append_assoc]; exact hh1⟩
        case measure => simp [intOf]; omega
      · refine ⟨rfl, (hb.trans hba).trans hb1, .inr ⟨?_, rfl⟩⟩
        have := samplesB_take_le ls (k + 1)
        rw [HC.out] at this
        simp at h1 this ⊢; omega
    · go_wp2
      go_end0
      rw [List.take_of_length_le (by omega)] at hlen hhr
      exact ⟨hb, .inl ⟨by simpa using hlen, rfl, hhr⟩⟩
theorem readsLabels_len {w : World} {B : Nat} {v : Value} {ls : List Lab} (h : readsLabels w B v ls) : ∃ ao cp, v = .slice ao ls.length cp := by
  obtain ⟨ao, cp, hv, _⟩ := h; exact ⟨ao, cp, hv⟩
theorem readsSamples_len {w : World} {B : Nat} {v : Value} {ls : List Sam} (h : readsSamples w B v ls) : ∃ ao cp, v = .slice ao ls.length cp := by
  obtain ⟨ao, cp, hv, _⟩ := h; exact ⟨ao, cp, hv⟩
/-- There is not too much of anything. -/
def serFits (x : Ser) : Prop := x.1.length ≤ 20 ∧ x.2.length ≤ 200 ∧ ∀ y ∈ x.1, y.1.length ≤ 20000 ∧ y.2.length ≤ 20000
def bitsFit (x : Ser) : Prop := ∀ y ∈ x.2, y.2 < 18446744073709551616
set_option maxRecDepth 20000 in
set_option maxHeartbeats 1000000 in
theorem series1_w (w : World) (A B b xb : Nat) (hA : A ≤ B) (hAb : A ≤ b) (l : List UInt8) (x : Ser) (vl vs : Value) (hh : holdsW w B b l) (hl : l.length ≤ 20000) (hf : serFits x) (hbits : bitsFit x)
    (hvl : readsLabels w A vl x.1) (hvs : readsSamples w A vs x.2)
    (hx : w.heap[xb]? = some (.cells #[vl, vs] 41 (0, 0))) (hxB : xb < B) (hxb : xb ≠ b) :
    Calls Tryz.prog 66 #[.pointer (some ⟨b, 0, none⟩), .pointer (some ⟨xb, 0, none⟩)] w (wrote B b l (labelsB x.1 ++ samplesB x.2) w) := by
  obtain ⟨c0, c1⟩ := two_cells hx
  obtain ⟨ao, cp, rfl⟩ := readsLabels_len hvl
  obtain ⟨ao', cp', rfl⟩ := readsSamples_len hvs
  go_enter Tryz.func66, Tryz.ntmps66
  go_wp2_with fail
  refine (labels_w w A B b hA hAb l _ x.1 hh hl hvl hf.1 hf.2.2).mono ?_
  rintro e w1 ⟨hb1, (⟨h1, rfl, hh1⟩ | ⟨h1, rfl⟩)⟩
  · obtain ⟨d0, d1⟩ := two_cells (hb1.get hx hxB hxb)
    clear c0 c1
    go_wp2_with fail
    refine (samples_w w1 A B b hA hAb _ _ x.2 hh1 (by simpa using h1) (readsSamples_below hvs (hb1.below hA hAb)) hf.2.1 hbits).mono ?_
    rintro e w2 ⟨hb2, (⟨h2, rfl, hh2⟩ | ⟨h2, rfl⟩)⟩
    · go_wp2
      go_end0
      exact wrote_trans hb1 h1 ⟨hb2, .inl ⟨h2, rfl, hh2⟩⟩
    · exact ⟨rfl, wrote_trans hb1 h1 ⟨hb2, .inr ⟨h2, rfl⟩⟩⟩
  · exact ⟨rfl, wrote_gone hb1 h1⟩
set_option maxRecDepth 20000 in
set_option maxHeartbeats 1000000 in
theorem series_w (w : World) (A B b : Nat) (hA : A ≤ B) (hAb : A ≤ b) (l : List UInt8) (v : Value) (ls : List Ser) (hh : holdsW w B b l) (hl : l.length ≤ 20000)
    (hv : readsSeries w A v ls) (hsm : ls.length ≤ 200) (hx : ∀ x ∈ ls, serFits x ∧ bitsFit x) :
    Calls Tryz.prog 41 #[.pointer (some ⟨b, 0, none⟩), v] w (wrote B b l (seriesB ls) w) := by
  obtain ⟨ao, cp, rfl, hcells⟩ := id hv
  have hcf : ∀ (args : Array Value) (w : World), (callFunc 66 args).run Tryz.prog w = .ok (.enter 66 args) w := fun args w => by simp [go_sem]
  go_enter Tryz.func41, Tryz.ntmps41
  go_wp2
  go_loopw [8] (fun i wr => ∃ k : Nat, k ≤ ls.length ∧ i = .int .i64 k ∧ KeptX B b w wr ∧ (l ++ seriesB (ls.take k)).length ≤ 20000 ∧ holdsW wr B b (l ++ seriesB (ls.take k))) (fun i _ => ls.length - (intOf i).toNat)
  case atStart => exact ⟨0, by omega, rfl, KeptX.refl _ _ _, by simpa [seriesB] using hl, by simpa [seriesB] using hh⟩
  case round =>
    obtain ⟨k, hk, rfl, hb, hlen, hhr⟩ := hrel
    by_cases hlt : k < ls.length
    · obtain ⟨lb, lo, x, y, rfl, hlB, c0, c1, rx, ry⟩ := hcells k hlt
      have d0 := ((hb.below hA hAb).cell (p := ⟨lb, lo + k * 2, none⟩) hlB).trans c0
      have d1 := ((hb.below hA hAb).cell (p := ⟨lb, lo + k * 2 + 1, none⟩) hlB).trans c1
      obtain ⟨xo, xc, rfl⟩ := readsLabels_len rx
      obtain ⟨yo, yc, rfl⟩ := readsSamples_len ry
      clear c0 c1
      have hmem := hx ls[k] (List.getElem_mem hlt)
      obtain ⟨X, HX⟩ : ∃ X, Hid (X = Obj.cells #[.slice xo ls[k].1.length xc, .slice yo ls[k].2.length yc] 41) := ⟨_, hide rfl⟩
      have hxb : ((wr.alloc X).alloc (.cells #[.slice none 0 0] 65)).heap[wr.heap.size]? = some X := by
        rw [Below.heap_alloc _ _ _ (by simp)]; exact heap_alloc_new _ _
      rw [HX.out] at hxb
      have hba : KeptX B b wr (wr.alloc X) := keptX_of ((Below.refl _ _).alloc (holdsW_le hhr) _)
      have hbb : Below A wr ((wr.alloc X).alloc (.cells #[.slice none 0 0] 65)) := ((Below.refl A wr).alloc (by have := holdsW_le hhr; omega) _).alloc (by have := holdsW_le hhr; simp; omega) _
      have hha := holdsW_below hhr ((Below.refl wr.heap.size wr).alloc (Nat.le_refl _) X) (Nat.le_refl _)
      rw [HX.out] at hba hbb hha
      have hle := holdsW_le hhr
      have HF := hide (within_w (wr.alloc (.cells #[.slice xo ls[k].1.length xc, .slice yo ls[k].2.length yc] 41)) B b 10 _ (labelsB ls[k].1 ++ samplesB ls[k].2) 66 #[.pointer (some ⟨wr.heap.size, 0, none⟩)] hha hlen (by omega) hcf
        (series1_w _ A _ _ wr.heap.size (by simp; omega) (by simp; omega) [] ls[k] _ _ (holdsW_new _) (by simp) hmem.1 hmem.2 (readsLabels_below (readsLabels_below rx (hb.below hA hAb)) hbb) (readsSamples_below (readsSamples_below ry (hb.below hA hAb)) hbb) hxb (by simp) (by simp)))
      have hcut : seriesB (ls.take (k + 1)) = seriesB (ls.take k) ++ fieldB 10 (labelsB ls[k].1 ++ samplesB ls[k].2) := by rw [List.take_succ_eq_append_getElem hlt, seriesB_append]; simp [seriesB]
      have HC := hide hcut
      clear hcut hxb HX
      go_wp2_with fail
      refine HF.out.mono ?_
      rintro e w1 ⟨hb1, (⟨h1, rfl, hh1⟩ | ⟨h1, rfl⟩)⟩
      · go_wp2
        go_roundw
        case rel => exact ⟨k + 1, by omega, by go_num, (hb.trans hba).trans hb1, by rw [HC.out]; simp at h1 ⊢; omega, by rw [HC.out, ← List.append_assoc]; exact hh1⟩
        case measure => simp [intOf]; omega
      · refine ⟨rfl, (hb.trans hba).trans hb1, .inr ⟨?_, rfl⟩⟩
        have := seriesB_take_le ls (k + 1)
        rw [HC.out] at this
        simp at h1 this ⊢; omega
    · go_wp2
      go_end0
      rw [List.take_of_length_le (by omega)] at hlen hhr
      exact ⟨hb, .inl ⟨by simpa using hlen, rfl, hhr⟩⟩
def CountsOk (l : List Ser) : Prop := l.length ≤ 200 ∧ ∀ x ∈ l, serFits x
def TimesOk (l : List Ser) : Prop := ∀ x ∈ l, ∀ y ∈ x.2, -9007199254740991 ≤ y.1 ∧ y.1 ≤ 9007199254740991
/-- A check: it comes back where it holds, and gives up with an error where it doesn't. -/
def checked (p : Prop) (err : Int) (w : World) (e : Ending) (w' : World) : Prop := Below w.heap.size w w' ∧ ((p ∧ e = .returned (.tuple #[])) ∨ (¬ p ∧ e = gaveUp err))
set_option maxRecDepth 20000 in
set_option maxHeartbeats 2000000 in
theorem checkCounts_any (w : World) (v : Value) (ls : List Ser) (hv : readsSeries w w.heap.size v ls) (hlen : ls.length ≤ 9223372036854775807) (hin : ∀ x ∈ ls, x.1.length ≤ 9223372036854775807 ∧ x.2.length ≤ 9223372036854775807 ∧ ∀ y ∈ x.1, y.1.length ≤ 9223372036854775807 ∧ y.2.length ≤ 9223372036854775807) :
    Calls Tryz.prog 39 #[v] w (checked (CountsOk ls) 2 w) := by
  obtain ⟨ao, cp, rfl, hcells⟩ := id hv
  have HL := hide hlen
  have HI := hide hin
  have HV := hide hv
  clear hlen hin hv
  go_enter Tryz.func39, Tryz.ntmps39
  by_cases h200 : ls.length ≤ 200
  · go_wp2_with (go_at_call 64; refine (most_ok _ _ _ (by omega)).mono ?_; rintro e w' ⟨rfl, rfl⟩)
    rename World => w
    go_loopw [11] (fun i wr => ∃ k : Nat, k ≤ ls.length ∧ i = .int .i64 k ∧ Below w.heap.size w wr ∧ Hid (∀ j (h : j < ls.length), j < k → serFits ls[j])) (fun i _ => ls.length - (intOf i).toNat)
    case atStart => exact ⟨0, by omega, rfl, Below.refl _ _, hide (fun j _ h => by omega)⟩
    case round =>
      obtain ⟨k, hk, rfl, hb, HD⟩ := hrel
      by_cases hlt : k < ls.length
      · obtain ⟨lb, lo, x, y, rfl, hlB, c0, c1, rx, ry⟩ := hcells k hlt
        have d0 := (hb.cell (p := ⟨lb, lo + k * 2, none⟩) hlB).trans c0
        have d1 := (hb.cell (p := ⟨lb, lo + k * 2 + 1, none⟩) hlB).trans c1
        obtain ⟨xo, xc, rfl, xcells⟩ := id rx
        obtain ⟨yo, yc, rfl, _⟩ := id ry
        clear c0 c1 hcells
        have HK := hide (HI.out _ (List.getElem_mem hlt))
        by_cases h20 : ls[k].1.length ≤ 20
        · by_cases hs200 : ls[k].2.length ≤ 200
          · go_wp2_with (go_at_call 64; refine (most_ok _ _ _ (by omega)).mono ?_; rintro e w' ⟨rfl, rfl⟩)
            have hbs := hb.size
            have hb0 : Below w.heap.size w (wr.alloc (.cells #[.slice xo ls[k].1.length xc, .slice yo ls[k].2.length yc] 41)) := hb.alloc hbs _
            go_loopw [26] (fun i wi => ∃ q : Nat, q ≤ ls[k].1.length ∧ i = .int .i64 q ∧ Below w.heap.size w wi ∧ Hid (∀ j (h : j < ls[k].1.length), j < q → ls[k].1[j].1.length ≤ 20000 ∧ ls[k].1[j].2.length ≤ 20000)) (fun i _ => ls[k].1.length - (intOf i).toNat)
            case atStart => exact ⟨0, by omega, rfl, hb0, hide (fun j _ h => by omega)⟩
            case round =>
              obtain ⟨q, hq, rfl, hbi, HQ⟩ := hrel
              have hbis := hbi.size
              by_cases hqlt : q < ls[k].1.length
              · obtain ⟨nb, no, rfl, hnB, e0, e1⟩ := xcells q hqlt
                have f0 := (hbi.cell (p := ⟨nb, no + q * 2, none⟩) hnB).trans e0
                have f1 := (hbi.cell (p := ⟨nb, no + q * 2 + 1, none⟩) hnB).trans e1
                clear e0 e1 xcells d0 d1
                have hQQ := HK.out.2.2 _ (List.getElem_mem hqlt)
                by_cases hn : ls[k].1[q].1.length ≤ 20000
                · by_cases hm : ls[k].1[q].2.length ≤ 20000
                  · go_wp2_with (go_at_call 64; refine (most_ok _ _ _ (by omega)).mono ?_; rintro e w' ⟨rfl, rfl⟩)
                    go_roundw
                    case rel => exact ⟨q + 1, by omega, by go_num, hbi.alloc hbis _, hide (fun j hj h => by
                      by_cases e : j = q
                      · subst e; exact ⟨hn, hm⟩
                      · exact HQ.out j hj (by omega))⟩
                    case measure => simp [intOf]; omega
                  · go_wp2_with (first | (go_at_call 64; refine (most_ok _ _ _ (by omega)).mono ?_; rintro e w' ⟨rfl, rfl⟩) | (go_at_call 64; refine (most_no _ _ _ (by omega)).mono ?_; rintro e w' ⟨rfl, rfl⟩))
                    exact ⟨rfl, hbi.alloc hbis _, .inr ⟨fun hok => hm ((hok.2 _ (List.getElem_mem hlt)).2.2 _ (List.getElem_mem hqlt)).2, rfl⟩⟩
                · go_wp2_with (go_at_call 64; refine (most_no _ _ _ (by omega)).mono ?_; rintro e w' ⟨rfl, rfl⟩)
                  exact ⟨rfl, hbi.alloc hbis _, .inr ⟨fun hok => hn ((hok.2 _ (List.getElem_mem hlt)).2.2 _ (List.getElem_mem hqlt)).1, rfl⟩⟩
              · go_wp2
                go_roundw
                case rel => exact ⟨k + 1, by omega, by go_num, hbi, hide (fun j hj h => by
                  by_cases e : j = k
                  · subst e
                    refine ⟨h20, hs200, fun y hy => ?_⟩
                    obtain ⟨p, hp, rfl⟩ := List.getElem_of_mem hy
                    exact HQ.out p hp (by omega)
                  · exact HD.out j hj (by omega))⟩
                case measure => simp [intOf]; omega
          · go_wp2_with (first | (go_at_call 64; refine (most_ok _ _ _ (by omega)).mono ?_; rintro e w' ⟨rfl, rfl⟩) | (go_at_call 64; refine (most_no _ _ _ (by omega)).mono ?_; rintro e w' ⟨rfl, rfl⟩))
            exact ⟨rfl, hb.alloc hb.size _, .inr ⟨fun hok => hs200 (hok.2 _ (List.getElem_mem hlt)).2.1, rfl⟩⟩
        · go_wp2_with (go_at_call 64; refine (most_no _ _ _ (by omega)).mono ?_; rintro e w' ⟨rfl, rfl⟩)
          exact ⟨rfl, hb.alloc hb.size _, .inr ⟨fun hok => h20 (hok.2 _ (List.getElem_mem hlt)).1, rfl⟩⟩
      · go_wp2
        go_end0
        exact ⟨hb, .inl ⟨⟨h200, fun x hx => by obtain ⟨p, hp, rfl⟩ := List.getElem_of_mem hx; exact HD.out p hp (by omega)⟩, rfl⟩⟩
  · have := HL.out
    go_wp2_with (go_at_call 64; refine (most_no _ _ _ (by omega)).mono ?_; rintro e w' ⟨rfl, rfl⟩)
    exact ⟨rfl, Below.refl _ _, .inr ⟨fun hok => h200 hok.1, rfl⟩⟩
set_option maxRecDepth 20000 in
set_option maxHeartbeats 2000000 in
theorem checkTimes_any (w : World) (v : Value) (ls : List Ser) (hv : readsSeries w w.heap.size v ls) (hok : CountsOk ls) :
    Calls Tryz.prog 40 #[v] w (checked (TimesOk ls) 3 w) := by
  obtain ⟨ao, cp, rfl, hcells⟩ := id hv
  have hlen := hok.1
  have HI := hide hok.2
  clear hok hv
  go_enter Tryz.func40, Tryz.ntmps40
  go_wp2
  go_loopw [8] (fun i wr => ∃ k : Nat, k ≤ ls.length ∧ i = .int .i64 k ∧ Below w.heap.size w wr ∧ Hid (∀ j (h : j < ls.length), j < k → ∀ y ∈ ls[j].2, -9007199254740991 ≤ y.1 ∧ y.1 ≤ 9007199254740991)) (fun i _ => ls.length - (intOf i).toNat)
  case atStart => exact ⟨0, by omega, rfl, Below.refl _ _, hide (fun j _ h => by omega)⟩
  case round =>
    obtain ⟨k, hk, rfl, hb, HD⟩ := hrel
    by_cases hlt : k < ls.length
    · obtain ⟨lb, lo, x, y, rfl, hlB, c0, c1, rx, ry⟩ := hcells k hlt
      have d0 := (hb.cell (p := ⟨lb, lo + k * 2, none⟩) hlB).trans c0
      have d1 := (hb.cell (p := ⟨lb, lo + k * 2 + 1, none⟩) hlB).trans c1
      obtain ⟨xo, xc, rfl, _⟩ := id rx
      obtain ⟨yo, yc, rfl, ycells⟩ := id ry
      clear c0 c1 hcells
      have hs200 : ls[k].2.length ≤ 200 := (HI.out _ (List.getElem_mem hlt)).2.1
      go_wp2
      have hbs := hb.size
      have hb0 : Below w.heap.size w (wr.alloc (.cells #[.slice xo ls[k].1.length xc, .slice yo ls[k].2.length yc] 41)) := hb.alloc hbs _
      go_loopw [15] (fun i wi => ∃ q : Nat, q ≤ ls[k].2.length ∧ i = .int .i64 q ∧ Below w.heap.size w wi ∧ Hid (∀ j (h : j < ls[k].2.length), j < q → -9007199254740991 ≤ ls[k].2[j].1 ∧ ls[k].2[j].1 ≤ 9007199254740991)) (fun i _ => ls[k].2.length - (intOf i).toNat)
      case atStart => exact ⟨0, by omega, rfl, hb0, hide (fun j _ h => by omega)⟩
      case round =>
        obtain ⟨q, hq, rfl, hbi, HQ⟩ := hrel
        have hbis := hbi.size
        by_cases hqlt : q < ls[k].2.length
        · obtain ⟨nb, no, rfl, hnB, e0, e1⟩ := ycells q hqlt
          have f0 := (hbi.cell (p := ⟨nb, no + q * 2, none⟩) hnB).trans e0
          have f1 := (hbi.cell (p := ⟨nb, no + q * 2 + 1, none⟩) hnB).trans e1
          clear e0 e1 ycells d0 d1
          by_cases hlo : ls[k].2[q].1 < -9007199254740991
          · go_wp2
            exact ⟨rfl, hbi.alloc hbis _, .inr ⟨fun hok => by have := hok _ (List.getElem_mem hlt) _ (List.getElem_mem hqlt); omega, rfl⟩⟩
          · by_cases hhi : 9007199254740991 < ls[k].2[q].1
            · go_wp2
              exact ⟨rfl, hbi.alloc hbis _, .inr ⟨fun hok => by have := hok _ (List.getElem_mem hlt) _ (List.getElem_mem hqlt); omega, rfl⟩⟩
            · go_wp2
              go_roundw
              case rel => exact ⟨q + 1, by omega, by go_num, hbi.alloc hbis _, hide (fun j hj h => by
                by_cases e : j = q
                · subst e; exact ⟨by omega, by omega⟩
                · exact HQ.out j hj (by omega))⟩
              case measure => simp [intOf]; omega
        · go_wp2
          go_roundw
          case rel => exact ⟨k + 1, by omega, by go_num, hbi, hide (fun j hj h y hy => by
            by_cases e : j = k
            · subst e
              obtain ⟨p, hp, rfl⟩ := List.getElem_of_mem hy
              exact HQ.out p hp (by omega)
            · exact HD.out j hj (by omega) y hy)⟩
          case measure => simp [intOf]; omega
    · go_wp2
      go_end0
      exact ⟨hb, .inl ⟨fun x hx => by obtain ⟨p, hp, rfl⟩ := List.getElem_of_mem hx; exact HD.out p hp (by omega), rfl⟩⟩
end Go.Proofs.YtmdakfmecfcbhaaGreat
