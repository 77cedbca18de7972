/- 9 texts in one. -/
import Derived.Test.YtmdakfmecfcbhaaGreatProg
import Derived.Test.YtmdakfmecfcbhaaGreatK7e06493
import Derived.Test.YtmdakfmecfcbhaaGreatK85cc7d6
set_option linter.unusedVariables false
set_option linter.unusedSimpArgs false
namespace Go.Proofs.YtmdakfmecfcbhaaGreat
open Go.RowKit
attribute [local go_sem] bs_size bs_toList bs_append bs_get bs_extract
theorem Tryz.info5 : (Tryz.prog.info? 5).map (fun i => (i.zero, i.size, i.bytes)) = some (some (.int .u8 0), 1, 1) := by kernel_rfl
set_option maxRecDepth 20000 in
set_option maxHeartbeats 400000 in
theorem number_any (n : Nat) (w : World) (hn : n < 18446744073709551616) :
    Calls Tryz.prog 35 #[.int .u64 n] w fun e w' => e = .returned (.string (bs (numB n))) ∧ Below w.heap.size w w' := by
  obtain ⟨i0, hi, hz0, hz1, hz2⟩ := info_parts Tryz.info5
  have HN : Hid (n < 128^(9+1)) := by show n < 128^(9+1); omega
  clear hn
  go_enter Tryz.func35, Tryz.ntmps35
  go_wp2
  go_loopw [0, 3] (fun n3 v wr => ∃ (f n' : Nat) (done : List UInt8), Hid (numB n = done ++ numF f n' ∧ n' < 128^(f+1)) ∧ n3 = .int .u64 n' ∧ wr.ownsRow w.heap.size 5 1 v done.length (bytesV done) ∧ Below w.heap.size w wr) (fun n3 _ _ => (intOf n3).toNat)
  case atStart => exact ⟨9, n, [], ⟨rfl, HN⟩, rfl, World.ownsRow_nil _ _ _ _, Below.refl _ _⟩
  case round =>
    obtain ⟨f, n', done, hlt, rfl, hown, hb⟩ := hrel
    have hlen : done.length ≤ 9 := by
      have h1 := congrArg List.length hlt.out.1
      have h2 := numB_length n
      have h3 := numF_length f n'
      simp at h1
      omega
    have hsz := hb.size
    by_cases h : n' < 128
    · have h' : (n' : Int) < 128 := by omega
      go_wp2_with (at_builtin; refine wpList_append_own _ rfl _ _ 63 rfl w.heap.size 5 i0 (.int .u8 0) 1 1 Tryz.underlying63 hi hz0 hz1 hz2 rfl (by decide) _ done.length (bytesV done) rfl (hown.alloc _) ⟨wr.heap.size, 0, none⟩ 1 1 (bytesV [UInt8.ofNat n']) rfl rfl (bcell _ _ _ _ (ofNat_toNat _ (by omega))) (bytesV_oneCell _) (by unfold maxLen; omega) (by omega) (by simp; omega) ?_; intro v' w1 hown' hgrow _; rw [← bytesV_append] at hown'; have hcv := run_bytesStr (P := Tryz.prog) Tryz.underlying63 Tryz.underlying5 Tryz.underlying9 (l := done ++ [UInt8.ofNat n']) (by simpa using hown'))
      go_ret
      exact ⟨by rw [hlt.out.1, numF_small _ _ h]; rfl, (hb.alloc hsz _).grown hgrow (by simp; omega) (fun k hk => (hown.lt k hk).1)⟩
    · have h' : ¬ (n' : Int) < 128 := by omega
      have ho := or128 n'
      obtain ⟨g, rfl⟩ : ∃ g, f = g + 1 := by
        cases f with
        | zero => have := hlt.out.2; omega
        | succ g => exact ⟨g, rfl⟩
      go_wp2_with (at_builtin; refine wpList_append_own _ rfl _ _ 63 rfl w.heap.size 5 i0 (.int .u8 0) 1 1 Tryz.underlying63 hi hz0 hz1 hz2 rfl (by decide) _ done.length (bytesV done) rfl (hown.alloc _) ⟨wr.heap.size, 0, none⟩ 1 1 (bytesV [hiByte n']) rfl rfl (bcell _ _ _ _ (by rw [hiByte_toNat]; first | rfl | omega)) (bytesV_oneCell _) (by unfold maxLen; omega) (by omega) (by simp; omega) ?_; intro v' w1 hown' hgrow _; rw [← bytesV_append] at hown')
      go_roundw
      case rel => exact ⟨g, n' / 128, done ++ [hiByte n'], ⟨by rw [hlt.out.1, numF_big _ _ h]; simp, by have := hlt.out.2; rw [Nat.pow_succ] at this; omega⟩, by go_num, by simpa using hown', (hb.alloc hsz _).grown hgrow (by simp; omega) (fun k hk => (hown.lt k hk).1)⟩
      case measure => simp [intOf]; omega
set_option maxHeartbeats 400000 in
theorem numberSize_any (l : List UInt8) (w : World) (hs : l.length ≤ maxLen) :
    Calls Tryz.prog 61 #[.string (bs l)] w fun e w' => e = .returned (.int .i64 (numSize l)) ∧ w' = w := by
  unfold maxLen at hs
  go_enter Tryz.func61, Tryz.ntmps61
  go_wp2
  go_loop [3] (fun i => ∃ k : Nat, k ≤ l.length ∧ i = .int .i64 k ∧ Hid (∀ j (hj : j < l.length), j < k → ¬ (l[j].toNat : Int) < 128)) (fun i => l.length - (intOf i).toNat)
  case atStart => exact ⟨0, Nat.zero_le _, rfl, fun j _ h => by omega⟩
  case round =>
    obtain ⟨k, hk, rfl, H⟩ := hrel
    by_cases hlt : k < l.length
    · by_cases hc : (l[k].toNat : Int) < 128
      · have hr : Hid (numSize l = k + 1) := numSize_hit l k hlt H.out hc
        go_wp2
        go_ret
        exact ⟨ret_int (by rw [hr.out]; simp), rfl⟩
      · go_wp2
        go_round
        case rel => exact ⟨k + 1, by omega, by go_num, fun j hj h => by
          by_cases e : j = k
          · subst e; exact hc
          · exact H.out j hj (by omega)⟩
        case measure => simp [intOf]; omega
    · have hr : Hid (numSize l = 0) := numSize_miss l (fun j hj => H.out j hj (by omega))
      go_wp2
      go_ret
      exact ⟨ret_int (by rw [hr.out]; simp), rfl⟩
theorem readNum_none {l : List UInt8} (h : numSize l = 0) : readNum l = (0, 0, 1) := by simp [readNum, h]
theorem readNum_long {l : List UInt8} (h0 : ¬ numSize l = 0) (h : 10 < numSize l ∨ (numSize l = 10 ∧ 1 < (l.getD 9 0).toNat)) : readNum l = (0, 0, 3) := by simp only [readNum, h0, h, if_false, if_true]
theorem readNum_ok {l : List UInt8} (h0 : ¬ numSize l = 0) (h : ¬ (10 < numSize l ∨ (numSize l = 10 ∧ 1 < (l.getD 9 0).toNat))) : readNum l = (numVal (l.take (numSize l)), numSize l, 0) := by simp only [readNum, h0, h, if_false]
set_option maxRecDepth 20000 in
set_option maxHeartbeats 400000 in
theorem readNumber_any (l : List UInt8) (w : World) (hs : l.length ≤ maxLen) :
    Calls Tryz.prog 34 #[.string (bs l)] w fun e w' => e = .returned (.tuple #[.int .u64 (readNum l).1, .int .i64 (readNum l).2.1, .int .i64 (readNum l).2.2]) ∧ w' = w := by
  have hs' := hs
  unfold maxLen at hs
  have hle := numSize_le l
  obtain ⟨z, HZ⟩ : ∃ z, Hid (numSize l = z) := ⟨_, rfl⟩
  rw [HZ.out] at hle
  go_enter Tryz.func34, Tryz.ntmps34
  by_cases h0 : z = 0
  · subst h0
    go_wp2_with (go_at_call 61; refine (numberSize_any l _ hs').mono ?_; rintro e w' ⟨rfl, rfl⟩; rw [HZ.out])
    go_ret3
    exact ⟨by rw [readNum_none HZ.out]; rfl, rfl⟩
  · have h0' : ((z : Int) == 0) = false := by simp; omega
    by_cases h10 : 10 < z
    · have h10' : (10 : Int) < (z : Int) := by omega
      go_wp2_with (go_at_call 61; refine (numberSize_any l _ hs').mono ?_; rintro e w' ⟨rfl, rfl⟩; rw [HZ.out])
      go_ret3
      exact ⟨by rw [readNum_long (by rw [HZ.out]; exact h0) (by rw [HZ.out]; exact .inl h10)]; rfl, rfl⟩
    · have h10' : ¬ (10 : Int) < (z : Int) := by omega
      have HT : Hid ((l.take (numSize l)).length = z) := by show _ = _; rw [List.length_take, HZ.out]; omega
      have HG : Hid (∀ j (hj : j < z) (hl : j < l.length), (l.take (numSize l))[j]'(by rw [HT.out]; exact hj) = l[j]) := fun j hj hl => List.getElem_take ..
      by_cases h1 : z = 10 ∧ 1 < (l.getD 9 0).toNat
      · obtain ⟨h1, h9⟩ := h1
        subst h1
        have h9' : (1 : Int) < (l[9].toNat : Int) := by rw [getD_get _ _ (by omega)] at h9; omega
        have H9 : Hid (1 < (l.getD 9 0).toNat) := h9
        clear h9
        go_wp2_with (go_at_call 61; refine (numberSize_any l _ hs').mono ?_; rintro e w' ⟨rfl, rfl⟩; rw [HZ.out])
        go_ret3
        exact ⟨by rw [readNum_long (by rw [HZ.out]; omega) (.inr ⟨HZ.out, H9.out⟩)]; rfl, rfl⟩
      · have HO : Hid (readNum l = (numVal (l.take (numSize l)), numSize l, 0)) := readNum_ok (by rw [HZ.out]; exact h0) (by rw [HZ.out]; omega)
        have HV : Hid (numVal (l.take (numSize l)) < 18446744073709551616) := by
          by_cases h : z = 10
          · exact numVal_ten _ (by rw [HT.out]; exact h) (by rw [List.getD_eq_getElem?_getD, List.getElem?_take_of_lt (by rw [HZ.out]; omega), ← List.getD_eq_getElem?_getD]; exact fun h9 => h1 ⟨h, h9⟩)
          · exact numVal_nine _ (by rw [HT.out]; omega)
        have HB : Hid (z = 10 → ¬ (1 < (l.getD 9 0).toNat)) := fun h h9 => h1 ⟨h, h9⟩
        clear h1
        generalize l.take (numSize l) = T at HT HG HO HV
        by_cases h : z = 10
        · subst h
          have h9' : ¬ (1 : Int) < (l[9].toNat : Int) := by have := HB.out rfl; rw [getD_get _ _ (by omega)] at this; omega
          clear HB
          go_wp2_with (go_at_call 61; refine (numberSize_any l _ hs').mono ?_; rintro e w' ⟨rfl, rfl⟩; rw [HZ.out])
          go_loop [6, 7] (fun n i => ∃ (k : Int) (N : Nat), -1 ≤ k ∧ k < 10 ∧ i = .int .i64 k ∧ n = .int .u64 N ∧ Hid (N = numVal (T.drop (k + 1).toNat))) (fun _ i => (intOf i + 1).toNat)
          case atStart => exact ⟨9, 0, by omega, by omega, rfl, rfl, by show _ = _; rw [List.drop_eq_nil_of_le (by rw [HT.out]; omega)]; rfl⟩
          case round =>
            obtain ⟨k, N, hk1, hk2, rfl, rfl, HN⟩ := hrel
            by_cases hk : 0 ≤ k
            · obtain ⟨j, rfl⟩ := Int.eq_ofNat_of_zero_le hk
              have hjl : j < l.length := by omega
              have HD : Hid (bits .or .u64 (IntKind.u64.wrap ((N : Int) * 128)) (IntKind.u64.wrap (bits .and .u8 (l[j].toNat : Int) 127)) = ((numVal (T.drop j) : Nat) : Int)) := by
                have := digit_step T j (by rw [HT.out]; omega) HV.out
                rw [HG.out j (by omega) hjl] at this
                rw [HN.out]; exact this
              go_wp2
              go_roundw
              case rel => exact ⟨(j : Int) - 1, numVal (T.drop j), by omega, by omega, rfl, by rw [HD.out], by show _ = _; rw [show ((j : Int) - 1 + 1).toNat = j from by omega]⟩
              case measure => simp [intOf]
            · go_wp2
              go_ret3
              obtain rfl : k = -1 := by omega
              exact ⟨by rw [HO.out, HN.out, HZ.out]; rfl, rfl⟩
        · have h' : ((z : Int) == 10) = false := by simp; omega
          have H : Hid (¬ z = 10) := h
          have H0 : Hid (¬ z = 0) := h0
          clear HB h h0
          go_wp2_with (go_at_call 61; refine (numberSize_any l _ hs').mono ?_; rintro e w' ⟨rfl, rfl⟩; rw [HZ.out])
          go_loop [6, 7] (fun n i => ∃ (k : Int) (N : Nat), -1 ≤ k ∧ k < z ∧ i = .int .i64 k ∧ n = .int .u64 N ∧ Hid (N = numVal (T.drop (k + 1).toNat))) (fun _ i => (intOf i + 1).toNat)
          case atStart => exact ⟨(z : Int) - 1, 0, by omega, by omega, rfl, rfl, by show _ = _; rw [List.drop_eq_nil_of_le (by rw [HT.out]; omega)]; rfl⟩
          case round =>
            obtain ⟨k, N, hk1, hk2, rfl, rfl, HN⟩ := hrel
            by_cases hk : 0 ≤ k
            · obtain ⟨j, rfl⟩ := Int.eq_ofNat_of_zero_le hk
              have hjl : j < l.length := by omega
              have HD : Hid (bits .or .u64 (IntKind.u64.wrap ((N : Int) * 128)) (IntKind.u64.wrap (bits .and .u8 (l[j].toNat : Int) 127)) = ((numVal (T.drop j) : Nat) : Int)) := by
                have := digit_step T j (by rw [HT.out]; omega) HV.out
                rw [HG.out j (by omega) hjl] at this
                rw [HN.out]; exact this
              go_wp2
              go_roundw
              case rel => exact ⟨(j : Int) - 1, numVal (T.drop j), by omega, by omega, rfl, by rw [HD.out], by show _ = _; rw [show ((j : Int) - 1 + 1).toNat = j from by omega]⟩
              case measure => simp [intOf]
            · go_wp2
              go_ret3
              obtain rfl : k = -1 := by omega
              exact ⟨by rw [HO.out, HN.out, HZ.out]; rfl, rfl⟩
/-- A panic with one of the program's errors. -/
abbrev gaveUp (e : Int) : Ending := .panicked [{ v := .iface 24 (.int .i64 e), recovered := false }]
theorem most_ok (n m : Int) (w : World) (h : n ≤ m) :
    Calls Tryz.prog 64 #[.int .i64 n, .int .i64 m] w fun e w' => e = .returned (.tuple #[]) ∧ w' = w := by
  go_enter Tryz.func64, Tryz.ntmps64
  have h' : ¬ m < n := by omega
  go_wp2
  go_end0
  exact ⟨rfl, rfl⟩
theorem most_no (n m : Int) (w : World) (h : m < n) :
    Calls Tryz.prog 64 #[.int .i64 n, .int .i64 m] w fun e w' => e = gaveUp 2 ∧ w' = w := by
  go_enter Tryz.func64, Tryz.ntmps64
  go_wp2
  exact ⟨rfl, rfl, rfl⟩
/-- Below block B nothing has turned, but for block b. -/
structure KeptX (B b : Nat) (w w' : World) : Prop where
  os : w'.os = w.os
  tape : w'.tape = w.tape
  output : w'.output = w.output
  size : w.heap.size ≤ w'.heap.size
  block : ∀ k, k < B → k ≠ b → w'.heap[k]? = w.heap[k]?
theorem KeptX.refl (B b : Nat) (w : World) : KeptX B b w w := ⟨rfl, rfl, rfl, Nat.le_refl _, fun _ _ _ => rfl⟩
theorem KeptX.trans {B b : Nat} {a c d : World} (h : KeptX B b a c) (k : KeptX B b c d) : KeptX B b a d :=
  ⟨k.os.trans h.os, k.tape.trans h.tape, k.output.trans h.output, Nat.le_trans h.size k.size, fun i hi hn => (k.block i hi hn).trans (h.block i hi hn)⟩
theorem keptX_of {B b : Nat} {w w' : World} (h : Below B w w') : KeptX B b w w' := ⟨h.os, h.tape, h.output, h.size, fun k hk _ => h.block k hk⟩
theorem KeptX.below {B b A : Nat} {w w' : World} (h : KeptX B b w w') (h1 : A ≤ B) (h2 : A ≤ b) : Below A w w' := ⟨h.os, h.tape, h.output, h.size, fun k hk => h.block k (by omega) (by omega)⟩
theorem KeptX.setCell {B b : Nat} {w w' : World} (h : KeptX B b w w') (v : Value) : KeptX B b w (w'.setCell ⟨b, 0, none⟩ v) :=
  ⟨h.os, h.tape, h.output, by simpa [World.setCell] using h.size, fun k hk hn => (Below.heap_setCell _ _ _ _ hn).trans (h.block k hk hn)⟩
theorem KeptX.get {B b : Nat} {w w' : World} (h : KeptX B b w w') {k : Nat} {o : Obj} (hk : w.heap[k]? = some o) (h1 : k < B) (h2 : k ≠ b) : w'.heap[k]? = some o := (h.block k h1 h2).trans hk
/-- A label: name and value; a sample: time and bits; a series. -/
abbrev Lab := List UInt8 × List UInt8
abbrev Sam := Int × Nat
abbrev Ser := List Lab × List Sam
theorem two_cells {w : World} {b : Nat} {x y : Value} {t : TypeId} (h : w.heap[b]? = some (.cells #[x, y] t (0, 0))) : w.cell? ⟨b, 0, none⟩ = some x ∧ w.cell? ⟨b, 1, none⟩ = some y := by simp [World.cell?, h]
/-- A slice of labels below block B. -/
def readsLabels (w : World) (B : Nat) (v : Value) (ls : List Lab) : Prop :=
  ∃ ao cp, v = .slice ao ls.length cp ∧ ∀ i (h : i < ls.length), ∃ b o, ao = some ⟨b, o, none⟩ ∧ b < B ∧ w.cell? ⟨b, o + i * 2, none⟩ = some (.string (bs ls[i].1)) ∧ w.cell? ⟨b, o + i * 2 + 1, none⟩ = some (.string (bs ls[i].2))
def readsSamples (w : World) (B : Nat) (v : Value) (ls : List Sam) : Prop :=
  ∃ ao cp, v = .slice ao ls.length cp ∧ ∀ i (h : i < ls.length), ∃ b o, ao = some ⟨b, o, none⟩ ∧ b < B ∧ w.cell? ⟨b, o + i * 2, none⟩ = some (.int .i64 ls[i].1) ∧ w.cell? ⟨b, o + i * 2 + 1, none⟩ = some (.int .u64 ls[i].2)
def readsSeries (w : World) (B : Nat) (v : Value) (ls : List Ser) : Prop :=
  ∃ ao cp, v = .slice ao ls.length cp ∧ ∀ i (h : i < ls.length), ∃ b o x y, ao = some ⟨b, o, none⟩ ∧ b < B ∧ w.cell? ⟨b, o + i * 2, none⟩ = some x ∧ w.cell? ⟨b, o + i * 2 + 1, none⟩ = some y ∧ readsLabels w B x ls[i].1 ∧ readsSamples w B y ls[i].2
theorem readsLabels_mono {w : World} {B B' : Nat} {v : Value} {ls : List Lab} (h : readsLabels w B v ls) (hB : B ≤ B') : readsLabels w B' v ls := by
  obtain ⟨ao, cp, hv, h⟩ := h
  refine ⟨ao, cp, hv, fun i hi => ?_⟩
  obtain ⟨b, o, h1, h2, h3, h4⟩ := h i hi
  exact ⟨b, o, h1, by omega, h3, h4⟩
theorem readsLabels_below {w w' : World} {B : Nat} {v : Value} {ls : List Lab} (h : readsLabels w B v ls) (hb : Below B w w') : readsLabels w' B v ls := by
  obtain ⟨ao, cp, hv, h⟩ := h
  refine ⟨ao, cp, hv, fun i hi => ?_⟩
  obtain ⟨b, o, h1, h2, h3, h4⟩ := h i hi
  exact ⟨b, o, h1, h2, (hb.cell h2).trans h3, (hb.cell h2).trans h4⟩
theorem readsLabels_len {w : World} {B : Nat} {v : Value} {ls : List Lab} (h : readsLabels w B v ls) : ∃ ao cp, v = .slice ao ls.length cp := by
  obtain ⟨ao, cp, hv, _⟩ := h; exact ⟨ao, cp, hv⟩
theorem readsSamples_len {w : World} {B : Nat} {v : Value} {ls : List Sam} (h : readsSamples w B v ls) : ∃ ao cp, v = .slice ao ls.length cp := by
  obtain ⟨ao, cp, hv, _⟩ := h; exact ⟨ao, cp, hv⟩
/-- There is not too much of anything. -/
def serFits (x : Ser) : Prop := x.1.length ≤ 20 ∧ x.2.length ≤ 200 ∧ ∀ y ∈ x.1, y.1.length ≤ 20000 ∧ y.2.length ≤ 20000
def CountsOk (l : List Ser) : Prop := l.length ≤ 200 ∧ ∀ x ∈ l, serFits x
def TimesOk (l : List Ser) : Prop := ∀ x ∈ l, ∀ y ∈ x.2, -9007199254740991 ≤ y.1 ∧ y.1 ≤ 9007199254740991
/-- A check: it comes back where it holds, and gives up with an error where it doesn't. -/
def checked (p : Prop) (err : Int) (w : World) (e : Ending) (w' : World) : Prop := Below w.heap.size w w' ∧ ((p ∧ e = .returned (.tuple #[])) ∨ (¬ p ∧ e = gaveUp err))
set_option maxRecDepth 20000 in
set_option maxHeartbeats 2000000 in
theorem checkCounts_any (w : World) (v : Value) (ls : List Ser) (hv : readsSeries w w.heap.size v ls) (hlen : ls.length ≤ 9223372036854775807) (hin : ∀ x ∈ ls, x.1.length ≤ 9223372036854775807 ∧ x.2.length ≤ 9223372036854775807 ∧ ∀ y ∈ x.1, y.1.length ≤ 9223372036854775807 ∧ y.2.length ≤ 9223372036854775807) :
    Calls Tryz.prog 39 #[v] w (checked (CountsOk ls) 2 w) := by
  obtain ⟨ao, cp, rfl, hcells⟩ := id hv
  have HL := hide hlen
  have HI := hide hin
  have HV := hide hv
  clear hlen hin hv
  go_enter Tryz.func39, Tryz.ntmps39
  by_cases h200 : ls.length ≤ 200
  · go_wp2_with (go_at_call 64; refine (most_ok _ _ _ (by omega)).mono ?_; rintro e w' ⟨rfl, rfl⟩)
    rename World => w
    go_loopw [11] (fun i wr => ∃ k : Nat, k ≤ ls.length ∧ i = .int .i64 k ∧ Below w.heap.size w wr ∧ Hid (∀ j (h : j < ls.length), j < k → serFits ls[j])) (fun i _ => ls.length - (intOf i).toNat)
    case atStart => exact ⟨0, by omega, rfl, Below.refl _ _, hide (fun j _ h => by omega)⟩
    case round =>
      obtain ⟨k, hk, rfl, hb, HD⟩ := hrel
      by_cases hlt : k < ls.length
      · obtain ⟨lb, lo, x, y, rfl, hlB, c0, c1, rx, ry⟩ := hcells k hlt
        have d0 := (hb.cell (p := ⟨lb, lo + k * 2, none⟩) hlB).trans c0
        have d1 := (hb.cell (p := ⟨lb, lo + k * 2 + 1, none⟩) hlB).trans c1
        obtain ⟨xo, xc, rfl, xcells⟩ := id rx
        obtain ⟨yo, yc, rfl, _⟩ := id ry
        clear c0 c1 hcells
        have HK := hide (HI.out _ (List.getElem_mem hlt))
        by_cases h20 : ls[k].1.length ≤ 20
        · by_cases hs200 : ls[k].2.length ≤ 200
          · go_wp2_with (go_at_call 64; refine (most_ok _ _ _ (by omega)).mono ?_; rintro e w' ⟨rfl, rfl⟩)
            have hbs := hb.size
            have hb0 : Below w.heap.size w (wr.alloc (.cells #[.slice xo ls[k].1.length xc, .slice yo ls[k].2.length yc] 41)) := hb.alloc hbs _
            go_loopw [26] (fun i wi => ∃ q : Nat, q ≤ ls[k].1.length ∧ i = .int .i64 q ∧ Below w.heap.size w wi ∧ Hid (∀ j (h : j < ls[k].1.length), j < q → ls[k].1[j].1.length ≤ 20000 ∧ ls[k].1[j].2.length ≤ 20000)) (fun i _ => ls[k].1.length - (intOf i).toNat)
            case atStart => exact ⟨0, by omega, rfl, hb0, hide (fun j _ h => by omega)⟩
            case round =>
              obtain ⟨q, hq, rfl, hbi, HQ⟩ := hrel
              have hbis := hbi.size
              by_cases hqlt : q < ls[k].1.length
              · obtain ⟨nb, no, rfl, hnB, e0, e1⟩ := xcells q hqlt
                have f0 := (hbi.cell (p := ⟨nb, no + q * 2, none⟩) hnB).trans e0
                have f1 := (hbi.cell (p := ⟨nb, no + q * 2 + 1, none⟩) hnB).trans e1
                clear e0 e1 xcells d0 d1
                have hQQ := HK.out.2.2 _ (List.getElem_mem hqlt)
                by_cases hn : ls[k].1[q].1.length ≤ 20000
                · by_cases hm : ls[k].1[q].2.length ≤ 20000
                  · go_wp2_with (go_at_call 64; refine (most_ok _ _ _ (by omega)).mono ?_; rintro e w' ⟨rfl, rfl⟩)
                    go_roundw
                    case rel => exact ⟨q + 1, by omega, by go_num, hbi.alloc hbis _, hide (fun j hj h => by
                      by_cases e : j = q
                      · subst e; exact ⟨hn, hm⟩
                      · exact HQ.out j hj (by omega))⟩
                    case measure => simp [intOf]; omega
                  · go_wp2_with (first | (go_at_call 64; refine (most_ok _ _ _ (by omega)).mono ?_; rintro e w' ⟨rfl, rfl⟩) | (go_at_call 64; refine (most_no _ _ _ (by omega)).mono ?_; rintro e w' ⟨rfl, rfl⟩))
                    exact ⟨rfl, hbi.alloc hbis _, .inr ⟨fun hok => hm ((hok.2 _ (List.getElem_mem hlt)).2.2 _ (List.getElem_mem hqlt)).2, rfl⟩⟩
                · go_wp2_with (go_at_call 64; refine (most_no _ _ _ (by omega)).mono ?_; rintro e w' ⟨rfl, rfl⟩)
                  exact ⟨rfl, hbi.alloc hbis _, .inr ⟨fun hok => hn ((hok.2 _ (List.getElem_mem hlt)).2.2 _ (List.getElem_mem hqlt)).1, rfl⟩⟩
              · go_wp2
                go_roundw
                case rel => exact ⟨k + 1, by omega, by go_num, hbi, hide (fun j hj h => by
                  by_cases e : j = k
                  · subst e
                    refine ⟨h20, hs200, fun y hy => ?_⟩
                    obtain ⟨p, hp, rfl⟩ := List.getElem_of_mem hy
                    exact HQ.out p hp (by omega)
                  · exact HD.out j hj (by omega))⟩
                case measure => simp [intOf]; omega
          · go_wp2_with (first | (go_at_call 64; refine (most_ok _ _ _ (by omega)).mono ?_; rintro e w' ⟨rfl, rfl⟩) | (go_at_call 64; refine (most_no _ _ _ (by omega)).mono ?_; rintro e w' ⟨rfl, rfl⟩))
            exact ⟨rfl, hb.alloc hb.size _, .inr ⟨fun hok => hs200 (hok.2 _ (List.getElem_mem hlt)).2.1, rfl⟩⟩
        · go_wp2_with (go_at_call 64; refine (most_no _ _ _ (by omega)).mono ?_; rintro e w' ⟨rfl, rfl⟩)
          exact ⟨rfl, hb.alloc hb.size _, .inr ⟨fun hok => h20 (hok.2 _ (List.getElem_mem hlt)).1, rfl⟩⟩
      · go_wp2
        go_end0
        exact ⟨hb, .inl ⟨⟨h200, fun x hx => by obtain ⟨p, hp, rfl⟩ := List.getElem_of_mem hx; exact HD.out p hp (by omega)⟩, rfl⟩⟩
  · have := HL.out
    go_wp2_with (go_at_call 64; refine (most_no _ _ _ (by omega)).mono ?_; rintro e w' ⟨rfl, rfl⟩)
    exact ⟨rfl, Below.refl _ _, .inr ⟨fun hok => h200 hok.1, rfl⟩⟩
set_option maxRecDepth 20000 in
set_option maxHeartbeats 2000000 in
theorem checkTimes_any (w : World) (v : Value) (ls : List Ser) (hv : readsSeries w w.heap.size v ls) (hok : CountsOk ls) :
    Calls Tryz.prog 40 #[v] w (checked (TimesOk ls) 3 w) := by
  obtain ⟨ao, cp, rfl, hcells⟩ := id hv
  have hlen := hok.1
  have HI := hide hok.2
  clear hok hv
  go_enter Tryz.func40, Tryz.ntmps40
  go_wp2
  go_loopw [8] (fun i wr => ∃ k : Nat, k ≤ ls.length ∧ i = .int .i64 k ∧ Below w.heap.size w wr ∧ Hid (∀ j (h : j < ls.length), j < k → ∀ y ∈ ls[j].2, -9007199254740991 ≤ y.1 ∧ y.1 ≤ 9007199254740991)) (fun i _ => ls.length - (intOf i).toNat)
  case atStart => exact ⟨0, by omega, rfl, Below.refl _ _, hide (fun j _ h => by omega)⟩
  case round =>
    obtain ⟨k, hk, rfl, hb, HD⟩ := hrel
    by_cases hlt : k < ls.length
    · obtain ⟨lb, lo, x, y, rfl, hlB, c0, c1, rx, ry⟩ := hcells k hlt
      have d0 := (hb.cell (p := ⟨lb, lo + k * 2, none⟩) hlB).trans c0
      have d1 := (hb.cell (p := ⟨lb, lo + k * 2 + 1, none⟩) hlB).trans c1
      obtain ⟨xo, xc, rfl, _⟩ := id rx
      obtain ⟨yo, yc, rfl, ycells⟩ := id ry
      clear c0 c1 hcells
      have hs200 : ls[k].2.length ≤ 200 := (HI.out _ (List.getElem_mem hlt)).2.1
      go_wp2
      have hbs := hb.size
      have hb0 : Below w.heap.size w (wr.alloc (.cells #[.slice xo ls[k].1.length xc, .slice yo ls[k].2.length yc] 41)) := hb.alloc hbs _
      go_loopw [15] (fun i wi => ∃ q : Nat, q ≤ ls[k].2.length ∧ i = .int .i64 q ∧ Below w.heap.size w wi ∧ Hid (∀ j (h : j < ls[k].2.length), j < q → -9007199254740991 ≤ ls[k].2[j].1 ∧ ls[k].2[j].1 ≤ 9007199254740991)) (fun i _ => ls[k].2.length - (intOf i).toNat)
      case atStart => exact ⟨0, by omega, rfl, hb0, hide (fun j _ h => by omega)⟩
      case round =>
        obtain ⟨q, hq, rfl, hbi, HQ⟩ := hrel
        have hbis := hbi.size
        by_cases hqlt : q < ls[k].2.length
        · obtain ⟨nb, no, rfl, hnB, e0, e1⟩ := ycells q hqlt
          have f0 := (hbi.cell (p := ⟨nb, no + q * 2, none⟩) hnB).trans e0
          have f1 := (hbi.cell (p := ⟨nb, no + q * 2 + 1, none⟩) hnB).trans e1
          clear e0 e1 ycells d0 d1
          by_cases hlo : ls[k].2[q].1 < -9007199254740991
          · go_wp2
            exact ⟨rfl, hbi.alloc hbis _, .inr ⟨fun hok => by have := hok _ (List.getElem_mem hlt) _ (List.getElem_mem hqlt); omega, rfl⟩⟩
          · by_cases hhi : 9007199254740991 < ls[k].2[q].1
            · go_wp2
              exact ⟨rfl, hbi.alloc hbis _, .inr ⟨fun hok => by have := hok _ (List.getElem_mem hlt) _ (List.getElem_mem hqlt); omega, rfl⟩⟩
            · go_wp2
              go_roundw
              case rel => exact ⟨q + 1, by omega, by go_num, hbi.alloc hbis _, hide (fun j hj h => by
                by_cases e : j = q
                · subst e; exact ⟨by omega, by omega⟩
                · exact HQ.out j hj (by omega))⟩
              case measure => simp [intOf]; omega
        · go_wp2
          go_roundw
          case rel => exact ⟨k + 1, by omega, by go_num, hbi, hide (fun j hj h y hy => by
            by_cases e : j = k
            · subst e
              obtain ⟨p, hp, rfl⟩ := List.getElem_of_mem hy
              exact HQ.out p hp (by omega)
            · exact HD.out j hj (by omega) y hy)⟩
          case measure => simp [intOf]; omega
    · go_wp2
      go_end0
      exact ⟨hb, .inl ⟨fun x hx => by obtain ⟨p, hp, rfl⟩ := List.getElem_of_mem hx; exact HD.out p hp (by omega), rfl⟩⟩
theorem assert_yes (v : Value) (w : World) : (Instr.typeAssert (.iface 24 v) 20 24 true).run Tryz.prog w = .ok (.tuple #[v, .bool true]) w := by kernel_rfl
set_option maxRecDepth 20000 in
set_option maxHeartbeats 1000000 in
theorem catch_panicking (p : Addr) (x err : Int) (older : List PanicEntry) (w : World) (hc : w.cell? p = some (.int .i64 x)) (hz : w.frozen? p = false) :
    CallsD Tryz.prog 63 #[.pointer (some p)] (.panicking ({ v := .iface 24 (.int .i64 err), recovered := false } :: older)) w fun e u' w' =>
      e = .returned (.tuple #[]) ∧ u' = .panicking ({ v := .iface 24 (.int .i64 err), recovered := true } :: older) ∧ w' = w.setCell p (.int .i64 err) := by
  refine callsD_of_wpS Tryz.func63 rfl fun c₀ cs hu => ?_
  simp only [Tryz.ntmps63, List.size_toArray, List.length_cons, List.length_nil, Nat.reduceAdd, Nat.reduceSub, Array.replicate_succ,
     Array.replicate_zero, List.push_toArray, List.append_toArray, List.nil_append, List.cons_append]
  apply wpS_seq
  apply wpS_region
  simp [wpOpsS, go_sem, recoverD, hu, Exit.thenS]
  apply wpS_seq
  apply wpS_region
  simp [wpOpsS, go_sem, Exit.thenS]
  refine wpS_cond (t := true) (by simp [Act.eval, Array.replicate]) ?_
  simp only [if_true]
  refine wpS_of_wp ?_
  have has := assert_yes
  have hnot : ∀ (x : Bool) (w : World), (Op.unary .not (.bool x)).run Tryz.prog w = .ok (.bool (!x)) w := fun _ _ => rfl
  go_wp2
  cases c₀
  simp_all [bodyPostS, results, Tryz.results63]
set_option maxRecDepth 20000 in
set_option maxHeartbeats 1000000 in
theorem catch_idle (p : Addr) (w : World) :
    CallsD Tryz.prog 63 #[.pointer (some p)] .returning w fun e u' w' => e = .returned (.tuple #[]) ∧ u' = .returning ∧ w' = w := by
  refine callsD_of_wpS Tryz.func63 rfl fun c₀ cs hu => ?_
  simp only [Tryz.ntmps63, List.size_toArray, List.length_cons, List.length_nil, Nat.reduceAdd, Nat.reduceSub, Array.replicate_succ,
     Array.replicate_zero, List.push_toArray, List.append_toArray, List.nil_append, List.cons_append]
  apply wpS_seq
  apply wpS_region
  simp [wpOpsS, go_sem, recoverD, hu, Exit.thenS]
  apply wpS_seq
  apply wpS_region
  simp [wpOpsS, go_sem, Exit.thenS]
  refine wpS_cond (t := false) (by simp [Act.eval, Array.replicate]) ?_
  simp only [Bool.false_eq_true, if_false]
  refine wpS_of_wp (wp_skip ?_)
  cases c₀
  simp_all [bodyPostS, results, Tryz.results63]
/-- What work came to: it came back, or gave up with an error. -/
def worked (R : Int → World → Prop) (e : Ending) (w' : World) : Prop := (e = .returned (.tuple #[]) ∧ R 0 w') ∨ ∃ err, e = gaveUp err ∧ R err w'
set_option maxRecDepth 20000 in
set_option maxHeartbeats 1000000 in
/-- 'attempt': the error with which work gave up, in a world that is work's but for attempt's own variable. -/
theorem attempt_any (w : World) (g : Nat) (cap : Array Value) (R : Int → World → Prop)
    (hcf : ∀ (args : Array Value) (w : World), (callFunc g args).run Tryz.prog w = .ok (.enter g args) w)
    (hwork : Calls Tryz.prog g cap (w.alloc (.cells #[.int .i64 0] 24)) (worked fun err w' => R err w' ∧ w'.heap[w.heap.size]? = some (.cells #[.int .i64 0] 24 (0, 0)))) :
    Calls Tryz.prog 37 #[.func (.func g) #[] cap] w fun e w' => ∃ err w1, e = .returned (.int .i64 err) ∧ R err w1 ∧ w' = w1.setCell ⟨w.heap.size, 0, none⟩ (.int .i64 err) := by
  have HF := hide hwork
  clear hwork
  have hmf : ∀ (fn : Fn) (first cap : Array Value) (w : World), (Instr.makeFunc fn first cap).run Tryz.prog w = .ok (.func fn first cap) w := fun _ _ _ _ => rfl
  go_enter_defers Tryz.func37, Tryz.ntmps37
  go_wp2_with fail
  refine HF.out.mono ?_
  clear HF hcf
  rintro e w1 (⟨rfl, hR, hh⟩ | ⟨err, rfl, hR, hh⟩)
  · have hc := cell_of_one hh
    have hz := free_of_one hh
    go_wp2
    refine leaves_cons (f := 63) (args := #[.pointer (some ⟨w.heap.size, 0, none⟩)]) (by simp) (by simp [go_sem]) ?_
    refine (catch_idle ⟨w.heap.size, 0, none⟩ _).mono ?_
    rintro e u' w'' ⟨rfl, rfl, rfl⟩
    have hc2 := cell_of_one (one_setCell (u := .int .i64 0) hh)
    simp [Leaves, settle, results, Tryz.results37, go_sem, hc2]
    exact ⟨w1, hR, rfl⟩
  · have hc := cell_of_one hh
    have hz := free_of_one hh
    refine leaves_cons (f := 63) (args := #[.pointer (some ⟨w.heap.size, 0, none⟩)]) (by simp) (by simp [go_sem]) ?_
    refine (catch_panicking ⟨w.heap.size, 0, none⟩ 0 err [] w1 hc hz).mono ?_
    rintro e u' w'' ⟨rfl, rfl, rfl⟩
    have hc2 := cell_of_one (one_setCell (u := .int .i64 err) hh)
    simp [Leaves, settle, results, Tryz.results37, go_sem, hc2]
    exact ⟨w1, hR, rfl⟩
def countsB (l : List Ser) : Bool := decide (l.length ≤ 200) && l.all fun x => decide (x.1.length ≤ 20) && (decide (x.2.length ≤ 200) && x.1.all fun y => decide (y.1.length ≤ 20000) && decide (y.2.length ≤ 20000))
def timesB (l : List Ser) : Bool := l.all fun x => x.2.all fun y => decide (-9007199254740991 ≤ y.1) && decide (y.1 ≤ 9007199254740991)
theorem countsB_iff (l : List Ser) : CountsOk l ↔ countsB l = true := by
  simp [CountsOk, countsB, serFits]
theorem timesB_iff (l : List Ser) : TimesOk l ↔ timesB l = true := by
  simp [TimesOk, timesB]
/-- Every length fits an int. -/
def lensFit (ls : List Ser) : Prop := ls.length ≤ 9223372036854775807 ∧ ∀ x ∈ ls, x.1.length ≤ 9223372036854775807 ∧ x.2.length ≤ 9223372036854775807 ∧ ∀ y ∈ x.1, y.1.length ≤ 9223372036854775807 ∧ y.2.length ≤ 9223372036854775807
theorem takeWhile_len (p : UInt8 → Bool) : ∀ (l : List UInt8) (k : Nat), k ≤ l.length → (∀ j (h : j < l.length), j < k → p l[j] = true) → (k = l.length ∨ ∃ h : k < l.length, p l[k] = false) → (l.takeWhile p).length = k
  | [], k, hk, _, _ => by simp at hk; simp [hk]
  | c :: l, 0, hk, ha, hs => by
    rcases hs with hs | ⟨h, hs⟩
    · simp at hs
    · simp at hs
      simp [List.takeWhile_cons, hs]
  | c :: l, k + 1, hk, ha, hs => by
    have h0 := ha 0 (by simp) (by omega)
    simp at h0
    have ih := takeWhile_len p l k (by simpa using hk) (fun j h hj => by have := ha (j + 1) (by simp; omega) (by omega); simpa using this) (by
      rcases hs with hs | ⟨h, hs⟩
      · exact .inl (by simpa using hs)
      · exact .inr ⟨by simpa using h, by simpa using hs⟩)
    simp [List.takeWhile_cons, h0, ih]
theorem numMany_eq (l : List UInt8) (k : Nat) (hk : k ≤ l.length) (h9 : k ≤ 9) (ha : ∀ j (h : j < l.length), j < k → 128 ≤ l[j].toNat) (hs : k = l.length ∨ k = 9 ∨ ∃ h : k < l.length, l[k].toNat < 128) : numMany l = k := by
  unfold numMany
  refine takeWhile_len _ _ k (by simp; omega) (fun j h hj => ?_) ?_
  · simp at h
    simp [List.getElem_take, ha j (by omega) hj]
  · by_cases e : k = (l.take 9).length
    · exact .inl e
    · rw [List.length_take] at e
      right
      refine ⟨by simp; omega, ?_⟩
      rcases hs with hs | hs | ⟨h, hs⟩
      · omega
      · omega
      · simp [List.getElem_take]; omega
set_option maxRecDepth 20000 in
set_option maxHeartbeats 2000000 in
theorem numberAt_any (l : List UInt8) (w : World) (hs : l.length ≤ 9223372036854775807) :
    Calls Tryz.prog 57 #[.string (bs l)] w fun e w' => e = .returned (.tuple #[.int .u64 (numAt l).1, .int .i64 (numAt l).2.1, .int .i64 (numAt l).2.2]) ∧ w' = w := by
  go_enter Tryz.func57, Tryz.ntmps57
  go_wp2
  go_loop [5] (fun i => ∃ k : Nat, k ≤ l.length ∧ k ≤ 9 ∧ i = .int .i64 k ∧ Hid (∀ j (h : j < l.length), j < k → 128 ≤ l[j].toNat)) (fun i => 9 - (intOf i).toNat)
  case atStart => exact ⟨0, by omega, by omega, rfl, hide (fun j _ h => by omega)⟩
  case round =>
    obtain ⟨k, hk, hk9, rfl, HA⟩ := hrel
    by_cases hgo : ∃ h : k < l.length, 128 ≤ l[k].toNat ∧ k < 9
    · obtain ⟨h1, h2, h3⟩ := hgo
      have t1 : (128 : Int) ≤ (l[k].toNat : Int) := by omega
      go_wp2
      go_round
      case rel => exact ⟨k + 1, by omega, by omega, by go_num, hide (fun j hj h => by
        by_cases e : j = k
        · subst e; exact h2
        · exact HA.out j hj (by omega))⟩
      case measure => simp [intOf]; omega
    · have hstop : k = l.length ∨ k = 9 ∨ ∃ h : k < l.length, l[k].toNat < 128 := by
        by_cases c1 : k = l.length
        · exact .inl c1
        · by_cases c2 : k = 9
          · exact .inr (.inl c2)
          · refine .inr (.inr ⟨by omega, ?_⟩)
            by_cases c3 : l[k].toNat < 128
            · exact c3
            · exact absurd ⟨by omega, by omega, by omega⟩ hgo
      have HM := hide (numMany_eq l k hk hk9 HA.out hstop)
      by_cases c1 : k = l.length
      · have HN : Hid (numAt l = (0, 0, 1)) := by show _ = _; simp [numAt, HM.out, c1]
        go_wp2
        go_ret3
        exact ⟨by rw [HN.out]; rfl, rfl⟩
      · have hkl : k < l.length := by omega
        have c1' : ((k : Int) == (l.length : Int)) = false := by rw [beq_eq_false_iff_ne]; omega
        have HT : Hid ((l.take (k + 1)).length = k + 1) := by show _ = _; rw [List.length_take]; omega
        have HG : Hid (∀ j (hj : j < k + 1) (hl : j < l.length), (l.take (k + 1))[j]'(by rw [HT.out]; exact hj) = l[j]) := fun j hj hl => List.getElem_take ..
        by_cases c2 : k = 9
        · subst c2
          have t9 : ((9 : Int) == (l.length : Int)) = false := by rw [beq_eq_false_iff_ne]; omega
          by_cases d : 1 < l[9].toNat
          · have d' : (1 : Int) < (l[9].toNat : Int) := by omega
            have HN : Hid (numAt l = (0, 0, 3)) := by show _ = _; unfold numAt; rw [HM.out, if_neg c1, if_pos ⟨rfl, by rw [getD_get _ _ hkl]; exact d⟩]
            clear c1 d hgo hstop
            go_wp2
            all_goals go_ret3
            all_goals exact ⟨by rw [HN.out]; rfl, rfl⟩
          · have d' : ¬ (1 : Int) < (l[9].toNat : Int) := by omega
            have HO : Hid (numAt l = (numVal (l.take 10), 10, 0)) := by show _ = _; unfold numAt; rw [HM.out, if_neg c1, if_neg (fun h => d (by have := h.2; rw [getD_get _ _ hkl] at this; exact this))]
            have HV : Hid (numVal (l.take 10) < 18446744073709551616) := numVal_ten _ HT.out (by rw [List.getD_eq_getElem?_getD, List.getElem?_take_of_lt (by omega), ← List.getD_eq_getElem?_getD, getD_get _ _ hkl]; exact d)
            clear c1 d hgo hstop
            generalize l.take 10 = T at HT HG HO HV
            go_wp2
            go_loop [6, 7] (fun n i => ∃ (m : Int) (N : Nat), -1 ≤ m ∧ m < 10 ∧ i = .int .i64 m ∧ n = .int .u64 N ∧ Hid (N = numVal (T.drop (m + 1).toNat))) (fun _ i => (intOf i + 1).toNat)
            case atStart => exact ⟨9, 0, by omega, by omega, rfl, rfl, by show _ = _; rw [List.drop_eq_nil_of_le (by rw [HT.out]; omega)]; rfl⟩
            case round =>
              obtain ⟨m, N, hm1, hm2, rfl, rfl, HN⟩ := hrel
              by_cases hm : 0 ≤ m
              · obtain ⟨j, rfl⟩ := Int.eq_ofNat_of_zero_le hm
                have hjl : j < l.length := by omega
                have HD : Hid (IntKind.u64.wrap (IntKind.u64.wrap ((N : Int) * 128) + (l[j].toNat : Int) % 128) = ((numVal (T.drop j) : Nat) : Int)) := by
                  have e := numVal_drop T j (by rw [HT.out]; omega)
                  have e2 := numVal_drop_le T j
                  have e3 := HV.out
                  have e4 : N = numVal (T.drop (j + 1)) := HN.out
                  rw [HG.out j (by omega) hjl] at e
                  show _ = _
                  rw [wrap_u64_small ((N : Int) * 128) (by omega) (by omega), wrap_u64_small _ (by omega) (by omega)]
                  omega
                go_wp2
                go_round
                case rel => exact ⟨(j : Int) - 1, numVal (T.drop j), by omega, by omega, rfl, by rw [HD.out], by show _ = _; rw [show ((j : Int) - 1 + 1).toNat = j from by omega]⟩
                case measure => simp [intOf]
              · go_wp2
                go_ret3
                obtain rfl : m = -1 := by omega
                exact ⟨by rw [HO.out, HN.out]; rfl, rfl⟩
        · have hlow : l[k].toNat < 128 := by
            rcases hstop with h | h | ⟨_, h⟩
            · omega
            · omega
            · exact h
          have t1 : ¬ (128 : Int) ≤ (l[k].toNat : Int) := by omega
          have t9 : ((k : Int) == 9) = false := by rw [beq_eq_false_iff_ne]; omega
          have HO : Hid (numAt l = (numVal (l.take (k + 1)), k + 1, 0)) := by show _ = _; simp [numAt, HM.out, c1, c2]
          have HV : Hid (numVal (l.take (k + 1)) < 18446744073709551616) := numVal_nine _ (by rw [HT.out]; omega)
          have C2 := hide c2
          clear c1 hgo hstop c2
          generalize l.take (k + 1) = T at HT HG HO HV
          go_wp2
          go_loop [6, 7] (fun n i => ∃ (m : Int) (N : Nat), -1 ≤ m ∧ m < k + 1 ∧ i = .int .i64 m ∧ n = .int .u64 N ∧ Hid (N = numVal (T.drop (m + 1).toNat))) (fun _ i => (intOf i + 1).toNat)
          case atStart => exact ⟨k, 0, by omega, by omega, rfl, rfl, by show _ = _; rw [List.drop_eq_nil_of_le (by rw [HT.out]; omega)]; rfl⟩
          case round =>
            obtain ⟨m, N, hm1, hm2, rfl, rfl, HN⟩ := hrel
            by_cases hm : 0 ≤ m
            · obtain ⟨j, rfl⟩ := Int.eq_ofNat_of_zero_le hm
              have hjl : j < l.length := by omega
              have HD : Hid (IntKind.u64.wrap (IntKind.u64.wrap ((N : Int) * 128) + (l[j].toNat : Int) % 128) = ((numVal (T.drop j) : Nat) : Int)) := by
                have e := numVal_drop T j (by rw [HT.out]; omega)
                have e2 := numVal_drop_le T j
                have e3 := HV.out
                have e4 : N = numVal (T.drop (j + 1)) := HN.out
                rw [HG.out j (by omega) hjl] at e
                show _ = _
                rw [wrap_u64_small ((N : Int) * 128) (by omega) (by omega), wrap_u64_small _ (by omega) (by omega)]
                omega
              go_wp2
              go_round
              case rel => exact ⟨(j : Int) - 1, numVal (T.drop j), by omega, by omega, rfl, by rw [HD.out], by show _ = _; rw [show ((j : Int) - 1 + 1).toNat = j from by omega]⟩
              case measure => simp [intOf]
            · go_wp2
              go_ret3
              obtain rfl : m = -1 := by omega
              exact ⟨by rw [HO.out, HN.out]; rfl, rfl⟩
end Go.Proofs.YtmdakfmecfcbhaaGreat
namespace Go.Proofs.YtmdakfmecfcbhaaGreat
theorem takeWhile_ends (p : UInt8 → Bool) : ∀ (l : List UInt8), (∀ j (h : j < l.length), j < (l.takeWhile p).length → p l[j] = true) ∧ ((l.takeWhile p).length = l.length ∨ ∃ h : (l.takeWhile p).length < l.length, p (l[(l.takeWhile p).length]'h) = false)
  | [] => by simp
  | c :: l => by
    have ih := takeWhile_ends p l
    by_cases hc : p c = true
    · simp only [List.takeWhile_cons, hc, if_true, List.length_cons]
      refine ⟨fun j h hj => ?_, ?_⟩
      · cases j with
        | zero => simpa using hc
        | succ j => have := ih.1 j (by simpa using h) (by omega); simpa using this
      · rcases ih.2 with h | ⟨h, h'⟩
        · exact .inl (by omega)
        · exact .inr ⟨by omega, by simpa using h'⟩
    · have hc' : p c = false := by simpa using hc
      simp [List.takeWhile_cons, hc']
theorem numMany_ends (l : List UInt8) : numMany l ≤ l.length ∧ numMany l ≤ 9 ∧ (∀ j (h : j < l.length), j < numMany l → 128 ≤ l[j].toNat) ∧ (numMany l = l.length ∨ numMany l = 9 ∨ ∃ h : numMany l < l.length, (l[numMany l]'h).toNat < 128) := by
  have h := takeWhile_ends (fun c => decide (128 ≤ c.toNat)) (l.take 9)
  have hle : numMany l ≤ (l.take 9).length := by
    unfold numMany
    rcases h.2 with h | ⟨h, _⟩ <;> omega
  rw [List.length_take] at hle
  refine ⟨by omega, by omega, fun j hj hk => ?_, ?_⟩
  · have := h.1 j (by rw [List.length_take]; omega) hk
    rw [List.getElem_take] at this
    simpa using this
  · rcases h.2 with h | ⟨h, h'⟩
    · have : numMany l = min 9 l.length := by unfold numMany; rw [h, List.length_take]
      omega
    · have hm : numMany l < min 9 l.length := by rw [← List.length_take]; exact h
      refine .inr (.inr ⟨by omega, ?_⟩)
      rw [List.getElem_take] at h'
      have h2 : ¬ 128 ≤ (l[numMany l]'(by omega)).toNat := by simpa [numMany] using h'
      omega
/-- Both ways to read a number agree, but for which error. -/
theorem numAt_read (l : List UInt8) : ((numAt l).2.2 = 0 ∧ readNum l = numAt l) ∨ ((numAt l).2.2 ≠ 0 ∧ (readNum l).2.2 ≠ 0) := by
  obtain ⟨h1, h2, h3, h4⟩ := numMany_ends l
  by_cases c1 : numMany l = l.length
  · right
    have hz : numSize l = 0 := numSize_miss l fun j hj => by have := h3 j hj (by omega); omega
    unfold numAt readNum
    rw [if_pos c1, if_pos hz]
    simp
  · by_cases c2 : numMany l = 9 ∧ 1 < (l.getD 9 0).toNat
    · right
      have hl : 9 < l.length := by omega
      have hg := getD_get l 9 hl
      have h9 := c2.2
      rw [hg] at h9
      unfold numAt
      rw [if_neg c1, if_pos c2]
      refine ⟨by simp, ?_⟩
      by_cases c3 : l[9].toNat < 128
      · have hz : numSize l = 10 := numSize_hit l 9 hl (fun j hj hk => by have := h3 j hj (by omega); omega) (by omega)
        unfold readNum
        rw [hz, if_neg (by omega), if_pos (.inr ⟨rfl, c2.2⟩)]
        simp
      · unfold readNum
        by_cases hz : numSize l = 0
        · rw [if_pos hz]; simp
        · by_cases hz2 : 10 < numSize l
          · rw [if_neg hz, if_pos (.inl hz2)]; simp
          · exfalso
            -- a hit at ten or below would be at a byte below 128
            have key : ∀ k, (hk : k < l.length) → numSize l = k + 1 → l[k].toNat < 128 := by
              intro k hk e
              unfold numSize at e
              split at e
              · rename_i i hi
                obtain ⟨hlt, hp, _⟩ := List.findIdx?_eq_some_iff_getElem.1 hi
                have : i = k := by omega
                subst this
                simpa using hp
              · omega
            have hle := numSize_le l
            obtain ⟨k, hk⟩ : ∃ k, numSize l = k + 1 := ⟨numSize l - 1, by omega⟩
            have := key k (by omega) hk
            by_cases e : k = 9
            · subst e; exact c3 this
            · have := h3 k (by omega) (by omega); omega
    · left
      have hlow : ∃ h : numMany l < l.length, (l[numMany l]'h).toNat < 128 := by
        rcases h4 with h | h | h
        · exact absurd h c1
        · have hl : 9 < l.length := by omega
          have h9 : ¬ 1 < (l.getD 9 0).toNat := fun k => c2 ⟨h, k⟩
          rw [getD_get l 9 hl] at h9
          exact ⟨by omega, by simp only [h]; omega⟩
        · exact h
      obtain ⟨hl, hlow⟩ := hlow
      have hz : numSize l = numMany l + 1 := numSize_hit l (numMany l) hl (fun j hj hk => by have := h3 j hj hk; omega) (by omega)
      unfold numAt readNum
      rw [if_neg c1, if_neg c2, hz, if_neg (by omega), if_neg (fun h => by
        rcases h with h | ⟨h, h'⟩
        · omega
        · exact c2 ⟨by omega, h'⟩)]
      exact ⟨rfl, rfl⟩
theorem cutNum_at (l : List UInt8) : cutNum l = if (numAt l).2.2 = 0 then some ((numAt l).1, l.drop (numAt l).2.1) else none := by
  unfold cutNum
  rcases numAt_read l with ⟨h1, h2⟩ | ⟨h1, h2⟩
  · rw [h2, if_pos h1]
  · rw [if_neg h2, if_neg h1]
/-- A field with its bytes as they stand; what it is in the program's. -/
def asFld (f : Fld) : Fld := if f.1 % 8 = 1 then (f.1, lowB f.2.2, []) else if f.1 % 8 = 5 then (f.1, 0, []) else f
def rawField (l : List UInt8) : Option (Fld × List UInt8) :=
  match cutNum l with
  | none => none
  | some (h, r) =>
    if h / 8 < 1 ∨ 536870911 < h / 8 then none
    else if h % 8 = 0 then
      match cutNum r with
      | none => none
      | some (n, r') => some ((h, n, []), r')
    else if h % 8 = 1 then (if 8 ≤ r.length then some ((h, 0, r.take 8), r.drop 8) else none)
    else if h % 8 = 2 then
      match cutNum r with
      | none => none
      | some (n, r') => if n ≤ r'.length then some ((h, 0, r'.take n), r'.drop n) else none
    else if h % 8 = 5 then (if 4 ≤ r.length then some ((h, 0, r.take 4), r.drop 4) else none)
    else none
theorem oneField_raw (l : List UInt8) : oneField l = (rawField l).map fun x => (asFld x.1, x.2) := by
  unfold oneField rawField
  cases cutNum l with
  | none => rfl
  | some x =>
    obtain ⟨h, r⟩ := x
    simp only
    by_cases c0 : h / 8 < 1 ∨ 536870911 < h / 8
    · simp only [c0, if_true, Option.map_none]
    · rw [if_neg c0, if_neg c0]
      by_cases c1 : h % 8 = 0
      · rw [if_pos c1, if_pos c1]
        cases cutNum r with
        | none => rfl
        | some y => simp [asFld, c1]
      · rw [if_neg c1, if_neg c1]
        by_cases c2 : h % 8 = 1
        · rw [if_pos c2, if_pos c2]
          by_cases c : 8 ≤ r.length
          · simp [c, asFld, c2]
          · simp [c]
        · rw [if_neg c2, if_neg c2]
          by_cases c3 : h % 8 = 2
          · rw [if_pos c3, if_pos c3]
            cases cutNum r with
            | none => rfl
            | some y =>
              by_cases c : y.1 ≤ y.2.length
              · simp [c, asFld, c3]
              · simp [c]
          · rw [if_neg c3, if_neg c3]
            by_cases c4 : h % 8 = 5
            · rw [if_pos c4, if_pos c4]
              by_cases c : 4 ≤ r.length
              · simp [c, asFld, c4]
              · simp [c]
            · rw [if_neg c4, if_neg c4]; rfl
def rawF : Nat → List UInt8 → List Fld × Bool
  | 0, _ => ([], true)
  | k + 1, l =>
    if l = [] then ([], true)
    else
      match rawField l with
      | none => ([], false)
      | some (f, r) => (f :: (rawF k r).1, (rawF k r).2)
def raws (l : List UInt8) : List Fld × Bool := rawF l.length l
theorem fieldsF_raw : ∀ (k : Nat) (l : List UInt8), fieldsF k l = ((rawF k l).1.map asFld, (rawF k l).2)
  | 0, l => rfl
  | k + 1, l => by
    simp only [fieldsF, rawF]
    split
    · rfl
    · rw [oneField_raw]
      cases rawField l with
      | none => rfl
      | some x =>
        obtain ⟨f, r⟩ := x
        simp [fieldsF_raw k r]
/-- The program's fields are the reference's, told otherwise. -/
theorem fields_raw (l : List UInt8) : fields l = ((raws l).1.map asFld, (raws l).2) := fieldsF_raw _ _
theorem rawField_shorter {l r : List UInt8} {f : Fld} (h : rawField l = some (f, r)) : r.length < l.length := by
  have e := oneField_raw l
  rw [h] at e
  exact (oneField_shorter e).1
theorem rawF_any : ∀ (k k' : Nat) (l : List UInt8), l.length ≤ k → l.length ≤ k' → rawF k l = rawF k' l := by
  intro k
  induction k with
  | zero =>
    intro k' l h _
    have : l = [] := List.eq_nil_of_length_eq_zero (by omega)
    subst this
    cases k' <;> rfl
  | succ k ih =>
    intro k' l h h'
    cases k' with
    | zero =>
      have : l = [] := List.eq_nil_of_length_eq_zero (by omega)
      subst this
      rfl
    | succ k' =>
      simp only [rawF]
      split
      · rfl
      · split
        · rfl
        · rename_i f r hf
          have := rawField_shorter hf
          rw [ih k' r (by omega) (by omega)]
theorem raws_nil : raws [] = ([], true) := rfl
theorem raws_none {l : List UInt8} (h0 : l ≠ []) (h : rawField l = none) : raws l = ([], false) := by
  cases l with
  | nil => exact absurd rfl h0
  | cons c l => simp [raws, rawF, h]
theorem raws_some {l r : List UInt8} {f : Fld} (h0 : l ≠ []) (h : rawField l = some (f, r)) : raws l = (f :: (raws r).1, (raws r).2) := by
  have hr := rawField_shorter h
  cases l with
  | nil => exact absurd rfl h0
  | cons c l =>
    simp only [List.length_cons] at hr
    simp only [raws, List.length_cons, rawF, List.cons_ne_nil, if_false, h]
    rw [rawF_any l.length r.length r (by omega) (Nat.le_refl _)]
end Go.Proofs.YtmdakfmecfcbhaaGreat
namespace Go.Proofs.YtmdakfmecfcbhaaGreat
open Go.RowKit
attribute [local go_sem] bs_size bs_toList bs_append bs_get bs_extract
set_option maxRecDepth 20000 in
set_option maxHeartbeats 1000000 in
theorem isTime_any (t : Int) (w : World) :
    Calls Tryz.prog 26 #[.int .i64 t] w fun e w' => e = .returned (.bool (decide (-9007199254740991 ≤ t) && decide (t ≤ 9007199254740991))) ∧ w' = w := by
  go_enter Tryz.func26, Tryz.ntmps26
  by_cases h : -9007199254740991 ≤ t
  · by_cases h' : t ≤ 9007199254740991
    · go_wp2
      go_ret
      simp [h, h']
    · go_wp2
      go_ret
      simp [h, h']
  · go_wp2
    go_ret
    simp
    omega
theorem countsB_bad {ls : List Ser} {k : Nat} (hk : k < ls.length) (h : ¬ (ls[k].1.length ≤ 20 ∧ ls[k].2.length ≤ 200 ∧ ∀ y ∈ ls[k].1, y.1.length ≤ 20000 ∧ y.2.length ≤ 20000)) : countsB ls = false := by
  cases e : countsB ls with
  | false => rfl
  | true => exact absurd (((countsB_iff ls).2 e).2 _ (List.getElem_mem hk)) h
set_option maxRecDepth 20000 in
set_option maxHeartbeats 2000000 in
theorem tooMany_any (w : World) (v : Value) (ls : List Ser) (hv : readsSeries w w.heap.size v ls) (hfit : lensFit ls) :
    Calls Tryz.prog 87 #[v] w fun e w' => e = .returned (.bool (!countsB ls)) ∧ w' = w := by
  obtain ⟨ao, cp, rfl, hcells⟩ := id hv
  have HL := hfit.1
  have HI := hide hfit.2
  clear hfit hv
  go_enter Tryz.func87, Tryz.ntmps87
  go_wp2
  go_loop [3] (fun i => ∃ k : Nat, k ≤ ls.length ∧ i = .int .i64 k ∧ Hid (∀ j (h : j < ls.length), j < k → serFits ls[j])) (fun i => ls.length - (intOf i).toNat)
  case atStart => exact ⟨0, by omega, rfl, hide (fun j _ h => by omega)⟩
  case round =>
    obtain ⟨k, hk, rfl, HD⟩ := hrel
    by_cases hlt : k < ls.length
    · obtain ⟨lb, lo, x, y, rfl, hlB, c0, c1, rx, ry⟩ := hcells k hlt
      obtain ⟨xo, xc, rfl, xcells⟩ := id rx
      obtain ⟨yo, yc, rfl, _⟩ := id ry
      clear hcells
      have HK := HI.out _ (List.getElem_mem hlt)
      have HK1 := HK.1
      have HK2 := HK.2.1
      have HK3 := hide HK.2.2
      clear HK
      by_cases h20 : ls[k].1.length ≤ 20
      · by_cases hs200 : ls[k].2.length ≤ 200
        · go_wp2
          go_loop [4] (fun i => ∃ q : Nat, q ≤ ls[k].1.length ∧ i = .int .i64 q ∧ Hid (∀ j (h : j < ls[k].1.length), j < q → ls[k].1[j].1.length ≤ 20000 ∧ ls[k].1[j].2.length ≤ 20000)) (fun i => ls[k].1.length - (intOf i).toNat)
          case atStart => exact ⟨0, by omega, rfl, hide (fun j _ h => by omega)⟩
          case round =>
            obtain ⟨q, hq, rfl, HQ⟩ := hrel
            by_cases hqlt : q < ls[k].1.length
            · obtain ⟨nb, no, rfl, hnB, e0, e1⟩ := xcells q hqlt
              clear xcells
              have hQQ := HK3.out _ (List.getElem_mem hqlt)
              by_cases hn : ls[k].1[q].1.length ≤ 20000
              · by_cases hm : ls[k].1[q].2.length ≤ 20000
                · go_wp2
                  go_round
                  case rel => exact ⟨q + 1, by omega, by go_num, hide (fun j hj h => by
                    by_cases e : j = q
                    · subst e; exact ⟨hn, hm⟩
                    · exact HQ.out j hj (by omega))⟩
                  case measure => simp [intOf]; omega
                · have hb := hide (countsB_bad hlt (fun h => hm (h.2.2 _ (List.getElem_mem hqlt)).2))
                  go_wp2
                  go_ret
                  exact ⟨by rw [hb.out]; rfl, rfl⟩
              · have hb := hide (countsB_bad hlt (fun h => hn (h.2.2 _ (List.getElem_mem hqlt)).1))
                go_wp2
                go_ret
                exact ⟨by rw [hb.out]; rfl, rfl⟩
            · go_wp2
              go_round
              case rel => exact ⟨k + 1, by omega, by go_num, hide (fun j hj h => by
                by_cases e : j = k
                · subst e
                  refine ⟨h20, hs200, fun y hy => ?_⟩
                  obtain ⟨p, hp, rfl⟩ := List.getElem_of_mem hy
                  exact HQ.out p hp (by omega)
                · exact HD.out j hj (by omega))⟩
              case measure => simp [intOf]; omega
        · have hb := hide (countsB_bad hlt (fun h => hs200 h.2.1))
          go_wp2
          go_ret
          exact ⟨by rw [hb.out]; rfl, rfl⟩
      · have hb := hide (countsB_bad hlt (fun h => h20 h.1))
        go_wp2
        go_ret
        exact ⟨by rw [hb.out]; rfl, rfl⟩
    · have hall : ∀ x ∈ ls, serFits x := fun x hx => by obtain ⟨p, hp, rfl⟩ := List.getElem_of_mem hx; exact HD.out p hp (by omega)
      by_cases h200 : ls.length ≤ 200
      · have hb := hide ((countsB_iff ls).1 ⟨h200, hall⟩)
        clear hall
        go_wp2
        go_ret
        exact ⟨ret_bool (by rw [hb.out]; simp; omega), rfl⟩
      · have hb : Hid (countsB ls = false) := by
          show _ = _
          cases e : countsB ls with
          | false => rfl
          | true => exact absurd ((countsB_iff ls).2 e).1 h200
        clear hall
        go_wp2
        go_ret
        exact ⟨ret_bool (by rw [hb.out]; simp; omega), rfl⟩
theorem timesB_bad {ls : List Ser} {k q : Nat} (hk : k < ls.length) (hq : q < ls[k].2.length) (h : ¬ (-9007199254740991 ≤ ls[k].2[q].1 ∧ ls[k].2[q].1 ≤ 9007199254740991)) : timesB ls = false := by
  cases e : timesB ls with
  | false => rfl
  | true => exact absurd (((timesB_iff ls).2 e) _ (List.getElem_mem hk) _ (List.getElem_mem hq)) h
def checkErr (l : List Ser) : Int := if countsB l then (if timesB l then 0 else 3) else 2
set_option maxRecDepth 20000 in
set_option maxHeartbeats 2000000 in
theorem checkSeries_any (w : World) (v : Value) (ls : List Ser) (hv : readsSeries w w.heap.size v ls) (hfit : lensFit ls) :
    Calls Tryz.prog 60 #[v] w fun e w' => e = .returned (.int .i64 (checkErr ls)) ∧ w' = w := by
  obtain ⟨ao, cp, hvv, hcells⟩ := id hv
  have HF := hide hfit
  have HV := hide hv
  have HL := hfit.1
  clear hfit hv
  cases hc : countsB ls with
  | false =>
    have HC : Hid (countsB ls = false) := hc
    clear hc
    subst hvv
    go_enter Tryz.func60, Tryz.ntmps60
    go_wp2_with fail
    refine (tooMany_any w _ ls HV.out HF.out).mono ?_
    rintro e w' ⟨rfl, rfl⟩
    rw [HC.out]
    go_wp2
    go_ret
    exact ⟨by simp [checkErr, HC.out], rfl⟩
  | true =>
    have HC : Hid (countsB ls = true) := hc
    have h200 := ((countsB_iff ls).2 hc).1
    have HS := hide ((countsB_iff ls).2 hc).2
    clear hc
    subst hvv
    go_enter Tryz.func60, Tryz.ntmps60
    go_wp2_with fail
    refine (tooMany_any w _ ls HV.out HF.out).mono ?_
    rintro e w' ⟨rfl, rfl⟩
    rename World => w
    rw [HC.out]
    clear HL
    go_wp2
    go_loop [3] (fun i => ∃ k : Nat, k ≤ ls.length ∧ i = .int .i64 k ∧ Hid (∀ j (h : j < ls.length), j < k → ∀ y ∈ ls[j].2, -9007199254740991 ≤ y.1 ∧ y.1 ≤ 9007199254740991)) (fun i => ls.length - (intOf i).toNat)
    case atStart => exact ⟨0, by omega, rfl, hide (fun j _ h => by omega)⟩
    case round =>
      obtain ⟨k, hk, rfl, HD⟩ := hrel
      by_cases hlt : k < ls.length
      · obtain ⟨lb, lo, x, y, rfl, hlB, c0, c1, rx, ry⟩ := hcells k hlt
        obtain ⟨yo, yc, rfl, ycells⟩ := id ry
        clear hcells
        have hs200 : ls[k].2.length ≤ 200 := (HS.out _ (List.getElem_mem hlt)).2.1
        go_wp2
        go_loop [4] (fun i => ∃ q : Nat, q ≤ ls[k].2.length ∧ i = .int .i64 q ∧ Hid (∀ j (h : j < ls[k].2.length), j < q → -9007199254740991 ≤ ls[k].2[j].1 ∧ ls[k].2[j].1 ≤ 9007199254740991)) (fun i => ls[k].2.length - (intOf i).toNat)
        case atStart => exact ⟨0, by omega, rfl, hide (fun j _ h => by omega)⟩
        case round =>
          obtain ⟨q, hq, rfl, HQ⟩ := hrel
          by_cases hqlt : q < ls[k].2.length
          · obtain ⟨nb, no, rfl, hnB, e0, e1⟩ := ycells q hqlt
            clear ycells
            have hnot : ∀ (x : Bool) (w : World), (Op.unary .not (.bool x)).run Tryz.prog w = .ok (.bool (!x)) w := fun _ _ => rfl
            by_cases ht : -9007199254740991 ≤ ls[k].2[q].1 ∧ ls[k].2[q].1 ≤ 9007199254740991
            · have HT : Hid ((decide (-9007199254740991 ≤ ls[k].2[q].1) && decide (ls[k].2[q].1 ≤ 9007199254740991)) = true) := by show _ = _; simp [ht]
              clear ht
              go_wp2_with (go_at_call 26; refine (isTime_any _ _).mono ?_; rintro e w' ⟨rfl, rfl⟩; rw [HT.out])
              go_round
              case rel => exact ⟨q + 1, by omega, by go_num, hide (fun j hj h => by
                by_cases e : j = q
                · subst e; simpa using HT.out
                · exact HQ.out j hj (by omega))⟩
              case measure => simp [intOf]; omega
            · have HT : Hid ((decide (-9007199254740991 ≤ ls[k].2[q].1) && decide (ls[k].2[q].1 ≤ 9007199254740991)) = false) := by show _ = _; simpa using ht
              have hb := hide (timesB_bad hlt hqlt ht)
              clear ht
              go_wp2_with (go_at_call 26; refine (isTime_any _ _).mono ?_; rintro e w' ⟨rfl, rfl⟩; rw [HT.out])
              go_ret
              exact ⟨by simp [checkErr, HC.out, hb.out], rfl⟩
          · go_wp2
            go_round
            case rel => exact ⟨k + 1, by omega, by go_num, hide (fun j hj h y hy => by
              by_cases e : j = k
              · subst e
                obtain ⟨p, hp, rfl⟩ := List.getElem_of_mem hy
                exact HQ.out p hp (by omega)
              · exact HD.out j hj (by omega) y hy)⟩
            case measure => simp [intOf]; omega
      · have hb := hide ((timesB_iff ls).1 (fun x hx => by obtain ⟨p, hp, rfl⟩ := List.getElem_of_mem hx; exact HD.out p hp (by omega)))
        go_wp2
        go_ret
        exact ⟨by simp [checkErr, HC.out, hb.out], rfl⟩
end Go.Proofs.YtmdakfmecfcbhaaGreat
