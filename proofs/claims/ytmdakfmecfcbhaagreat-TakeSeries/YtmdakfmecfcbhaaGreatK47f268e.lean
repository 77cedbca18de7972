/- 1 texts in one. -/
import Derived.Test.YtmdakfmecfcbhaaGreatProg
import Derived.Test.YtmdakfmecfcbhaaGreatK7e06493
import Derived.Test.YtmdakfmecfcbhaaGreatK85cc7d6
import Derived.Test.YtmdakfmecfcbhaaGreatK2326a0d
import Derived.Test.YtmdakfmecfcbhaaGreatK3e23582
import Derived.BigQuiet
import Derived.Maps.Own
import Derived.Maps.OwnOps
import Derived.Maps.OwnSet
import Derived.Maps.Views
set_option linter.unusedVariables false
set_option linter.unusedSimpArgs false
namespace Go.Proofs.YtmdakfmecfcbhaaGreat
open Go.RowKit Go.Maps
open Go.WideMaps (keyOf_string_mk)
attribute [local go_sem] bs_size bs_toList bs_append bs_get bs_extract
theorem Tryz.keyLaw : Keyed Tryz.prog 9 := string_keyed Tryz.underlying9
theorem Tryz.zeroInt (w : World) : (zeroValue 3).run Tryz.prog w = .ok (.int .i64 0) w := by kernel_rfl
theorem grown_refl (w : World) (row : Option Nat) : w.grownBy w row := ⟨rfl, rfl, rfl, Nat.le_refl _, fun _ _ _ => rfl⟩
theorem grown_trans {a b c : World} {row : Option Nat} (h : a.grownBy b row) (k : b.grownBy c row) : a.grownBy c row :=
  ⟨k.os.trans h.os, k.tape.trans h.tape, k.output.trans h.output, Nat.le_trans h.size k.size, fun i hi hn => (k.block i (Nat.lt_of_lt_of_le hi h.size) hn).trans (h.block i hi hn)⟩
theorem grown_of {w w' : World} {row : Option Nat} (h : Below w.heap.size w w') : w.grownBy w' row := ⟨h.os, h.tape, h.output, h.size, fun i hi _ => h.block i hi⟩
/-- Four bytes of a text. -/
def four (s : List UInt8) (v : Nat) : List UInt8 := (s.drop v).take 4
/-- What the map tells: of each place ahead, and of nothing else. -/
def noted (s : List UInt8) (at' : Nat) (D : DataW Unit) : Prop :=
  IsMap D ∧ (∀ k c, has D (.string k) = true → D.atKey (.string k) (.lit (.int .i64 0)) = .lit (.int .i64 c) → ∃ v : Nat, c = (v : Int) ∧ v < at' ∧ v + 4 ≤ s.length ∧ four s v = k) ∧ (∀ v, v < at' → v + 4 ≤ s.length → has D (.string (four s v)) = true)
theorem isMap_put {D : DataW Unit} (h : IsMap D) (k : Lit) (d : DataW Unit) : IsMap (D.put k d) := by
  obtain ⟨es, rfl⟩ := h
  exact ⟨_, rfl⟩
theorem noted_put {s : List UInt8} {v : Nat} {D : DataW Unit} (h : noted s v D) (hv : v + 4 ≤ s.length) : noted s (v + 1) (D.put (.string (four s v)) (.lit (.int .i64 v))) := by
  obtain ⟨hm, h1, h2⟩ := h
  refine ⟨isMap_put hm _ _, fun k c hk hc => ?_, fun u hu hu4 => ?_⟩
  · by_cases e : k = four s v
    · subst e
      rw [atKey_put_same hm (by simp [WideAt.IsKeyLit])] at hc
      simp at hc
      exact ⟨v, hc.symm, by omega, hv, rfl⟩
    · have hne : Lit.string k ≠ Lit.string (four s v) := fun h => e (by simpa using h)
      rw [has_put_other hne] at hk
      rw [atKey_put_other hne] at hc
      obtain ⟨u, e1, e2, e3, e4⟩ := h1 k c hk hc
      exact ⟨u, e1, by omega, e3, e4⟩
  · by_cases e : four s u = four s v
    · rw [e]; exact has_put_same hm (by simp [WideAt.IsKeyLit]) _
    · have hne : Lit.string (four s u) ≠ Lit.string (four s v) := fun h => e (by simpa using h)
      rw [has_put_other hne]
      have hne2 : u ≠ v := fun h => e (by rw [h])
      exact h2 u (by omega) hu4
theorem noted_far {s : List UInt8} {v u : Nat} {D : DataW Unit} (h : noted s v D) (hv : s.length < v + 4) (hu : v ≤ u) : noted s u D := by
  obtain ⟨hm, h1, h2⟩ := h
  refine ⟨hm, fun k c hk hc => ?_, fun x hx hx4 => h2 x (by omega) hx4⟩
  obtain ⟨x, e1, e2, e3, e4⟩ := h1 k c hk hc
  exact ⟨x, e1, by omega, e3, e4⟩
abbrev holdsMap (w : World) (mb n : Nat) (D : DataW Unit) : Prop := w.ownsMap Tryz.prog 9 (plainElem Tryz.prog 3) mb n D
set_option maxRecDepth 20000 in
set_option maxHeartbeats 2000000 in
theorem note_any (w : World) (pb mb n f t : Nat) (s : List UInt8) (v : Value) (D : DataW Unit) (hpb : w.heap[pb]? = some (.cells #[.string (bs s), .map (some mb), v] 70 (0, 0))) (hne : pb ≠ mb) (hmap : holdsMap w mb n D) (hD : noted s f D) (hs : s.length ≤ 20000) (hft : f ≤ t) (ht : t ≤ s.length) (hn : n ≤ f) :
    Calls Tryz.prog 69 #[.pointer (some ⟨pb, 0, none⟩), .int .i64 f, .int .i64 t] w fun e w' => e = .returned (.tuple #[]) ∧ w.grownBy w' (some mb) ∧ ∃ n' D', holdsMap w' mb n' D' ∧ n' ≤ t ∧ noted s t D' := by
  go_enter Tryz.func69, Tryz.ntmps69
  go_wp2
  go_loopw [6] (fun i wr => ∃ (q n' : Nat) (D' : DataW Unit), f ≤ q ∧ q ≤ t ∧ i = .int .i64 q ∧ w.grownBy wr (some mb) ∧ Hid (holdsMap wr mb n' D') ∧ n' ≤ q ∧ Hid (noted s q D')) (fun i _ => t - (intOf i).toNat)
  case atStart => exact ⟨f, n, D, Nat.le_refl _, hft, rfl, grown_refl _ _, hide hmap, hn, hide hD⟩
  case round =>
    obtain ⟨q, n', D', hq1, hq2, rfl, hg, HM, hn', HN⟩ := hrel
    rename World => wr
    have hpr := (hg.block pb (lt_of_block hpb) (by simpa using hne)).trans hpb
    obtain ⟨c0, c1, c2, z0, z1, z2⟩ := three_cells hpr
    by_cases hqt : q < t
    · have hqt' : (q : Int) < t := by omega
      by_cases h4 : q + 4 ≤ s.length
      · have h4' : (q : Int) + 4 ≤ s.length := by omega
        go_wp2
        refine wp_region_free 13 36 Tryz.mixed2 rfl (by decide +kernel) Grow (fun _ _ _ => Grow.trans) (Grow.refl _)
          (fun i v _ => match i with
            | 0 => v = .pointer (some ⟨pb, 0, none⟩)
            | 1 => v = .pointer (some ⟨pb, 0, none⟩)
            | 2 => v = .pointer (some ⟨pb, 1, none⟩)
            | 3 => v = .map (some mb)
            | 4 => v = .pointer (some ⟨pb, 0, none⟩)
            | 5 => v = .pointer (some ⟨pb, 0, none⟩)
            | 6 => v = .pointer (some ⟨pb, 0, none⟩)
            | 7 => v = .string (bs s)
            | 8 => v = .int .i64 q
            | 9 => v = .int .i64 q
            | 10 => v = .int .i64 ((q : Int) + 4)
            | 11 => v = .string (bs (four s q))
            | _ => v = .int .i64 q)
          (fun i v w w' h hg => h) (fun _ _ => False) (fun _ _ _ _ h => h.elim) (fun i hi o ho a w2 hG hoff hdep => ?_) (fun vals w2 hG hvals => ?_)
        · obtain ⟨c0, c1, c2, _⟩ := three_cells (below_block hG.undrew hpr (lt_of_block hpr))
          have hsl : List.take (q + 4 - q) (List.drop q s) = four s q := by rw [Nat.add_sub_cancel_left]; rfl
          match i, hi with
          | 0, _ =>
            obtain rfl := Option.some.inj ho
            have o0 := hoff 0 (by decide +kernel)
            simp at o0
            simp [opYields, go_sem, o0]
            exact Grow.refl _
          | 1, _ =>
            obtain rfl := Option.some.inj ho
            have d0 := hdep 0 (by decide +kernel)
            simp [slotOf, dstOf] at d0
            simp [opYields, go_sem, d0]
            exact Grow.refl _
          | 2, _ =>
            obtain rfl := Option.some.inj ho
            have d1 := hdep 1 (by decide +kernel)
            simp [slotOf, dstOf] at d1
            simp [opYields, go_sem, d1]
            exact Grow.refl _
          | 3, _ =>
            obtain rfl := Option.some.inj ho
            have d2 := hdep 2 (by decide +kernel)
            simp [slotOf, dstOf] at d2
            simp [opYields, go_sem, d2, c1]
            exact Grow.refl _
          | 4, _ =>
            obtain rfl := Option.some.inj ho
            have o0 := hoff 0 (by decide +kernel)
            simp at o0
            simp [opYields, go_sem, o0]
            exact Grow.refl _
          | 5, _ =>
            obtain rfl := Option.some.inj ho
            have d4 := hdep 4 (by decide +kernel)
            simp [slotOf, dstOf] at d4
            simp [opYields, go_sem, d4]
            exact Grow.refl _
          | 6, _ =>
            obtain rfl := Option.some.inj ho
            have d5 := hdep 5 (by decide +kernel)
            simp [slotOf, dstOf] at d5
            simp [opYields, go_sem, d5]
            exact Grow.refl _
          | 7, _ =>
            obtain rfl := Option.some.inj ho
            have d6 := hdep 6 (by decide +kernel)
            simp [slotOf, dstOf] at d6
            simp [opYields, go_sem, d6, c0]
            exact Grow.refl _
          | 8, _ =>
            obtain rfl := Option.some.inj ho
            have o6 := hoff 6 (by decide +kernel)
            simp at o6
            simp [opYields, go_sem, o6]
            exact Grow.refl _
          | 9, _ =>
            obtain rfl := Option.some.inj ho
            have o6 := hoff 6 (by decide +kernel)
            simp at o6
            simp [opYields, go_sem, o6]
            exact Grow.refl _
          | 10, _ =>
            obtain rfl := Option.some.inj ho
            have d9 := hdep 9 (by decide +kernel)
            simp [slotOf, dstOf] at d9
            simp [opYields, go_sem, d9]
            exact ⟨Grow.refl _, wrap_i64_small _ (by omega) (by omega)⟩
          | 11, _ =>
            obtain rfl := Option.some.inj ho
            have d7 := hdep 7 (by decide +kernel)
            simp [slotOf, dstOf] at d7
            have d8 := hdep 8 (by decide +kernel)
            simp [slotOf, dstOf] at d8
            have d10 := hdep 10 (by decide +kernel)
            simp [slotOf, dstOf] at d10
            simp [opYields, go_sem, d7, d8, d10]
            rw [if_pos ⟨by omega, by omega⟩, if_pos (by omega)]
            exact ⟨Grow.refl _, by rw [show ((q : Int) + 4).toNat - q = 4 from by omega]; rfl⟩
          | 12, _ =>
            obtain rfl := Option.some.inj ho
            have o6 := hoff 6 (by decide +kernel)
            simp at o6
            simp [opYields, go_sem, o6]
            exact Grow.refl _
        · have v3 := hvals 3 (by omega)
          have v11 := hvals 11 (by omega)
          have v12 := hvals 12 (by omega)
          simp only at v3 v11 v12
          clear hvals
          have hg2 : wr.grownBy w2 (some mb) := grown_of hG.undrew
          have hm2 : holdsMap w2 mb n' D' := World.ownsMap.kept HM.out (grown_of (row := none) hG.undrew) (by simp)
          have HG2 := hide (hg.os)
          have hwf : (Lit.int .i64 (q : Int)).wf = true := WalkArith.wf_i64 (by omega)
          have h4len : (bs (four s q)).size ≤ maxLen := by rw [bs_size]; unfold four maxLen; rw [List.length_take]; omega
          have hkey : keyOf Tryz.prog 9 (.string (bs (four s q))) = some (.string (four s q)) := by rw [keyOf_string_mk Tryz.underlying9 h4len, bs_data]
          have HStep := hide (noted_put HN.out h4)
          simp [over, dstOf, Act.put, v3, v11, v12]
          go_wp2_with (at_mapUpdate; go_must (refine wpList_mapUpdate_own _ rfl (.tmp 26) (.tmp 34) (.tmp 35) 68 rfl 9 3 Tryz.keyLaw Tryz.underlying68 _ mb n' D' rfl hm2 (by unfold maxLen; omega) _ _ _ rfl rfl hkey _ [] (plainElem_int Tryz.underlying3 hwf) ?_); intro w3 hown3 hgrow3)
          go_roundw
          case rel => exact ⟨q + 1, n' + 1, _, by omega, by omega, by go_num, grown_trans (grown_trans hg hg2) hgrow3, hide hown3, by omega, HStep⟩
          case measure => simp [intOf]; omega
      · have h4' : ¬ (q : Int) + 4 ≤ s.length := by omega
        go_wp2
        go_end0
        exact ⟨rfl, hg, n', D', HM.out, by omega, noted_far HN.out (by omega) hq2⟩
    · have hqt' : ¬ (q : Int) < t := by omega
      obtain rfl : q = t := by omega
      go_wp2
      go_end0
      exact ⟨rfl, hg, n', D', HM.out, hn', HN.out⟩
set_option maxRecDepth 20000 in
set_option maxHeartbeats 2000000 in
theorem same_any (w : World) (pb f t : Nat) (s : List UInt8) (v m : Value) (hpb : w.heap[pb]? = some (.cells #[.string (bs s), m, v] 70 (0, 0))) (hs : s.length ≤ 20000) (hft : f < t) (ht : t ≤ s.length) :
    Calls Tryz.prog 70 #[.pointer (some ⟨pb, 0, none⟩), .int .i64 f, .int .i64 t] w fun e w' => ∃ n k, e = .returned (.int .i64 (n : Nat)) ∧ w' = w.drewN k ∧ t + n ≤ s.length ∧ (∀ i, i < n → s.getD (f + i) 0 = s.getD (t + i) 0) ∧ (t + n = s.length ∨ s.getD (f + n) 0 ≠ s.getD (t + n) 0) := by
  go_enter Tryz.func70, Tryz.ntmps70
  go_wp2
  go_loopw [7] (fun i wr => ∃ (q k : Nat), t + q ≤ s.length ∧ i = .int .i64 q ∧ wr = w.drewN k ∧ Hid (∀ i, i < q → s.getD (f + i) 0 = s.getD (t + i) 0)) (fun i _ => s.length - (intOf i).toNat)
  case atStart => exact ⟨0, 0, by omega, rfl, rfl, hide (fun i h => by omega)⟩
  case round =>
    obtain ⟨q, k, hq, rfl, rfl, HS⟩ := hrel
    obtain ⟨c0, _, _, _⟩ := three_cells hpb
    have hw1 : IntKind.i64.wrap ((t : Int) + q) = (t : Int) + q := wrap_i64_small _ (by omega) (by omega)
    by_cases hlt : t + q < s.length
    · have hlt' : (t : Int) + q < s.length := by omega
      have hw2 : IntKind.i64.wrap ((f : Int) + q) = (f : Int) + q := wrap_i64_small _ (by omega) (by omega)
      have hf : f + q < s.length := by omega
      have hf' : (f : Int) + q < s.length := by omega
      have hp1 : (0 : Int) ≤ (f : Int) + q := by omega
      have hp2 : (0 : Int) ≤ (t : Int) + q := by omega
      have hn1 : ((f : Int) + q).toNat = f + q := by omega
      have hn2 : ((t : Int) + q).toNat = t + q := by omega
      have e1 := getD_get s (f + q) hf
      have e2 := getD_get s (t + q) hlt
      by_cases he : s[f + q] = s[t + q]
      · have he' : ((s[f + q].toNat : Int) == (s[t + q].toNat : Int)) = true := by rw [he]; simp
        have HE := hide he
        clear he
        go_wp2
        go_quiet (fail)
        go_wp2
        go_roundw
        case rel =>
          refine ⟨q + 1, _, by omega, by go_num, rfl, hide (fun i hi => ?_)⟩
          by_cases e : i = q
          · subst e; rw [e1, e2]; exact HE.out
          · exact HS.out i (by omega)
        case measure => simp [intOf]; omega
      · have he' : ((s[f + q].toNat : Int) == (s[t + q].toNat : Int)) = false := by
          rw [beq_eq_false_iff_ne]
          intro h
          exact he (UInt8.toNat_inj.1 (by omega))
        have HE := hide he
        clear he
        go_wp2
        go_quiet (fail)
        go_wp2
        go_ret
        exact ⟨q, k + nq, rfl, by simp, hq, HS.out, .inr (by rw [e1, e2]; exact HE.out)⟩
    · have hlt' : decide ((t : Int) + q < s.length) = false := by simp; omega
      go_wp2
      go_quiet (fail)
      go_wp2
      go_ret
      exact ⟨q, k + nq, rfl, by simp, hq, HS.out, .inl (by simp at hlt'; omega)⟩
end Go.Proofs.YtmdakfmecfcbhaaGreat
