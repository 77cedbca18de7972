/- record: the document's own reading: its cursor. -/
import Derived.Laws.OwnMore
import Derived.Test.YtnlkfehnmijimaaProg
import Derived.Test.YtnlkfehnmijimaaKit
import Derived.Test.YtnlkfehnmijimaaSpec
import Derived.Test.YtnlkfehnmijimaaSpec2
import Derived.Test.YtnlkfehnmijimaaReg
import Derived.Test.YtnlkfehnmijimaaWNum
import Derived.Test.YtnlkfehnmijimaaRNum
import Derived.Test.YtnlkfehnmijimaaRRaw
import Derived.Test.YtnlkfehnmijimaaLRow
import Derived.Test.YtnlkfehnmijimaaRcA
import Derived.Test.YtnlkfehnmijimaaRcN
import Derived.Test.YtnlkfehnmijimaaRcS
import Derived.Test.YtnlkfehnmijimaaRcT
import Derived.Test.YtnlkfehnmijimaaRcW
import Derived.Test.YtnlkfehnmijimaaRfN
import Derived.BigQuiet
set_option linter.unusedVariables false
set_option linter.unusedSimpArgs false
namespace Go.Proofs.Ytnlkfehnmijimaa.Rc
open Go.RowKit Lb
attribute [local go_sem] bs_size bs_toList bs_append bs_get bs_extract

theorem KI.drewN' (b : Nat) (w : World) (n : Nat) : KI b w (w.drewN n) := ⟨rfl, rfl, rfl, Nat.le_refl _, fun _ _ _ => rfl⟩
/-- What a cursor has: what is not read yet, and whether something was bad. -/
abbrev Cur := List UInt8 × Bool
def CurAt (w : World) (b : Nat) (c : Cur) : Prop := w.heap[b]? = some (.cells #[.string (bs c.1), .bool c.2] 65 (0, 0))
theorem CurAt.get {w w' : World} {b : Nat} {c : Cur} (h : CurAt w b c) (g : Grow w w') : CurAt w' b c := g.get h
/-- A number, or that it was bad. -/
def numT (c : Cur) : Nat × Cur := if c.2 = true then (0, (c.1, true)) else match cutN c.1 with
  | none => (0, (c.1, true))
  | some x => if x.1 ≤ 4611686018427387904 then (x.1, (x.2, false)) else (0, (c.1, true))
def bytT (n : Nat) (c : Cur) : List UInt8 × Cur := if c.2 = true ∨ c.1.length < n then ([], (c.1, true)) else (c.1.take n, (c.1.drop n, false))
theorem numT_le (c : Cur) : (numT c).1 ≤ 4611686018427387904 := by
  unfold numT
  split
  · exact Nat.zero_le _
  · split
    · exact Nat.zero_le _
    · split
      · rename_i h; exact h
      · exact Nat.zero_le _
theorem numT_bad {s : List UInt8} : numT (s, true) = (0, (s, true)) := if_pos rfl
theorem bytT_bad {s : List UInt8} {n : Nat} : bytT n (s, true) = ([], (s, true)) := if_pos (.inl rfl)
/-- What NumberAt says is what a number is, or both have errors. -/
theorem cutN_at (l : List UInt8) : cutN l = if (numAt l).2.2 = 0 ∧ numB (numAt l).1 = l.take (numAt l).2.1 then some ((numAt l).1, l.drop (numAt l).2.1) else none := by
  unfold cutN
  rcases numAt_read l with ⟨h1, h2⟩ | ⟨h1, h2⟩
  · rw [h2]
    by_cases hc : l.take (numAt l).2.1 = numB (numAt l).1
    · rw [if_pos ⟨h1, hc⟩, if_pos ⟨h1, hc.symm⟩]
    · rw [if_neg (fun h => hc h.2), if_neg (fun h => hc h.2.symm)]
  · rw [if_neg (fun h => h2 h.1), if_neg (fun h => h1 h.1)]
theorem numAt_le (l : List UInt8) : (numAt l).2.1 ≤ l.length ∧ (numAt l).1 < 18446744073709551616 := by
  rcases numAt_read l with ⟨h1, h2⟩ | ⟨h1, h2⟩
  · have := readNum_le l
    rw [h2] at this
    exact ⟨this.1, this.2.2⟩
  · unfold numAt at h1 ⊢
    split
    · exact ⟨Nat.zero_le _, by decide⟩
    · split
      · exact ⟨Nat.zero_le _, by decide⟩
      · rename_i h3 h4
        rw [if_neg h3, if_neg h4] at h1
        exact absurd rfl h1

set_option maxRecDepth 20000 in
set_option maxHeartbeats 4000000 in
theorem curBytes_any (w : World) (b n : Nat) (c : Cur) (h : CurAt w b c) (hs : c.1.length ≤ 140737488355328) (hn : n ≤ 9223372036854775807) :
    Calls Try.prog 28 #[.pointer (some ⟨b, 0, none⟩), .int .i64 n] w fun e w' => e = .returned (.string (bs (bytT n c).1)) ∧ KI b w w' ∧ CurAt w' b (bytT n c).2 := by
  obtain ⟨s, bad⟩ := c
  obtain ⟨c0, c1⟩ := two_of h
  have z0 : w.frozen? ⟨b, 0, none⟩ = false := by simp only [World.frozen?, show w.heap[b]? = _ from h]; rfl
  have z1 : w.frozen? ⟨b, 1, none⟩ = false := by simp only [World.frozen?, show w.heap[b]? = _ from h]; rfl
  have HS := hide (show w.heap[b]? = some (.cells #[.string (bs s), .bool bad] 65 (0, 0)) from h)
  simp only at c0 c1 hs
  have hfin : ∀ u v, (w.setCell ⟨b, 1, none⟩ u).heap[b]? = some (.cells #[.string (bs s), u] 65 (0, 0)) ∧ (w.setCell ⟨b, 0, none⟩ v).heap[b]? = some (.cells #[v, .bool bad] 65 (0, 0)) := fun u v => ⟨by have := set3 h 1 u; simpa using this, by have := set3 h 0 v; simpa using this⟩
  have HF := hide hfin
  clear h hfin
  cases bad with
  | true =>
    go_enter Try.func28, Try.ntmps28
    go_wp2
    go_ret
    rw [bytT_bad]
    exact ⟨rfl, KI.set b w 1 _, (HF.out _ (.bool true)).1⟩
  | false =>
    by_cases hl : s.length < n
    · have hli : (s.length : Int) < (n : Int) := by omega
      have hb : Hid (bytT n (s, false) = ([], (s, true))) := hide (by unfold bytT; rw [if_pos (.inr hl)])
      clear hl
      go_enter Try.func28, Try.ntmps28
      go_wp2
      go_ret
      rw [hb.out]
      exact ⟨rfl, KI.set b w 1 _, (HF.out _ (.bool true)).1⟩
    · have hli : ¬ (s.length : Int) < (n : Int) := by omega
      have hl2 : (n : Int) ≤ (s.length : Int) := by omega
      have hl3 : n ≤ s.length := by omega
      have hb : Hid (bytT n (s, false) = (s.take n, (s.drop n, false))) := hide (by unfold bytT; rw [if_neg (by simp; omega)])
      have hq : (s.drop n).take (s.length - n) = s.drop n := List.take_of_length_le (by rw [List.length_drop]; exact Nat.le_refl _)
      clear hl
      go_enter Try.func28, Try.ntmps28
      go_wp2
      go_ret
      rw [hb.out]
      exact ⟨rfl, KI.set b w 0 _, (HF.out (.bool true) _).2⟩
/-- Whether a guarded operation is wanted. -/
theorem gwanted {ops : Array Oper} {a : Act} {o : Oper} {i g : Nat} {bb : Bool} (ho : ops[i]? = some o) (hg : (ops[i]?).bind (·.guard) = some (g, bb)) (hs : slotOf ops a g = .bool bb) : Region.wanted o (yielded ops a.tmps) = true := by
  rw [ho] at hg
  have hg : o.guard = some (g, bb) := hg
  unfold slotOf at hs
  cases hd : dstOf ops g with
  | none => rw [hd] at hs; simp [undef] at hs
  | some d =>
    rw [hd] at hs
    simp only at hs
    have : a.tmps[d]? = some (.bool bb) := by
      cases h : a.tmps[d]? with
      | none => simp [Array.getD_eq_getD_getElem?, h, undef] at hs
      | some v => simp [Array.getD_eq_getD_getElem?, h] at hs; rw [hs]
    have hy : yielded ops a.tmps g = some bb := by
      have hd' : (ops[g]?).bind (·.dst) = some d := hd
      simp [yielded, hd', this]
    simp [Region.wanted, hg, hy]
set_option maxRecDepth 20000 in
set_option maxHeartbeats 8000000 in
theorem curNumber_any (w : World) (b : Nat) (c : Cur) (h : CurAt w b c) (hs : c.1.length ≤ 140737488355328) :
    Calls Try.prog 29 #[.pointer (some ⟨b, 0, none⟩)] w fun e w' => e = .returned (.int .i64 ((numT c).1 : Nat)) ∧ KI b w w' ∧ CurAt w' b (numT c).2 := by
  obtain ⟨s, bad⟩ := c
  obtain ⟨c0, c1⟩ := two_of h
  simp only at c0 c1 hs
  have H := hide (show w.heap[b]? = some (.cells #[.string (bs s), .bool bad] 65 (0, 0)) from h)
  have HF1 : Hid (∀ W : World, W.heap[b]? = some (.cells #[.string (bs s), .bool bad] 65 (0, 0)) → ∀ u, (W.setCell ⟨b, 1, none⟩ u).heap[b]? = some (.cells #[.string (bs s), u] 65 (0, 0))) := hide fun W hW u => by have := set3 hW 1 u; simpa using this
  have HF0 : Hid (∀ W : World, W.heap[b]? = some (.cells #[.string (bs s), .bool bad] 65 (0, 0)) → ∀ u, (W.setCell ⟨b, 0, none⟩ u).heap[b]? = some (.cells #[u, .bool bad] 65 (0, 0))) := hide fun W hW u => by have := set3 hW 0 u; simpa using this
  have HZ : Hid (∀ W : World, W.heap[b]? = some (.cells #[.string (bs s), .bool bad] 65 (0, 0)) → W.frozen? ⟨b, 0, none⟩ = false ∧ W.frozen? ⟨b, 1, none⟩ = false) := hide fun W hW => ⟨by simp only [World.frozen?, hW]; rfl, by simp only [World.frozen?, hW]; rfl⟩
  obtain ⟨hle, hlt⟩ := numAt_le s
  have hcut := cutN_at s
  have HN := hide (numberAt_any s w (by omega))
  obtain ⟨n, k, er, hna⟩ : ∃ n k er, numAt s = (n, k, er) := ⟨_, _, _, rfl⟩
  rw [hna] at hle hlt hcut HN
  simp only at hle hlt hcut HN
  have HCUT := hide hcut
  clear h hna hcut
  cases bad with
  | true =>
    obtain ⟨z0, z1⟩ := HZ.out w H.out
    go_enter Try.func29, Try.ntmps29
    go_wp2_with fail
    refine HN.out.mono ?_
    rintro e w1 ⟨rfl, hw1⟩
    subst hw1
    go_wp2
    go_quiet (fail)
    go_wp2
    go_ret
    rw [numT_bad]
    exact ⟨rfl, (KI.drewN' b _ _).trans (KI.set b _ 1 _), HF1.out _ H.out _⟩
  | false =>
    by_cases he : er = 0
    · subst he
      by_cases hn : n ≤ 4611686018427387904
      · have hni : decide (4611686018427387904 < n) = false := decide_eq_false (by omega)
        have hw1 : IntKind.i64.wrap (n : Int) = n := by rw [IntKind.wrap_i64]; omega
        have hki : (k : Int) ≤ (s.length : Int) := by omega
        have hq : (s.drop k).take (s.length - k) = s.drop k := List.take_of_length_le (by rw [List.length_drop]; exact Nat.le_refl _)
        have HNO : Hid (∀ W, Calls Try.prog 42 #[.int .u64 n] W fun e w' => e = .returned (.string (bs (numB n))) ∧ Below W.heap.size W w') := hide fun W => numberOf_any n W (by omega)
        obtain ⟨qb, hqb⟩ : ∃ qb, (numB n != s.take k) = qb := ⟨_, rfl⟩
        go_enter Try.func29, Try.ntmps29
        go_wp2_with fail
        refine HN.out.mono ?_
        rintro e w1 ⟨rfl, hw1⟩
        subst hw1
        go_wp2
        refine wp_region_free 23 52 mixedR rfl (by decide +kernel) Grow (fun _ _ _ => Grow.trans) (Grow.refl _)
          (fun i v _ => match i with
            | 0 => v = .pointer (some ⟨b, 0, none⟩)
            | 1 => v = .pointer (some ⟨b, 0, none⟩)
            | 2 => v = .pointer (some ⟨b, 1, none⟩)
            | 3 => v = .bool false
            | 4 => v = .bool false
            | 5 => v = .int .i64 0
            | 6 => v = .bool false
            | 7 => v = .bool false
            | 8 => v = .bool false
            | 9 => v = .int .u64 n
            | 10 => v = .bool false
            | 11 => v = .bool false
            | 12 => v = .bool false
            | 13 => v = .int .u64 n
            | 14 => v = .string (bs (numB n))
            | 15 => v = .pointer (some ⟨b, 0, none⟩)
            | 16 => v = .pointer (some ⟨b, 0, none⟩)
            | 17 => v = .pointer (some ⟨b, 0, none⟩)
            | 18 => v = .string (bs s)
            | 19 => v = .int .i64 k
            | 20 => v = .string (bs (s.take k))
            | 21 => v = .bool qb
            | _ => v = .bool qb)
          (fun i v w w' h hg => h) (fun _ _ => False) (fun _ _ _ _ h => h.elim) (fun i hi o ho a w2 hG hoff hdep => ?_) (fun vals w2 hG hvals => ?_)
        · obtain ⟨x0, x1⟩ := two_of (below_block hG.undrew H.out (lt_of_block H.out))
          match i, hi with
          | 0, _ =>
            obtain rfl := Option.some.inj ho
            have o0 := hoff 0 (by decide +kernel)
            simp at o0
            simp [opYields, go_sem, o0]
            exact Grow.refl _
          | 1, _ =>
            obtain rfl := Option.some.inj ho
            have d0 := hdep 0 (by decide +kernel)
            simp [slotOf, dstOf] at d0
            simp [opYields, go_sem, d0]
            exact Grow.refl _
          | 2, _ =>
            obtain rfl := Option.some.inj ho
            have d1 := hdep 1 (by decide +kernel)
            simp [slotOf, dstOf] at d1
            simp [opYields, go_sem, d1]
            exact Grow.refl _
          | 3, _ =>
            obtain rfl := Option.some.inj ho
            have d2 := hdep 2 (by decide +kernel)
            simp [slotOf, dstOf] at d2
            simp [opYields, go_sem, d2, x1]
            exact Grow.refl _
          | 4, _ =>
            obtain rfl := Option.some.inj ho
            have d3 := hdep 3 (by decide +kernel)
            simp [slotOf, dstOf] at d3
            simp [opYields, go_sem, d3]
            exact Grow.refl _
          | 5, _ =>
            have hwt := gwanted ho (g := 4) (bb := false) (by rfl) (hdep 4 (by decide +kernel))
            unfold opYields
            rw [if_pos hwt]
            obtain rfl := Option.some.inj ho
            have o5 := hoff 5 (by decide +kernel)
            simp at o5
            simp [go_sem, o5]
            exact Grow.refl _
          | 6, _ =>
            have hwt := gwanted ho (g := 4) (bb := false) (by rfl) (hdep 4 (by decide +kernel))
            unfold opYields
            rw [if_pos hwt]
            obtain rfl := Option.some.inj ho
            have d5 := hdep 5 (by decide +kernel)
            simp [slotOf, dstOf] at d5
            simp [go_sem, d5]
            exact Grow.refl _
          | 7, _ =>
            obtain rfl := Option.some.inj ho
            have d4 := hdep 4 (by decide +kernel)
            simp [slotOf, dstOf] at d4
            have d6 := hdep 6 (by decide +kernel)
            simp [slotOf, dstOf] at d6
            simp [opYields, go_sem, d4, d6]
            exact Grow.refl _
          | 8, _ =>
            obtain rfl := Option.some.inj ho
            have d7 := hdep 7 (by decide +kernel)
            simp [slotOf, dstOf] at d7
            simp [opYields, go_sem, d7]
            exact Grow.refl _
          | 9, _ =>
            have hwt := gwanted ho (g := 8) (bb := false) (by rfl) (hdep 8 (by decide +kernel))
            unfold opYields
            rw [if_pos hwt]
            obtain rfl := Option.some.inj ho
            have o3 := hoff 3 (by decide +kernel)
            simp at o3
            simp [go_sem, o3]
            exact Grow.refl _
          | 10, _ =>
            have hwt := gwanted ho (g := 8) (bb := false) (by rfl) (hdep 8 (by decide +kernel))
            unfold opYields
            rw [if_pos hwt]
            obtain rfl := Option.some.inj ho
            have d9 := hdep 9 (by decide +kernel)
            simp [slotOf, dstOf] at d9
            simp [go_sem, d9]
            exact ⟨Grow.refl _, by omega⟩
          | 11, _ =>
            obtain rfl := Option.some.inj ho
            have d8 := hdep 8 (by decide +kernel)
            simp [slotOf, dstOf] at d8
            have d10 := hdep 10 (by decide +kernel)
            simp [slotOf, dstOf] at d10
            simp [opYields, go_sem, d8, d10]
            exact Grow.refl _
          | 12, _ =>
            obtain rfl := Option.some.inj ho
            have d11 := hdep 11 (by decide +kernel)
            simp [slotOf, dstOf] at d11
            simp [opYields, go_sem, d11]
            exact Grow.refl _
          | 13, _ =>
            have hwt := gwanted ho (g := 12) (bb := false) (by rfl) (hdep 12 (by decide +kernel))
            unfold opYields
            rw [if_pos hwt]
            obtain rfl := Option.some.inj ho
            have o3 := hoff 3 (by decide +kernel)
            simp at o3
            simp [go_sem, o3]
            exact Grow.refl _
          | 14, _ =>
            have hwt := gwanted ho (g := 12) (bb := false) (by rfl) (hdep 12 (by decide +kernel))
            unfold opYields
            rw [if_pos hwt]
            obtain rfl := Option.some.inj ho
            have d13 := hdep 13 (by decide +kernel)
            simp [slotOf, dstOf] at d13
            simp [go_sem, d13]
            refine (HNO.out w2).mono ?_
            rintro e w3 ⟨rfl, hb⟩
            exact ⟨hb, rfl⟩
          | 15, _ =>
            have hwt := gwanted ho (g := 12) (bb := false) (by rfl) (hdep 12 (by decide +kernel))
            unfold opYields
            rw [if_pos hwt]
            obtain rfl := Option.some.inj ho
            have o0 := hoff 0 (by decide +kernel)
            simp at o0
            simp [go_sem, o0]
            exact Grow.refl _
          | 16, _ =>
            have hwt := gwanted ho (g := 12) (bb := false) (by rfl) (hdep 12 (by decide +kernel))
            unfold opYields
            rw [if_pos hwt]
            obtain rfl := Option.some.inj ho
            have d15 := hdep 15 (by decide +kernel)
            simp [slotOf, dstOf] at d15
            simp [go_sem, d15]
            exact Grow.refl _
          | 17, _ =>
            have hwt := gwanted ho (g := 12) (bb := false) (by rfl) (hdep 12 (by decide +kernel))
            unfold opYields
            rw [if_pos hwt]
            obtain rfl := Option.some.inj ho
            have d16 := hdep 16 (by decide +kernel)
            simp [slotOf, dstOf] at d16
            simp [go_sem, d16]
            exact Grow.refl _
          | 18, _ =>
            have hwt := gwanted ho (g := 12) (bb := false) (by rfl) (hdep 12 (by decide +kernel))
            unfold opYields
            rw [if_pos hwt]
            obtain rfl := Option.some.inj ho
            have d17 := hdep 17 (by decide +kernel)
            simp [slotOf, dstOf] at d17
            simp [go_sem, d17, x0]
            exact Grow.refl _
          | 19, _ =>
            have hwt := gwanted ho (g := 12) (bb := false) (by rfl) (hdep 12 (by decide +kernel))
            unfold opYields
            rw [if_pos hwt]
            obtain rfl := Option.some.inj ho
            have o4 := hoff 4 (by decide +kernel)
            simp at o4
            simp [go_sem, o4]
            exact Grow.refl _
          | 20, _ =>
            have hwt := gwanted ho (g := 12) (bb := false) (by rfl) (hdep 12 (by decide +kernel))
            unfold opYields
            rw [if_pos hwt]
            obtain rfl := Option.some.inj ho
            have d18 := hdep 18 (by decide +kernel)
            simp [slotOf, dstOf] at d18
            have d19 := hdep 19 (by decide +kernel)
            simp [slotOf, dstOf] at d19
            simp [go_sem, d18, d19, hki]
            exact Grow.refl _
          | 21, _ =>
            have hwt := gwanted ho (g := 12) (bb := false) (by rfl) (hdep 12 (by decide +kernel))
            unfold opYields
            rw [if_pos hwt]
            obtain rfl := Option.some.inj ho
            have d14 := hdep 14 (by decide +kernel)
            simp [slotOf, dstOf] at d14
            have d20 := hdep 20 (by decide +kernel)
            simp [slotOf, dstOf] at d20
            simp [go_sem, d14, d20]
            exact ⟨Grow.refl _, by rw [← hqb]; simp [bne]⟩
          | 22, _ =>
            obtain rfl := Option.some.inj ho
            have d12 := hdep 12 (by decide +kernel)
            simp [slotOf, dstOf] at d12
            have d21 := hdep 21 (by decide +kernel)
            simp [slotOf, dstOf] at d21
            simp [opYields, go_sem, d12, d21]
            exact Grow.refl _
          | k + 23, h => exact absurd h (by omega)
        · have v22 := hvals 22 (by omega)
          simp only at v22
          have hblk := below_block hG.undrew H.out (lt_of_block H.out)
          have HG := hide hG.undrew
          have HB := hide hblk
          obtain ⟨x0, x1⟩ := two_of hblk
          obtain ⟨z0, z1⟩ := HZ.out w2 hblk
          clear hvals hG hblk c0 c1
          simp [over, dstOf, Act.put, v22]
          cases qb with
          | true =>
            have hb : Hid (numT (s, false) = (0, (s, true))) := hide (by
              unfold numT
              rw [if_neg (by simp), HCUT.out, if_neg (fun h => by have := h.2; rw [this] at hqb; simp at hqb)])
            clear hqb
            go_wp2
            go_ret
            rw [hb.out]
            exact ⟨rfl, (KI.grow HG.out).trans (KI.set b _ 1 _), HF1.out _ HB.out _⟩
          | false =>
            have hb : Hid (numT (s, false) = (n, (s.drop k, false))) := hide (by
              unfold numT
              have he : numB n = s.take k := by simpa using hqb
              rw [if_neg (by simp), HCUT.out, if_pos ⟨trivial, he⟩]
              simp only
              rw [if_pos hn])
            clear hqb
            go_wp2
            go_ret
            rw [hb.out]
            exact ⟨rfl, (KI.grow HG.out).trans (KI.set b _ 0 _), HF0.out _ HB.out _⟩
      · have hni : decide (4611686018427387904 < n) = true := decide_eq_true (by omega)
        have hni2 : (4611686018427387904 : Int) < (n : Int) := by omega
        have hb : Hid (numT (s, false) = (0, (s, true))) := hide (by
          unfold numT
          rw [if_neg (by simp), HCUT.out]
          by_cases hc : (0 = 0 ∧ numB n = s.take k)
          · rw [if_pos hc]; simp only; rw [if_neg hn]
          · rw [if_neg hc])
        obtain ⟨z0, z1⟩ := HZ.out w H.out
        go_enter Try.func29, Try.ntmps29
        go_wp2_with fail
        refine HN.out.mono ?_
        rintro e w1 ⟨rfl, hw1⟩
        subst hw1
        go_wp2
        go_quiet (fail)
        go_wp2
        go_ret
        rw [hb.out]
        exact ⟨rfl, (KI.drewN' b _ _).trans (KI.set b _ 1 _), HF1.out _ H.out _⟩
    · have hne : ((er : Int) != 0) = true := by simp; exact he
      have hb : Hid (numT (s, false) = (0, (s, true))) := hide (by
        unfold numT
        rw [if_neg (by simp), HCUT.out, if_neg (fun h => he h.1)])
      obtain ⟨z0, z1⟩ := HZ.out w H.out
      clear he
      go_enter Try.func29, Try.ntmps29
      go_wp2_with fail
      refine HN.out.mono ?_
      rintro e w1 ⟨rfl, hw1⟩
      subst hw1
      go_wp2
      go_quiet (fail)
      go_wp2
      go_ret
      rw [hb.out]
      exact ⟨rfl, (KI.drewN' b _ _).trans (KI.set b _ 1 _), HF1.out _ H.out _⟩
end Go.Proofs.Ytnlkfehnmijimaa.Rc
