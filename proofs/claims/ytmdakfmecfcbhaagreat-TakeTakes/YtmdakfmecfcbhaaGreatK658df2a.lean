/- 4 texts in one. -/
import Derived.Test.YtmdakfmecfcbhaaGreatProg
import Derived.Test.YtmdakfmecfcbhaaGreatK7e06493
import Derived.Test.YtmdakfmecfcbhaaGreatK85cc7d6
import Derived.Test.YtmdakfmecfcbhaaGreatK6271d58
import Derived.Test.YtmdakfmecfcbhaaGreatK2326a0d
import Derived.Test.YtmdakfmecfcbhaaGreatK3e23582
import Derived.Test.YtmdakfmecfcbhaaGreatKcd6d4df
set_option linter.unusedVariables false
set_option linter.unusedSimpArgs false
namespace Go.Proofs.YtmdakfmecfcbhaaGreat
open Go.RowKit
attribute [local go_sem] bs_size bs_toList bs_append bs_get bs_extract
/-- Bytes from back, one by one. -/
def copyB (back : Nat) : Nat → List UInt8 → List UInt8
  | 0, m => m
  | n + 1, m => copyB back n (m ++ [m.getD (m.length - back) 0])
theorem copyB_length (back : Nat) : ∀ (n : Nat) (m : List UInt8), (copyB back n m).length = m.length + n
  | 0, m => rfl
  | n + 1, m => by rw [copyB, copyB_length back n]; simp; omega
theorem copyB_snoc (back : Nat) : ∀ (n : Nat) (m : List UInt8), copyB back (n + 1) m = copyB back n m ++ [(copyB back n m).getD ((copyB back n m).length - back) 0]
  | 0, m => rfl
  | n + 1, m => by
    have := copyB_snoc back n (m ++ [m.getD (m.length - back) 0])
    rw [copyB, this]
    rfl
/-- What holds while a byte from back is put behind: ahead of the append and behind it. -/
def againJ (w : World) (B ub : Nat) (r made : List UInt8) (told : Int) (c : UInt8) (v : Value) (b18 b19 : Bool) (x18 x19 : Value) (w' : World) : Prop :=
  KeptX B ub w w' ∧ B ≤ w'.heap.size ∧ w'.heap[ub]? = some (.cells #[.string (bs r), .int .i64 told, v] 92 (0, 0)) ∧
    (b19 = false → w'.ownsRow B 5 1 v made.length (bytesV made)) ∧ (b18 = true → b19 = false → ∃ g, x18 = .slice (some ⟨g, 0, none⟩) 1 1 ∧ w'.heap[g]? = some (.cells #[.int .u8 c.toNat] 5 (0, 0))) ∧
    (b19 = true → w'.ownsRow B 5 1 x19 (made.length + 1) (bytesV (made ++ [c])))
set_option maxRecDepth 20000 in
set_option maxHeartbeats 4000000 in
theorem again_any (w : World) (B ub n back : Nat) (r made : List UInt8) (told : Int) (hub : ub < B) (hu : unpAt w B ub r told made) (hn : n ≤ 1000000) (hm : made.length ≤ 1000000) (ht : 0 ≤ told ∧ told ≤ 1000000) (hback : back ≤ 9223372036854775807) :
    Calls Tryz.prog 113 #[.pointer (some ⟨ub, 0, none⟩), .int .i64 n, .int .i64 back] w fun e w' => KeptX B ub w w' ∧
      (((n : Int) + made.length ≤ told ∧ 1 ≤ back ∧ back ≤ made.length ∧ e = .returned (.tuple #[]) ∧ unpAt w' B ub r told (copyB back n made)) ∨ (¬ ((n : Int) + made.length ≤ told ∧ 1 ≤ back ∧ back ≤ made.length) ∧ e = gaveUp 1)) := by
  go_enter Tryz.func113, Tryz.ntmps113
  go_wp2_with fail
  refine (room_any w B ub n r made told hu hm ht).mono ?_
  rintro e w1 ⟨⟨k, rfl⟩, (⟨h1, rfl⟩ | ⟨h1, rfl⟩)⟩
  · obtain ⟨hB, v, hb, ho⟩ := id hu
    obtain ⟨ao, cp, rfl⟩ := own_shape ho
    obtain ⟨c0, c1, c2, z0, z1, z2⟩ := three_cells hb
    by_cases g1 : 1 ≤ back
    · have g1' : ¬ (back : Int) < 1 := by omega
      by_cases g2 : back ≤ made.length
      · have g2' : ¬ (made.length : Int) < back := by omega
        have HU := hide hu
        clear hb ho hu
        go_wp2
        go_loopw [22] (fun i wr => ∃ q : Nat, q ≤ n ∧ i = .int .i64 q ∧ KeptX B ub w wr ∧ unpAt wr B ub r told (copyB back q made)) (fun i _ => n - (intOf i).toNat)
        case atStart => exact ⟨0, by omega, rfl, ⟨rfl, rfl, rfl, Nat.le_refl _, fun _ _ _ => rfl⟩, HU.out⟩
        case round =>
          obtain ⟨q, hq, rfl, hkr, hur⟩ := hrel
          rename World => wr
          clear c0 c1 c2 z0 z1 z2
          by_cases hlt : q < n
          · have hml := copyB_length back q made
            have HSn : Hid (copyB back (q + 1) made = copyB back q made ++ [(copyB back q made).getD ((copyB back q made).length - back) 0]) := copyB_snoc back q made
            obtain ⟨M, HM⟩ : ∃ M, Hid (copyB back q made = M) := ⟨_, hide rfl⟩
            rw [HM.out] at hml hur HSn
            obtain ⟨hBr, v, hbr, hor⟩ := hur
            obtain ⟨ao', cp', rfl⟩ := own_shape hor
            obtain ⟨x, hx⟩ : ∃ x, x = M.length - back := ⟨_, rfl⟩
            have hxl : x < M.length := by omega
            have hxi : (M.length : Int) - (back : Int) = (x : Int) := by omega
            have HC : Hid (M.getD (M.length - back) 0 = M[x]) := by show _ = _; rw [← hx]; exact getD_get M x hxl
            obtain ⟨gm, rfl⟩ : ∃ gm, ao' = some ⟨gm, 0, none⟩ := by
              rcases hor.2 with ⟨_, h0⟩ | ⟨g, cap, cur, e, _⟩
              · omega
              · simp at e; exact ⟨g, e.1⟩
            obtain ⟨i0, hinf, hz0, hz1, hz2⟩ := info_parts Tryz.info5
            have HB := hide hbr
            have HO := hide hor
            clear hbr hor
            go_wp2
            refine wp_region_state 22 47 Tryz.mixed2 rfl (by decide +kernel) (fun L vals w' => againJ wr B ub r M told M[x] (.slice (some ⟨gm, 0, none⟩) M.length cp') (L 18) (L 19) (vals 18) (vals 19) w')
              (fun L vals h => ?_)
              (fun i v => match i with
                | 0 => v = .pointer (some ⟨ub, 0, none⟩)
                | 1 => v = .pointer (some ⟨ub, 0, none⟩)
                | 2 => v = .pointer (some ⟨ub, 0, none⟩)
                | 3 => v = .pointer (some ⟨ub, 2, none⟩)
                | 4 => v = .slice (some ⟨gm, 0, none⟩) M.length cp'
                | 5 => v = .pointer (some ⟨ub, 0, none⟩)
                | 6 => v = .pointer (some ⟨ub, 0, none⟩)
                | 7 => v = .pointer (some ⟨ub, 2, none⟩)
                | 8 => v = .slice (some ⟨gm, 0, none⟩) M.length cp'
                | 9 => v = .pointer (some ⟨ub, 0, none⟩)
                | 10 => v = .pointer (some ⟨ub, 0, none⟩)
                | 11 => v = .pointer (some ⟨ub, 2, none⟩)
                | 12 => v = .slice (some ⟨gm, 0, none⟩) M.length cp'
                | 13 => v = .int .i64 M.length
                | 14 => v = .int .i64 back
                | 15 => v = .int .i64 x
                | 16 => v = .pointer (some ⟨gm, x, none⟩)
                | 17 => v = .int .u8 (M[x].toNat : Int)
                | 18 => ∃ g, v = .slice (some ⟨g, 0, none⟩) 1 1
                | 19 => ∃ ao' cp', v = .slice ao' (M.length + 1) cp'
                | 20 => v = .pointer (some ⟨ub, 0, none⟩)
                | _ => v = .pointer (some ⟨ub, 2, none⟩))
              (fun _ _ => False) (fun _ _ _ _ h => h.elim) (fun i hi o ho a w2 L vals hLi hLc hLe hJ hoff hval hdep => ?_) (fun vals w2 L hL hJ hvals => ?_)
            · simp only [h]
              exact ⟨⟨rfl, rfl, rfl, Nat.le_refl _, fun _ _ _ => rfl⟩, hBr, HB.out, fun _ => HO.out, fun h => by simp at h, fun h => by simp at h⟩
            · obtain ⟨hk, hB2, hblk, hown, hone, hown2⟩ := id hJ
              obtain ⟨c0, c1, c2, z0, z1, z2⟩ := three_cells hblk
              have step : ∀ i v, i ≠ 18 → i ≠ 19 → againJ wr B ub r M told M[x] (.slice (some ⟨gm, 0, none⟩) M.length cp') (decide (18 = i) || L 18) (decide (19 = i) || L 19) (if 18 = i then v else vals 18) (if 19 = i then v else vals 19) w2 := fun i v h1 h2 => by
                have e1 : ¬ 18 = i := fun h => h1 h.symm
                have e2 : ¬ 19 = i := fun h => h2 h.symm
                simpa [e1, e2] using hJ
              match i, hi with
              | 0, _ =>
                obtain rfl := Option.some.inj ho
                have o0 := hoff 0 (by decide +kernel)
                simp at o0
                simp [opYields, go_sem, o0]
                exact hJ
              | 1, _ =>
                obtain rfl := Option.some.inj ho
                have o0 := hoff 0 (by decide +kernel)
                simp at o0
                simp [opYields, go_sem, o0]
                exact hJ
              | 2, _ =>
                obtain rfl := Option.some.inj ho
                have d1 := hdep 1 (by decide +kernel)
                simp [slotOf, dstOf] at d1
                simp [opYields, go_sem, d1]
                exact hJ
              | 3, _ =>
                obtain rfl := Option.some.inj ho
                have d2 := hdep 2 (by decide +kernel)
                simp [slotOf, dstOf] at d2
                simp [opYields, go_sem, d2]
                exact hJ
              | 4, _ =>
                obtain rfl := Option.some.inj ho
                have d3 := hdep 3 (by decide +kernel)
                simp [slotOf, dstOf] at d3
                simp [opYields, go_sem, d3, c2]
                exact hJ
              | 5, _ =>
                obtain rfl := Option.some.inj ho
                have o0 := hoff 0 (by decide +kernel)
                simp at o0
                simp [opYields, go_sem, o0]
                exact hJ
              | 6, _ =>
                obtain rfl := Option.some.inj ho
                have d5 := hdep 5 (by decide +kernel)
                simp [slotOf, dstOf] at d5
                simp [opYields, go_sem, d5]
                exact hJ
              | 7, _ =>
                obtain rfl := Option.some.inj ho
                have d6 := hdep 6 (by decide +kernel)
                simp [slotOf, dstOf] at d6
                simp [opYields, go_sem, d6]
                exact hJ
              | 8, _ =>
                obtain rfl := Option.some.inj ho
                have d7 := hdep 7 (by decide +kernel)
                simp [slotOf, dstOf] at d7
                simp [opYields, go_sem, d7, c2]
                exact hJ
              | 9, _ =>
                obtain rfl := Option.some.inj ho
                have o0 := hoff 0 (by decide +kernel)
                simp at o0
                simp [opYields, go_sem, o0]
                exact hJ
              | 10, _ =>
                obtain rfl := Option.some.inj ho
                have d9 := hdep 9 (by decide +kernel)
                simp [slotOf, dstOf] at d9
                simp [opYields, go_sem, d9]
                exact hJ
              | 11, _ =>
                obtain rfl := Option.some.inj ho
                have d10 := hdep 10 (by decide +kernel)
                simp [slotOf, dstOf] at d10
                simp [opYields, go_sem, d10]
                exact hJ
              | 12, _ =>
                obtain rfl := Option.some.inj ho
                have d11 := hdep 11 (by decide +kernel)
                simp [slotOf, dstOf] at d11
                simp [opYields, go_sem, d11, c2]
                exact hJ
              | 13, _ =>
                obtain rfl := Option.some.inj ho
                have d12 := hdep 12 (by decide +kernel)
                simp [slotOf, dstOf] at d12
                simp [opYields, go_sem, d12]
                exact hJ
              | 14, _ =>
                obtain rfl := Option.some.inj ho
                have o2 := hoff 2 (by decide +kernel)
                simp at o2
                simp [opYields, go_sem, o2]
                exact hJ
              | 15, _ =>
                obtain rfl := Option.some.inj ho
                have d13 := hdep 13 (by decide +kernel)
                simp [slotOf, dstOf] at d13
                have d14 := hdep 14 (by decide +kernel)
                simp [slotOf, dstOf] at d14
                simp [opYields, go_sem, d13, d14, hxi]
                exact ⟨hJ, wrap_i64_small _ (by omega) (by omega)⟩
              | 16, _ =>
                obtain rfl := Option.some.inj ho
                have d8 := hdep 8 (by decide +kernel)
                simp [slotOf, dstOf] at d8
                have d15 := hdep 15 (by decide +kernel)
                simp [slotOf, dstOf] at d15
                simp [opYields, go_sem, d8, d15, hxl]
                exact hJ
              | 17, _ =>
                have h19 : L 19 = false := by
                  cases h19 : L 19 with
                  | false => rfl
                  | true => have := hLc 18 (hLc 19 h19 18 (by decide +kernel)) 17 (by decide +kernel); rw [hLi] at this; cases this
                have hcell := World.ownsRow.cells (hown h19) (g := gm) rfl x (.int .u8 (M[x].toNat : Int)) (by simp [bytesV, hxl])
                rw [Addr.add_lit] at hcell
                simp only [Nat.zero_add] at hcell
                obtain rfl := Option.some.inj ho
                have d16 := hdep 16 (by decide +kernel)
                simp [slotOf, dstOf] at d16
                simp [opYields, go_sem, d16, hcell]
                exact hJ
              | 18, _ =>
                have h19 : L 19 = false := by
                  cases h19 : L 19 with
                  | false => rfl
                  | true => have := hLc 19 h19 18 (by decide +kernel); rw [hLi] at this; cases this
                obtain rfl := Option.some.inj ho
                have d17 := hdep 17 (by decide +kernel)
                simp [slotOf, dstOf] at d17
                simp [opYields, go_sem, d17]
                refine ⟨hk.trans (keptX_of ((Below.refl B w2).alloc hB2 _)), by simp; omega, ?_, fun _ => World.ownsRow.alloc (hown h19) _, fun _ _ => ⟨_, rfl, heap_alloc_new _ _⟩, fun h => by rw [h19] at h; cases h⟩
                rw [Below.heap_alloc _ _ _ (lt_of_block hblk)]
                exact hblk
              | 19, _ =>
                have h18 := hLe 18 (by decide +kernel)
                have hown := hown hLi
                obtain ⟨g, e18, hg⟩ := hone h18 hLi
                have s18 := hval 18 (by decide +kernel)
                rw [e18] at s18
                obtain rfl := Option.some.inj ho
                have d4 := hdep 4 (by decide +kernel)
                simp [slotOf, dstOf] at d4 s18
                obtain ⟨v', w3, hrun, hown3, hgrow, _⟩ := run_append_own (P := Tryz.prog) w2 B 63 63 5 i0 (.int .u8 0) 1 1 Tryz.underlying63 hinf hz0 hz1 hz2 rfl (by omega) _ M.length (bytesV M) hown ⟨g, 0, none⟩ 1 1 [.int .u8 (M[x].toNat : Int)] rfl (fun j u hu => by
                  match j, hu with
                  | 0, hu => simp at hu; subst hu; simpa [Addr.add] using cell_of_one hg) (by simp [Value.oneCell']) (by unfold maxLen; omega) (by omega) hB2
                rw [← bytesV_one, ← bytesV_append] at hown3
                refine yields_append rfl (.tmp 28) (.tmp 42) _ _ rfl (v1 := .slice (some ⟨gm, 0, none⟩) M.length cp') (v2 := .slice (some ⟨g, 0, none⟩) 1 1) (by simpa [Act.eval] using d4) (by simpa [Act.eval] using s18) hrun ?_
                obtain ⟨ao2, cp2, rfl⟩ := own_shape hown3
                have hbel : Below B w2 w3 := (Below.refl B w2).grown hgrow hB2 (fun k hk => (hown.lt k hk).1)
                exact ⟨⟨hk.trans (keptX_of hbel), by have := hbel.size; omega, grown_block hgrow hblk (own_apart hown hblk (by decide)), fun h => by simp at h, fun _ h => by simp at h, fun _ => hown3⟩, ao2, cp2, rfl⟩
              | 20, _ =>
                obtain rfl := Option.some.inj ho
                have d0 := hdep 0 (by decide +kernel)
                simp [slotOf, dstOf] at d0
                simp [opYields, go_sem, d0]
                exact hJ
              | 21, _ =>
                obtain rfl := Option.some.inj ho
                have d20 := hdep 20 (by decide +kernel)
                simp [slotOf, dstOf] at d20
                simp [opYields, go_sem, d20]
                exact hJ
              | n + 22, hi => omega
            · clear hml
              have h19 := hL 19 (by omega)
              obtain ⟨hk, hB2, hblk, _, _, hown2⟩ := hJ
              have hown2 := hown2 h19
              obtain ⟨ao2, cp2, v19⟩ := hvals 19 (by omega)
              have v21 := hvals 21 (by omega)
              simp only at v21
              rw [v19] at hown2
              clear hvals
              obtain ⟨c0, c1, c2, z0, z1, z2⟩ := three_cells hblk
              simp [over, dstOf, Act.put, v19, v21]
              go_wp2
              go_roundw
              case rel =>
                refine ⟨q + 1, by omega, by go_num, hkr.trans (hk.setAt _ _), by simpa [World.setCell] using hB2, _, set_block hblk _, ?_⟩
                have := ownsRow_setCell_other (a := ⟨ub, 2, none⟩) hown2 (own_apart hown2 hblk (by decide)) (.slice ao2 (M.length + 1) cp2)
                rw [HSn.out, HC.out, List.length_append]
                exact this
              case measure => simp [intOf]; omega
          · have hqn : q = n := by omega
            subst hqn
            have HK := hide hkr
            have HU2 := hide hur
            clear hkr hur
            go_wp2
            go_end0
            exact ⟨HK.out, .inl ⟨h1, g1, g2, rfl, HU2.out⟩⟩
      · have g2' : (made.length : Int) < back := by omega
        go_wp2
        exact ⟨rfl, ⟨rfl, rfl, rfl, Nat.le_refl _, fun _ _ _ => rfl⟩, .inr ⟨by omega, rfl⟩⟩
    · have g1' : (back : Int) < 1 := by omega
      go_wp2
      exact ⟨rfl, ⟨rfl, rfl, rfl, Nat.le_refl _, fun _ _ _ => rfl⟩, .inr ⟨by omega, rfl⟩⟩
  · exact ⟨rfl, ⟨rfl, rfl, rfl, Nat.le_refl _, fun _ _ _ => rfl⟩, .inr ⟨by omega, rfl⟩⟩
/-- A number of n bytes at a beginning, and what is behind it. -/
def cutLow (n : Nat) (r : List UInt8) : Option (Nat × List UInt8) := if n ≤ r.length then some (lowB (r.take n), r.drop n) else none
def plainB (told n : Nat) (r made : List UInt8) : Option (List UInt8 × List UInt8) := if n + made.length ≤ told ∧ n ≤ r.length then some (r.drop n, made ++ r.take n) else none
def againB (told n back : Nat) (r made : List UInt8) : Option (List UInt8 × List UInt8) := if n + made.length ≤ told ∧ 1 ≤ back ∧ back ≤ made.length then some (r, copyB back n made) else none
/-- An element: what is left behind it, and what is made with it. -/
def elemB (told : Nat) (r made : List UInt8) : Option (List UInt8 × List UInt8) :=
  match cutLow 1 r with
  | none => none
  | some (h, r1) =>
    if h % 4 = 0 then
      if 60 ≤ h / 4 then
        match cutLow (h / 4 - 59) r1 with
        | none => none
        | some (m, r2) => plainB told (m + 1) r2 made
      else plainB told (h / 4 + 1) r1 made
    else if h % 4 = 1 then
      match cutLow 1 r1 with
      | none => none
      | some (b, r2) => againB told (h / 4 % 8 + 4) (h / 32 * 256 + b) r2 made
    else if h % 4 = 2 then
      match cutLow 2 r1 with
      | none => none
      | some (b, r2) => againB told (h / 4 + 1) b r2 made
    else
      match cutLow 4 r1 with
      | none => none
      | some (b, r2) => againB told (h / 4 + 1) b r2 made
theorem cutLow_some {n m : Nat} {r r' : List UInt8} (h : cutLow n r = some (m, r')) : n ≤ r.length ∧ m = lowB (r.take n) ∧ r' = r.drop n ∧ m < 256 ^ n ∧ r'.length + n = r.length := by
  unfold cutLow at h
  split at h
  · rename_i hn
    simp at h
    obtain ⟨rfl, rfl⟩ := h
    have := lowB_lt (r.take n)
    rw [List.length_take, Nat.min_eq_left hn] at this
    exact ⟨hn, rfl, rfl, this, by rw [List.length_drop]; omega⟩
  · simp at h
theorem unnum_some (w : World) (B ub n m : Nat) (r r' made : List UInt8) (told : Int) (hu : unpAt w B ub r told made) (hr : r.length ≤ 140737488355328) (hn : n ≤ 4) (h : cutLow n r = some (m, r')) :
    Calls Tryz.prog 111 #[.pointer (some ⟨ub, 0, none⟩), .int .i64 n] w fun e w' => KeptX B ub w w' ∧ e = .returned (.int .i64 m) ∧ unpAt w' B ub r' told made := by
  obtain ⟨h1, rfl, rfl, _⟩ := cutLow_some h
  refine (unnum_any w B ub n r made told hu (by omega) hn).mono fun e w' ⟨hk, h⟩ => ?_
  rcases h with ⟨_, h2, h3⟩ | ⟨h2, _⟩
  · exact ⟨hk, h2, h3⟩
  · omega
theorem unnum_none (w : World) (B ub n : Nat) (r made : List UInt8) (told : Int) (hu : unpAt w B ub r told made) (hr : r.length ≤ 140737488355328) (hn : n ≤ 4) (h : cutLow n r = none) :
    Calls Tryz.prog 111 #[.pointer (some ⟨ub, 0, none⟩), .int .i64 n] w fun e w' => KeptX B ub w w' ∧ e = gaveUp 1 := by
  unfold cutLow at h
  refine (unnum_any w B ub n r made told hu (by omega) hn).mono fun e w' ⟨hk, h'⟩ => ?_
  rcases h' with ⟨h1, _⟩ | ⟨_, h2⟩
  · rw [if_pos h1] at h; cases h
  · exact ⟨hk, h2⟩
theorem plain_is (w : World) (B ub n told : Nat) (r made : List UInt8) (hu : unpAt w B ub r told made) (hr : r.length ≤ 140737488355328) (hm : made.length ≤ 1000000) (ht : told ≤ 1000000) :
    Calls Tryz.prog 112 #[.pointer (some ⟨ub, 0, none⟩), .int .i64 n] w fun e w' => KeptX B ub w w' ∧
      ((∃ r' m', plainB told n r made = some (r', m') ∧ e = .returned (.tuple #[]) ∧ unpAt w' B ub r' told m') ∨ (plainB told n r made = none ∧ e = gaveUp 1)) := by
  refine (plain_any w B ub n r made told hu hr hm ⟨by omega, by omega⟩).mono fun e w' ⟨hk, h⟩ => ⟨hk, ?_⟩
  unfold plainB
  rcases h with ⟨h1, h2, h3, h4⟩ | ⟨h1, h2⟩
  · exact .inl ⟨_, _, by rw [if_pos ⟨by omega, h2⟩], h3, h4⟩
  · exact .inr ⟨by rw [if_neg (fun h => h1 ⟨by omega, h.2⟩)], h2⟩
theorem again_is (w : World) (B ub n back told : Nat) (r made : List UInt8) (hub : ub < B) (hu : unpAt w B ub r told made) (hn : n ≤ 1000000) (hm : made.length ≤ 1000000) (ht : told ≤ 1000000) (hback : back ≤ 9223372036854775807) :
    Calls Tryz.prog 113 #[.pointer (some ⟨ub, 0, none⟩), .int .i64 n, .int .i64 back] w fun e w' => KeptX B ub w w' ∧
      ((∃ r' m', againB told n back r made = some (r', m') ∧ e = .returned (.tuple #[]) ∧ unpAt w' B ub r' told m') ∨ (againB told n back r made = none ∧ e = gaveUp 1)) := by
  refine (again_any w B ub n back r made told hub hu hn hm ⟨by omega, by omega⟩ hback).mono fun e w' ⟨hk, h⟩ => ⟨hk, ?_⟩
  unfold againB
  rcases h with ⟨h1, h2, h3, h4, h5⟩ | ⟨h1, h2⟩
  · exact .inl ⟨_, _, by rw [if_pos ⟨by omega, h2, h3⟩], h4, h5⟩
  · exact .inr ⟨by rw [if_neg (fun h => h1 ⟨by omega, h.2.1, h.2.2⟩)], h2⟩
theorem and3_i (h : Nat) (hh : h < 256) : bits .and .i64 (h : Int) 3 = ((h % 4 : Nat) : Int) := by
  rw [show (3 : Int) = ((3 : Nat) : Int) from rfl, bits_and_i64_nat h 3 (by omega) (by omega)]
  congr 1
  exact Nat.and_two_pow_sub_one_eq_mod h 2
theorem and7_i (h : Nat) (hh : h < 256) : bits .and .i64 (h : Int) 7 = ((h % 8 : Nat) : Int) := by
  rw [show (7 : Int) = ((7 : Nat) : Int) from rfl, bits_and_i64_nat h 7 (by omega) (by omega)]
  congr 1
  exact Nat.and_two_pow_sub_one_eq_mod h 3
theorem unnum_some_i (w : World) (B ub n m : Nat) (ni : Int) (r r' made : List UInt8) (told : Int) (hu : unpAt w B ub r told made) (hr : r.length ≤ 140737488355328) (hn : n ≤ 4) (hi : ni = (n : Int)) (h : cutLow n r = some (m, r')) :
    Calls Tryz.prog 111 #[.pointer (some ⟨ub, 0, none⟩), .int .i64 ni] w fun e w' => KeptX B ub w w' ∧ e = .returned (.int .i64 m) ∧ unpAt w' B ub r' told made := by
  subst hi; exact unnum_some w B ub n m r r' made told hu hr hn h
theorem unnum_none_i (w : World) (B ub n : Nat) (ni : Int) (r made : List UInt8) (told : Int) (hu : unpAt w B ub r told made) (hr : r.length ≤ 140737488355328) (hn : n ≤ 4) (hi : ni = (n : Int)) (h : cutLow n r = none) :
    Calls Tryz.prog 111 #[.pointer (some ⟨ub, 0, none⟩), .int .i64 ni] w fun e w' => KeptX B ub w w' ∧ e = gaveUp 1 := by
  subst hi; exact unnum_none w B ub n r made told hu hr hn h
theorem plain_i (w : World) (B ub n told : Nat) (ni : Int) (r made : List UInt8) (hu : unpAt w B ub r told made) (hr : r.length ≤ 140737488355328) (hm : made.length ≤ 1000000) (ht : told ≤ 1000000) (hi : ni = (n : Int)) :
    Calls Tryz.prog 112 #[.pointer (some ⟨ub, 0, none⟩), .int .i64 ni] w fun e w' => KeptX B ub w w' ∧
      ((∃ r' m', plainB told n r made = some (r', m') ∧ e = .returned (.tuple #[]) ∧ unpAt w' B ub r' told m') ∨ (plainB told n r made = none ∧ e = gaveUp 1)) := by
  subst hi; exact plain_is w B ub n told r made hu hr hm ht
theorem again_i (w : World) (B ub n back told : Nat) (ni bi : Int) (r made : List UInt8) (hub : ub < B) (hu : unpAt w B ub r told made) (hn : n ≤ 1000000) (hm : made.length ≤ 1000000) (ht : told ≤ 1000000) (hback : back ≤ 9223372036854775807) (hi : ni = (n : Int)) (hbi : bi = (back : Int)) :
    Calls Tryz.prog 113 #[.pointer (some ⟨ub, 0, none⟩), .int .i64 ni, .int .i64 bi] w fun e w' => KeptX B ub w w' ∧
      ((∃ r' m', againB told n back r made = some (r', m') ∧ e = .returned (.tuple #[]) ∧ unpAt w' B ub r' told m') ∨ (againB told n back r made = none ∧ e = gaveUp 1)) := by
  subst hi; subst hbi; exact again_is w B ub n back told r made hub hu hn hm ht hback
set_option maxRecDepth 20000 in
set_option maxHeartbeats 2000000 in
theorem element_any (w : World) (B ub told : Nat) (r made : List UInt8) (hub : ub < B) (hu : unpAt w B ub r told made) (hr : r.length ≤ 140737488355328) (hm : made.length ≤ 1000000) (ht : told ≤ 1000000) :
    Calls Tryz.prog 89 #[.pointer (some ⟨ub, 0, none⟩)] w fun e w' => KeptX B ub w w' ∧
      ((∃ r' m', elemB told r made = some (r', m') ∧ e = .returned (.tuple #[]) ∧ unpAt w' B ub r' told m') ∨ (elemB told r made = none ∧ e = gaveUp 1)) := by
  go_enter Tryz.func89, Tryz.ntmps89
  go_wp2_with fail
  cases hc : cutLow 1 r with
  | none =>
    have HC := hide hc
    refine (unnum_none w B ub 1 r made told hu hr (by omega) hc).mono ?_
    rintro e w1 ⟨hk, rfl⟩
    exact ⟨rfl, hk, .inr ⟨by unfold elemB; rw [HC.out], rfl⟩⟩
  | some x =>
    obtain ⟨h, r1⟩ := x
    have HC := hide hc
    have h256 := (cutLow_some hc).2.2.2.1
    have hlen := (cutLow_some hc).2.2.2.2
    simp only [Nat.pow_one] at h256
    refine (unnum_some w B ub 1 h r r1 made told hu hr (by omega) hc).mono ?_
    rintro e w1 ⟨hk, rfl, hu1⟩
    clear hc hu
    by_cases m0 : h % 4 = 0
    · have a3 : bits .and .i64 (h : Int) 3 = 0 := by rw [and3_i h h256, m0]; rfl
      by_cases m6 : 60 ≤ h / 4
      · have m6' : 60 ≤ (h : Int) / 4 := by omega
        go_wp2_with fail
        cases hc2 : cutLow (h / 4 - 59) r1 with
        | none =>
          have HC2 := hide hc2
          refine (unnum_none_i w1 B ub (h / 4 - 59) _ r1 made told hu1 (by omega) (by omega) (by omega) hc2).mono ?_
          rintro e w2 ⟨hk2, rfl⟩
          exact ⟨rfl, hk.trans hk2, .inr ⟨by unfold elemB; rw [HC.out]; simp only; rw [if_pos m0, if_pos m6, HC2.out], rfl⟩⟩
        | some y =>
          obtain ⟨m, r2⟩ := y
          have HC2 := hide hc2
          have hm2 := (cutLow_some hc2).2.2.2.1
          have hlen2 := (cutLow_some hc2).2.2.2.2
          have hm3 : m < 4294967296 := by
            have : 256 ^ (h / 4 - 59) ≤ 256 ^ 4 := Nat.pow_le_pow_right (by omega) (by omega)
            omega
          clear hm2
          refine (unnum_some_i w1 B ub (h / 4 - 59) m _ r1 r2 made told hu1 (by omega) (by omega) (by omega) hc2).mono ?_
          rintro e w2 ⟨hk2, rfl, hu2⟩
          clear hc2
          go_wp2_with fail
          refine (plain_i w2 B ub (m + 1) told _ r2 made hu2 (by omega) hm ht (by omega)).mono ?_
          rintro e w3 ⟨hk3, (⟨r', m', h1, rfl, h3⟩ | ⟨h1, rfl⟩)⟩
          · have H1 := hide h1
            have H3 := hide h3
            clear h1 h3
            go_wp2
            go_end0
            exact ⟨(hk.trans hk2).trans hk3, .inl ⟨r', m', by unfold elemB; rw [HC.out]; simp only; rw [if_pos m0, if_pos m6, HC2.out]; exact H1.out, rfl, H3.out⟩⟩
          · exact ⟨rfl, (hk.trans hk2).trans hk3, .inr ⟨by unfold elemB; rw [HC.out]; simp only; rw [if_pos m0, if_pos m6, HC2.out]; exact h1, rfl⟩⟩
      · have m6' : ¬ 60 ≤ (h : Int) / 4 := by omega
        go_wp2_with fail
        refine (plain_i w1 B ub (h / 4 + 1) told _ r1 made hu1 (by omega) hm ht (by omega)).mono ?_
        rintro e w3 ⟨hk3, (⟨r', m', h1, rfl, h3⟩ | ⟨h1, rfl⟩)⟩
        · have H1 := hide h1
          have H3 := hide h3
          clear h1 h3
          go_wp2
          go_end0
          exact ⟨hk.trans hk3, .inl ⟨r', m', by unfold elemB; rw [HC.out]; simp only; rw [if_pos m0, if_neg m6]; exact H1.out, rfl, H3.out⟩⟩
        · exact ⟨rfl, hk.trans hk3, .inr ⟨by unfold elemB; rw [HC.out]; simp only; rw [if_pos m0, if_neg m6]; exact h1, rfl⟩⟩
    · by_cases m1 : h % 4 = 1
      · have a3 : bits .and .i64 (h : Int) 3 = 1 := by rw [and3_i h h256, m1]; rfl
        have a7 : bits .and .i64 ((h : Int) / 4) 7 = ((h / 4 % 8 : Nat) : Int) := by rw [show (h : Int) / 4 = ((h / 4 : Nat) : Int) from by omega, and7_i _ (by omega)]
        go_wp2_with fail
        cases hc2 : cutLow 1 r1 with
        | none =>
          have HC2 := hide hc2
          refine (unnum_none_i w1 B ub 1 _ r1 made told hu1 (by omega) (by omega) (by omega) hc2).mono ?_
          rintro e w2 ⟨hk2, rfl⟩
          exact ⟨rfl, hk.trans hk2, .inr ⟨by unfold elemB; rw [HC.out]; simp only; rw [if_neg m0, if_pos m1, HC2.out], rfl⟩⟩
        | some y =>
          obtain ⟨b, r2⟩ := y
          have HC2 := hide hc2
          have hb2 := (cutLow_some hc2).2.2.2.1
          have hlen2 := (cutLow_some hc2).2.2.2.2
          simp only [Nat.pow_one] at hb2
          have HOr : Hid (bits .or .i64 ((h : Int) / 32 * 256) (b : Int) = ((h / 32 * 256 + b : Nat) : Int)) := by
            show _ = _
            have h6 := bits_or_i64_nat (h / 32 * 256) b (by omega) (by omega)
            rw [or_add_256 _ _ hb2] at h6
            rw [show (h : Int) / 32 * 256 = ((h / 32 * 256 : Nat) : Int) from by omega, h6]
            omega
          refine (unnum_some_i w1 B ub 1 b _ r1 r2 made told hu1 (by omega) (by omega) (by omega) hc2).mono ?_
          rintro e w2 ⟨hk2, rfl, hu2⟩
          clear hc2
          go_wp2_with fail
          refine (again_i w2 B ub (h / 4 % 8 + 4) (h / 32 * 256 + b) told _ _ r2 made hub hu2 (by omega) hm ht (by omega) (by omega) HOr.out).mono ?_
          rintro e w3 ⟨hk3, (⟨r', m', h1, rfl, h3⟩ | ⟨h1, rfl⟩)⟩
          · have H1 := hide h1
            have H3 := hide h3
            clear h1 h3
            go_wp2
            go_end0
            exact ⟨(hk.trans hk2).trans hk3, .inl ⟨r', m', by unfold elemB; rw [HC.out]; simp only; rw [if_neg m0, if_pos m1, HC2.out]; exact H1.out, rfl, H3.out⟩⟩
          · exact ⟨rfl, (hk.trans hk2).trans hk3, .inr ⟨by unfold elemB; rw [HC.out]; simp only; rw [if_neg m0, if_pos m1, HC2.out]; exact h1, rfl⟩⟩
      · by_cases m2 : h % 4 = 2
        · have a3 : bits .and .i64 (h : Int) 3 = 2 := by rw [and3_i h h256, m2]; rfl
          go_wp2_with fail
          cases hc2 : cutLow 2 r1 with
          | none =>
            have HC2 := hide hc2
            refine (unnum_none_i w1 B ub 2 _ r1 made told hu1 (by omega) (by omega) (by omega) hc2).mono ?_
            rintro e w2 ⟨hk2, rfl⟩
            exact ⟨rfl, hk.trans hk2, .inr ⟨by unfold elemB; rw [HC.out]; simp only; rw [if_neg m0, if_neg m1, if_pos m2, HC2.out], rfl⟩⟩
          | some y =>
            obtain ⟨b, r2⟩ := y
            have HC2 := hide hc2
            have hb2 := (cutLow_some hc2).2.2.2.1
            have hlen2 := (cutLow_some hc2).2.2.2.2
            have hb3 : b < 65536 := hb2
            clear hb2
            refine (unnum_some_i w1 B ub 2 b _ r1 r2 made told hu1 (by omega) (by omega) (by omega) hc2).mono ?_
            rintro e w2 ⟨hk2, rfl, hu2⟩
            clear hc2
            go_wp2_with fail
            refine (again_i w2 B ub (h / 4 + 1) b told _ _ r2 made hub hu2 (by omega) hm ht (by omega) (by omega) rfl).mono ?_
            rintro e w3 ⟨hk3, (⟨r', m', h1, rfl, h3⟩ | ⟨h1, rfl⟩)⟩
            · have H1 := hide h1
              have H3 := hide h3
              clear h1 h3
              go_wp2
              go_end0
              exact ⟨(hk.trans hk2).trans hk3, .inl ⟨r', m', by unfold elemB; rw [HC.out]; simp only; rw [if_neg m0, if_neg m1, if_pos m2, HC2.out]; exact H1.out, rfl, H3.out⟩⟩
            · exact ⟨rfl, (hk.trans hk2).trans hk3, .inr ⟨by unfold elemB; rw [HC.out]; simp only; rw [if_neg m0, if_neg m1, if_pos m2, HC2.out]; exact h1, rfl⟩⟩
        · have a3 : bits .and .i64 (h : Int) 3 = 3 := by rw [and3_i h h256, show h % 4 = 3 from by omega]; rfl
          go_wp2_with fail
          cases hc2 : cutLow 4 r1 with
          | none =>
            have HC2 := hide hc2
            refine (unnum_none_i w1 B ub 4 _ r1 made told hu1 (by omega) (by omega) (by omega) hc2).mono ?_
            rintro e w2 ⟨hk2, rfl⟩
            exact ⟨rfl, hk.trans hk2, .inr ⟨by unfold elemB; rw [HC.out]; simp only; rw [if_neg m0, if_neg m1, if_neg m2, HC2.out], rfl⟩⟩
          | some y =>
            obtain ⟨b, r2⟩ := y
            have HC2 := hide hc2
            have hb2 := (cutLow_some hc2).2.2.2.1
            have hlen2 := (cutLow_some hc2).2.2.2.2
            have hb3 : b < 4294967296 := hb2
            clear hb2
            refine (unnum_some_i w1 B ub 4 b _ r1 r2 made told hu1 (by omega) (by omega) (by omega) hc2).mono ?_
            rintro e w2 ⟨hk2, rfl, hu2⟩
            clear hc2
            go_wp2_with fail
            refine (again_i w2 B ub (h / 4 + 1) b told _ _ r2 made hub hu2 (by omega) hm ht (by omega) (by omega) rfl).mono ?_
            rintro e w3 ⟨hk3, (⟨r', m', h1, rfl, h3⟩ | ⟨h1, rfl⟩)⟩
            · have H1 := hide h1
              have H3 := hide h3
              clear h1 h3
              go_wp2
              go_end0
              exact ⟨(hk.trans hk2).trans hk3, .inl ⟨r', m', by unfold elemB; rw [HC.out]; simp only; rw [if_neg m0, if_neg m1, if_neg m2, HC2.out]; exact H1.out, rfl, H3.out⟩⟩
            · exact ⟨rfl, (hk.trans hk2).trans hk3, .inr ⟨by unfold elemB; rw [HC.out]; simp only; rw [if_neg m0, if_neg m1, if_neg m2, HC2.out]; exact h1, rfl⟩⟩
theorem plainB_some {told n : Nat} {r made r' m' : List UInt8} (h : plainB told n r made = some (r', m')) : r'.length ≤ r.length ∧ m'.length ≤ told := by
  unfold plainB at h
  split at h
  · rename_i hc
    simp at h
    obtain ⟨rfl, rfl⟩ := h
    simp; omega
  · simp at h
theorem againB_some {told n back : Nat} {r made r' m' : List UInt8} (h : againB told n back r made = some (r', m')) : r'.length ≤ r.length ∧ m'.length ≤ told := by
  unfold againB at h
  split at h
  · rename_i hc
    simp at h
    obtain ⟨rfl, rfl⟩ := h
    rw [copyB_length]; omega
  · simp at h
theorem elemB_some {told : Nat} {r made r' m' : List UInt8} (h : elemB told r made = some (r', m')) : r'.length < r.length ∧ m'.length ≤ told := by
  unfold elemB at h
  split at h
  · simp at h
  · rename_i hd r1 h1
    have c1 := (cutLow_some h1).2.2.2.2
    split at h
    · split at h
      · split at h
        · simp at h
        · rename_i m r2 h2
          have c2 := (cutLow_some h2).2.2.2.2
          have := plainB_some h
          omega
      · have := plainB_some h
        omega
    · split at h
      · split at h
        · simp at h
        · rename_i m r2 h2
          have c2 := (cutLow_some h2).2.2.2.2
          have := againB_some h
          omega
      · split at h
        · split at h
          · simp at h
          · rename_i m r2 h2
            have c2 := (cutLow_some h2).2.2.2.2
            have := againB_some h
            omega
        · split at h
          · simp at h
          · rename_i m r2 h2
            have c2 := (cutLow_some h2).2.2.2.2
            have := againB_some h
            omega
/-- All elements of a text, behind what is made. -/
def unpF (told : Nat) : Nat → List UInt8 → List UInt8 → Option (List UInt8)
  | 0, r, made => if made.length < told then none else some made
  | k + 1, r, made =>
    if r = [] then (if made.length < told then none else some made)
    else
      match elemB told r made with
      | none => none
      | some (r', m') => unpF told k r' m'
def unpB (told : Nat) (r made : List UInt8) : Option (List UInt8) := unpF told r.length r made
theorem unpF_any (told : Nat) : ∀ (k k' : Nat) (r made : List UInt8), r.length ≤ k → r.length ≤ k' → unpF told k r made = unpF told k' r made := by
  intro k
  induction k with
  | zero =>
    intro k' r made h h'
    have : r = [] := List.eq_nil_of_length_eq_zero (by omega)
    subst this
    cases k' <;> rfl
  | succ k ih =>
    intro k' r made h h'
    cases k' with
    | zero =>
      have : r = [] := List.eq_nil_of_length_eq_zero (by omega)
      subst this
      rfl
    | succ k' =>
      simp only [unpF]
      split
      · rfl
      · split
        · rfl
        · rename_i r' m' he
          have := (elemB_some he).1
          exact ih k' r' m' (by omega) (by omega)
theorem unpB_nil (told : Nat) (made : List UInt8) : unpB told [] made = if made.length < told then none else some made := rfl
theorem unpB_none {told : Nat} {r made : List UInt8} (h0 : r ≠ []) (h : elemB told r made = none) : unpB told r made = none := by
  cases r with
  | nil => exact absurd rfl h0
  | cons c r => simp [unpB, unpF, h]
theorem unpB_some {told : Nat} {r made r' m' : List UInt8} (h0 : r ≠ []) (h : elemB told r made = some (r', m')) : unpB told r made = unpB told r' m' := by
  have hl := (elemB_some h).1
  cases r with
  | nil => exact absurd rfl h0
  | cons c r =>
    simp only [List.length_cons] at hl
    simp only [unpB, List.length_cons, unpF, List.cons_ne_nil, if_false, h]
    exact unpF_any told _ _ _ _ (by omega) (Nat.le_refl _)
theorem unpB_full {told : Nat} : ∀ (k : Nat) {r made m : List UInt8}, made.length ≤ told → unpF told k r made = some m → m.length = told
  | 0, r, made, m, hm, h => by
    unfold unpF at h
    split at h
    · cases h
    · cases h; omega
  | k + 1, r, made, m, hm, h => by
    unfold unpF at h
    split at h
    · split at h
      · cases h
      · cases h; omega
    · split at h
      · cases h
      · rename_i r' m' he
        exact unpB_full k (elemB_some he).2 h
/-- How much is left. -/
def restLen (w : World) (ub : Nat) : Nat := match w.heap[ub]? with | some (.cells c _ _) => strLen (c.getD 0 undef) | _ => 0
set_option maxRecDepth 20000 in
set_option maxHeartbeats 1000000 in
theorem uncatch_panicking (p : Addr) (x err : Int) (older : List PanicEntry) (w : World) (hc : w.cell? p = some (.int .i64 x)) (hz : w.frozen? p = false) :
    CallsD Tryz.prog 88 #[.pointer (some p)] (.panicking ({ v := .iface 24 (.int .i64 err), recovered := false } :: older)) w fun e u' w' =>
      e = .returned (.tuple #[]) ∧ u' = .panicking ({ v := .iface 24 (.int .i64 err), recovered := true } :: older) ∧ w' = w.setCell p (.int .i64 err) := by
  refine callsD_of_wpS Tryz.func88 rfl fun c₀ cs hu => ?_
  simp only [Tryz.ntmps88, List.size_toArray, List.length_cons, List.length_nil, Nat.reduceAdd, Nat.reduceSub, Array.replicate_succ,
     Array.replicate_zero, List.push_toArray, List.append_toArray, List.nil_append, List.cons_append]
  apply wpS_seq
  apply wpS_region
  simp [wpOpsS, go_sem, recoverD, hu, Exit.thenS]
  apply wpS_seq
  apply wpS_region
  simp [wpOpsS, go_sem, Exit.thenS]
  refine wpS_cond (t := true) (by simp [Act.eval, Array.replicate]) ?_
  simp only [if_true]
  refine wpS_of_wp ?_
  have has := assert_yes
  have hnot : ∀ (x : Bool) (w : World), (Op.unary .not (.bool x)).run Tryz.prog w = .ok (.bool (!x)) w := fun _ _ => rfl
  go_wp2
  cases c₀
  simp_all [bodyPostS, results, Tryz.results88]
set_option maxRecDepth 20000 in
set_option maxHeartbeats 1000000 in
theorem uncatch_idle (p : Addr) (w : World) :
    CallsD Tryz.prog 88 #[.pointer (some p)] .returning w fun e u' w' => e = .returned (.tuple #[]) ∧ u' = .returning ∧ w' = w := by
  refine callsD_of_wpS Tryz.func88 rfl fun c₀ cs hu => ?_
  simp only [Tryz.ntmps88, List.size_toArray, List.length_cons, List.length_nil, Nat.reduceAdd, Nat.reduceSub, Array.replicate_succ,
     Array.replicate_zero, List.push_toArray, List.append_toArray, List.nil_append, List.cons_append]
  apply wpS_seq
  apply wpS_region
  simp [wpOpsS, go_sem, recoverD, hu, Exit.thenS]
  apply wpS_seq
  apply wpS_region
  simp [wpOpsS, go_sem, Exit.thenS]
  refine wpS_cond (t := false) (by simp [Act.eval, Array.replicate]) ?_
  simp only [Bool.false_eq_true, if_false]
  refine wpS_of_wp (wp_skip ?_)
  cases c₀
  simp_all [bodyPostS, results, Tryz.results88]
theorem keepDraw {B ub n : Nat} {w w' : World} (h : KeptX B ub w w') : KeptX B ub w (w'.drewN n) := ⟨h.os, h.tape, h.output, h.size, h.block⟩
theorem keepSet {w w' : World} {ub n : Nat} {u : Value} (h : KeptX w.heap.size ub w w') : KeptX w.heap.size ub w (w'.setCell ⟨w.heap.size, n, none⟩ u) :=
  ⟨h.os, h.tape, h.output, by simpa [World.setCell] using h.size, fun k hk hn => (Below.heap_setCell _ _ _ _ (by show k ≠ w.heap.size; omega)).trans (h.block k hk hn)⟩
set_option maxRecDepth 20000 in
set_option maxHeartbeats 2000000 in
theorem unpAll_any (w : World) (ub told : Nat) (r : List UInt8) (hub : w.heap[ub]? = some (.cells #[.string (bs r), .int .i64 told, .slice none 0 0] 92 (0, 0))) (hr : r.length ≤ 140737488355328) (ht : told ≤ 1000000) :
    Calls Tryz.prog 62 #[.pointer (some ⟨ub, 0, none⟩)] w fun e w' => KeptX w.heap.size ub w w' ∧
      ((∃ m v, unpB told r [] = some m ∧ e = .returned (.int .i64 0) ∧ (∃ s, w'.heap[ub]? = some (.cells #[.string s, .int .i64 told, v] 92 (0, 0))) ∧ w'.ownsRow w.heap.size 5 1 v m.length (bytesV m)) ∨ (unpB told r [] = none ∧ e = .returned (.int .i64 1))) := by
  have hlt := lt_of_block hub
  have hmf : ∀ (fn : Fn) (first cap : Array Value) (w : World), (Instr.makeFunc fn first cap).run Tryz.prog w = .ok (.func fn first cap) w := fun _ _ _ _ => rfl
  obtain ⟨W, HW⟩ : ∃ W, Hid (W = w.alloc (.cells #[.int .i64 0] 24)) := ⟨_, hide rfl⟩
  have gW : Grow w W := by rw [HW.out]; exact (Grow.refl _).alloc _
  have hWe : W.heap[w.heap.size]? = some (.cells #[.int .i64 0] 24 (0, 0)) := by rw [HW.out]; exact heap_alloc_new _ _
  have hWs : W.heap.size = w.heap.size + 1 := by rw [HW.out]; simp
  have hWu := gW.get hub
  go_enter_defers Tryz.func62, Tryz.ntmps62
  go_wp2
  rw [← HW.out]
  go_loopw [] (fun wr => ∃ r1 made, unpAt wr (w.heap.size + 1) ub r1 told made ∧ KeptX (w.heap.size + 1) ub W wr ∧ r1.length ≤ r.length ∧ made.length ≤ told ∧ Hid (unpB told r [] = unpB told r1 made)) (fun wr => restLen wr ub)
  case atStart => exact ⟨r, [], ⟨by omega, _, hWu, World.ownsRow_nil _ _ _ _⟩, KeptX.refl _ _ _, Nat.le_refl _, by simp, hide rfl⟩
  case round =>
    obtain ⟨r1, made, hu, hk, hl1, hm, HE⟩ := hrel
    rename World => wr
    have hwe := hk.get hWe (by omega) (by omega)
    have hkw : KeptX w.heap.size ub w wr := ⟨hk.os.trans gW.os, hk.tape.trans gW.tape, hk.output.trans gW.output, Nat.le_trans gW.size hk.size, fun k hk1 hk2 => (hk.block k (by omega) hk2).trans (gW.block k hk1)⟩
    obtain ⟨hB, v, hb, ho⟩ := id hu
    obtain ⟨ao, cp, rfl⟩ := own_shape ho
    obtain ⟨c0, c1, c2, z0, z1, z2⟩ := three_cells hb
    by_cases h0 : r1 = []
    · subst h0
      by_cases hlt2 : made.length < told
      · have hlt3 : (made.length : Int) < told := by omega
        go_wp2
        go_quiet (fail)
        go_wp2
        have hn : unpB told r [] = none := by rw [HE.out, unpB_nil, if_pos hlt2]
        refine leaves_cons (f := 88) (args := #[.pointer (some ⟨w.heap.size, 0, none⟩)]) (by simp) (by simp [go_sem]) ?_
        refine (uncatch_panicking ⟨w.heap.size, 0, none⟩ 0 1 [] (wr.drewN nq) (cell_of_one (show (wr.drewN nq).heap[w.heap.size]? = _ from hwe)) (free_of_one (show (wr.drewN nq).heap[w.heap.size]? = _ from hwe))).mono ?_
        rintro e u' w'' ⟨rfl, rfl, rfl⟩
        have hc2 := cell_of_one (one_setCell (u := .int .i64 1) (show (wr.drewN nq).heap[w.heap.size]? = _ from hwe))
        simp [Leaves, settle, results, Tryz.results62, go_sem, hc2]
        exact ⟨keepSet (keepDraw hkw), hn⟩
      · have hlt3 : ¬ (made.length : Int) < told := by omega
        have e0 := cell_of_one hwe
        have ez := free_of_one hwe
        go_wp2
        go_quiet (fail)
        go_wp2
        have hn : unpB told r [] = some made := by rw [HE.out, unpB_nil, if_neg hlt2]
        refine leaves_cons (f := 88) (args := #[.pointer (some ⟨w.heap.size, 0, none⟩)]) (by simp) (by simp [go_sem]) ?_
        refine (uncatch_idle ⟨w.heap.size, 0, none⟩ _).mono ?_
        rintro e u' w'' ⟨rfl, rfl, rfl⟩
        have hc2 := cell_of_one (one_setCell (u := .int .i64 0) (show (wr.drewN nq).heap[w.heap.size]? = _ from hwe))
        simp [Leaves, settle, results, Tryz.results62, go_sem, hc2]
        have ho2 : (wr.drewN nq).ownsRow w.heap.size 5 1 (.slice ao made.length cp) made.length (bytesV made) := own_le ho (by omega)
        refine ⟨keepSet (keepDraw hkw), made, hn, .slice ao made.length cp, ⟨bs [], ?_⟩, ownsRow_setCell_other (a := ⟨w.heap.size, 0, none⟩) ho2 (own_apart ho2 (show (wr.drewN nq).heap[w.heap.size]? = _ from hwe) (by decide)) _⟩
        rw [Below.heap_setCell _ _ _ _ (by show ub ≠ w.heap.size; omega)]
        exact hb
    · have hpos : 0 < r1.length := List.length_pos_iff.2 h0
      have hpos2 : (0 : Int) < r1.length := by omega
      have H0 := hide h0
      clear h0
      go_wp2_with fail
      refine (element_any wr (w.heap.size + 1) ub told r1 made (by omega) hu (by omega) (by omega) ht).mono ?_
      rintro e w3 ⟨hk3, (⟨r', m', h1, rfl, h3⟩ | ⟨h1, rfl⟩)⟩
      · have H1 := hide h1
        have hs := elemB_some h1
        have H3 := hide h3
        clear h1 h3
        go_wp2
        go_roundw
        case rel => exact ⟨r', m', H3.out, hk.trans hk3, by omega, by omega, by show _ = _; rw [HE.out, unpB_some H0.out H1.out]⟩
        case measure =>
          obtain ⟨_, v3, hb3, _⟩ := H3.out
          simp only [restLen, hb, hb3]
          simp [strLen, bs_size]
          omega
      · have hn : unpB told r [] = none := by rw [HE.out, unpB_none H0.out h1]
        have hwe3 := hk3.get hwe (by omega) (by omega)
        have hkw3 : KeptX w.heap.size ub w w3 := ⟨hk3.os.trans hkw.os, hk3.tape.trans hkw.tape, hk3.output.trans hkw.output, Nat.le_trans hkw.size hk3.size, fun k h1 h2 => (hk3.block k (by omega) h2).trans (hkw.block k h1 h2)⟩
        refine leaves_cons (f := 88) (args := #[.pointer (some ⟨w.heap.size, 0, none⟩)]) (by simp) (by simp [go_sem]) ?_
        refine (uncatch_panicking ⟨w.heap.size, 0, none⟩ 0 1 [] w3 (cell_of_one hwe3) (free_of_one hwe3)).mono ?_
        rintro e u' w'' ⟨rfl, rfl, rfl⟩
        have hc2 := cell_of_one (one_setCell (u := .int .i64 1) hwe3)
        simp [Leaves, settle, results, Tryz.results62, go_sem, hc2]
        exact ⟨keepSet hkw3, hn⟩
/-- What Unpack answers: an error (0 is none) and a text. -/
def unpackB (s : List UInt8) (most : Int) : Int × List UInt8 :=
  if most < 0 ∨ 20000 < most then (3, [])
  else
    match cutNum s with
    | none => (1, [])
    | some (n, r) =>
      if most < n then (2, [])
      else
        match unpB n r [] with
        | none => (1, [])
        | some m => (0, m)
set_option maxRecDepth 20000 in
set_option maxHeartbeats 2000000 in
theorem unpack_any (w : World) (s : List UInt8) (most : Int) (hs : s.length ≤ 140737488355328) (h0 : -9223372036854775808 ≤ most) (h1 : most ≤ 9223372036854775807) :
    Calls Tryz.prog 36 #[.string (bs s), .int .i64 most] w fun e w' => e = .returned (.tuple #[.string (bs (unpackB s most).2), .int .i64 (unpackB s most).1]) ∧ Below w.heap.size w w' := by
  go_enter Tryz.func36, Tryz.ntmps36
  by_cases c1 : most < 0
  · have HE : Hid (unpackB s most = (3, [])) := by show _ = _; unfold unpackB; rw [if_pos (.inl c1)]
    go_wp2
    go_ret2
    exact ⟨by rw [HE.out]; rfl, Below.refl _ _⟩
  · by_cases c2 : 20000 < most
    · have HE : Hid (unpackB s most = (3, [])) := by show _ = _; unfold unpackB; rw [if_pos (.inr c2)]
      go_wp2
      go_ret2
      exact ⟨by rw [HE.out]; rfl, Below.refl _ _⟩
    · have HU : Hid (unpackB s most = match cutNum s with | none => (1, []) | some (n, r) => if most < n then (2, []) else match unpB n r [] with | none => (1, []) | some m => (0, m)) := by
        show _ = _; unfold unpackB; rw [if_neg (by omega)]
      go_wp2_with fail
      refine (readNumber_any s w (by unfold maxLen; omega)).mono ?_
      rintro e w1 ⟨rfl, rfl⟩
      rename World => w
      by_cases hc : (readNum s).2.2 = 0
      · have hcut : cutNum s = some ((readNum s).1, s.drop (readNum s).2.1) := by unfold cutNum; rw [if_pos hc]
        have hle := readNum_le s
        obtain ⟨n, size, e, hrd⟩ : ∃ n size e, readNum s = (n, size, e) := ⟨_, _, _, rfl⟩
        rw [hrd] at hc hcut hle ⊢
        simp only at hc hcut hle
        subst hc
        have h64 := hle.2.2
        have hsz := hle.1
        have HC := hide hcut
        clear hcut hle hrd
        have hwm : IntKind.u64.wrap most = most := wrap_u64_small _ (by omega) (by omega)
        by_cases c3 : most < n
        · have HE : Hid (unpackB s most = (2, [])) := by show _ = _; rw [HU.out, HC.out]; simp only; rw [if_pos c3]
          go_wp2
          go_ret2
          exact ⟨by rw [HE.out]; rfl, Below.refl _ _⟩
        · have hwn : IntKind.i64.wrap (n : Int) = n := wrap_i64_small _ (by omega) (by omega)
          have hq : (s.drop size).take (s.length - size) = s.drop size := List.take_of_length_le (by rw [List.length_drop]; exact Nat.le_refl _)
          have hdl : (s.drop size).length ≤ 140737488355328 := by rw [List.length_drop]; omega
          have hE : Hid (unpackB s most = match unpB n (s.drop size) [] with | none => (1, []) | some m => (0, m)) := by show _ = _; rw [HU.out, HC.out]; simp only; rw [if_neg c3]
          have hub := heap_alloc_new w (.cells #[.string (bs (s.drop size)), .int .i64 n, .slice none 0 0] 92)
          have hbW : Below w.heap.size w (w.alloc (.cells #[.string (bs (s.drop size)), .int .i64 n, .slice none 0 0] 92)) := (Below.refl _ _).alloc (Nat.le_refl _) _
          have hsW : (w.alloc (.cells #[.string (bs (s.drop size)), .int .i64 n, .slice none 0 0] 92)).heap.size = w.heap.size + 1 := by simp
          go_wp2_with fail
          refine (unpAll_any _ w.heap.size n (s.drop size) hub hdl (by omega)).mono ?_
          rintro e w2 ⟨hk, (⟨m, v, hm, rfl, ⟨st, hblk⟩, ho⟩ | ⟨hm, rfl⟩)⟩
          · have hb2 : Below w.heap.size w w2 := hbW.trans (hk.below (by omega) (Nat.le_refl _))
            have HM : Hid (unpackB s most = (0, m)) := by show _ = _; rw [hE.out, hm]
            obtain ⟨ao, cp, rfl⟩ := own_shape ho
            obtain ⟨c0, c1, c2, _⟩ := three_cells hblk
            have hcv := run_bytesStr (P := Tryz.prog) Tryz.underlying63 Tryz.underlying5 Tryz.underlying9 ho
            clear hub hbW hsW hm
            go_wp2
            go_ret2
            exact ⟨by rw [HM.out]; rfl, hb2⟩
          · have hb2 : Below w.heap.size w w2 := hbW.trans (hk.below (by omega) (Nat.le_refl _))
            have HM : Hid (unpackB s most = (1, [])) := by show _ = _; rw [hE.out, hm]
            clear hub hbW hsW hm
            go_wp2
            go_ret2
            exact ⟨by rw [HM.out]; rfl, hb2⟩
      · have hcut : cutNum s = none := by unfold cutNum; rw [if_neg hc]
        have HE : Hid (unpackB s most = (1, [])) := by show _ = _; rw [HU.out, hcut]
        obtain ⟨n, size, e, hrd⟩ : ∃ n size e, readNum s = (n, size, e) := ⟨_, _, _, rfl⟩
        rw [hrd] at hc ⊢
        simp only at hc
        have hne : ((e : Int) != 0) = true := by simp; omega
        clear hcut hrd hc
        go_wp2
        go_ret2
        exact ⟨by rw [HE.out]; rfl, Below.refl _ _⟩
end Go.Proofs.YtmdakfmecfcbhaaGreat
