/- The unpacker's elements of what stood there already. -/
import Derived.Test.YtmdakfmecfcbhaaGreatProg
import Derived.Test.YtmdakfmecfcbhaaGreatKit
import Derived.Test.YtmdakfmecfcbhaaGreatSpec
import Derived.Test.YtmdakfmecfcbhaaGreatSpec2
import Derived.Test.YtmdakfmecfcbhaaGreatReg
import Derived.Test.YtmdakfmecfcbhaaGreatReg2
import Derived.Test.YtmdakfmecfcbhaaGreatWWri
import Derived.Test.YtmdakfmecfcbhaaGreatRdA
import Derived.Test.YtmdakfmecfcbhaaGreatUnA
set_option linter.unusedVariables false
set_option linter.unusedSimpArgs false
namespace Go.Proofs.YtmdakfmecfcbhaaGreat
open Go.RowKit
attribute [local go_sem] bs_size bs_toList bs_append bs_get bs_extract

/-- Bytes from back, one by one. -/
def copyB (back : Nat) : Nat → List UInt8 → List UInt8
  | 0, m => m
  | n + 1, m => copyB back n (m ++ [m.getD (m.length - back) 0])
theorem copyB_length (back : Nat) : ∀ (n : Nat) (m : List UInt8), (copyB back n m).length = m.length + n
  | 0, m => rfl
  | n + 1, m => by rw [copyB, copyB_length back n]; simp; omega
theorem copyB_snoc (back : Nat) : ∀ (n : Nat) (m : List UInt8), copyB back (n + 1) m = copyB back n m ++ [(copyB back n m).getD ((copyB back n m).length - back) 0]
  | 0, m => rfl
  | n + 1, m => by
    have := copyB_snoc back n (m ++ [m.getD (m.length - back) 0])
    rw [copyB, this]
    rfl

/-- What holds while a byte from back is put behind: ahead of the append and behind it. -/
def againJ (w : World) (B ub : Nat) (r made : List UInt8) (told : Int) (c : UInt8) (v : Value) (b18 b19 : Bool) (x18 x19 : Value) (w' : World) : Prop :=
  KeptX B ub w w' ∧ B ≤ w'.heap.size ∧ w'.heap[ub]? = some (.cells #[.string (bs r), .int .i64 told, v] 92 (0, 0)) ∧
    (b19 = false → w'.ownsRow B 5 1 v made.length (bytesV made)) ∧ (b18 = true → b19 = false → ∃ g, x18 = .slice (some ⟨g, 0, none⟩) 1 1 ∧ w'.heap[g]? = some (.cells #[.int .u8 c.toNat] 5 (0, 0))) ∧
    (b19 = true → w'.ownsRow B 5 1 x19 (made.length + 1) (bytesV (made ++ [c])))

set_option maxRecDepth 20000 in
set_option maxHeartbeats 4000000 in
theorem again_any (w : World) (B ub n back : Nat) (r made : List UInt8) (told : Int) (hub : ub < B) (hu : unpAt w B ub r told made) (hn : n ≤ 1000000) (hm : made.length ≤ 1000000) (ht : 0 ≤ told ∧ told ≤ 1000000) (hback : back ≤ 9223372036854775807) :
    Calls Tryz.prog 113 #[.pointer (some ⟨ub, 0, none⟩), .int .i64 n, .int .i64 back] w fun e w' => KeptX B ub w w' ∧
      (((n : Int) + made.length ≤ told ∧ 1 ≤ back ∧ back ≤ made.length ∧ e = .returned (.tuple #[]) ∧ unpAt w' B ub r told (copyB back n made)) ∨ (¬ ((n : Int) + made.length ≤ told ∧ 1 ≤ back ∧ back ≤ made.length) ∧ e = gaveUp 1)) := by
  go_enter Tryz.func113, Tryz.ntmps113
  go_wp2_with fail
  refine (room_any w B ub n r made told hu hm ht).mono ?_
  rintro e w1 ⟨⟨k, rfl⟩, (⟨h1, rfl⟩ | ⟨h1, rfl⟩)⟩
  · obtain ⟨hB, v, hb, ho⟩ := id hu
    obtain ⟨ao, cp, rfl⟩ := own_shape ho
    obtain ⟨c0, c1, c2, z0, z1, z2⟩ := three_cells hb
    by_cases g1 : 1 ≤ back
    · have g1' : ¬ (back : Int) < 1 := by omega
      by_cases g2 : back ≤ made.length
      · have g2' : ¬ (made.length : Int) < back := by omega
        have HU := hide hu
        clear hb ho hu
        go_wp2
        go_loopw [22] (fun i wr => ∃ q : Nat, q ≤ n ∧ i = .int .i64 q ∧ KeptX B ub w wr ∧ unpAt wr B ub r told (copyB back q made)) (fun i _ => n - (intOf i).toNat)
        case atStart => exact ⟨0, by omega, rfl, ⟨rfl, rfl, rfl, Nat.le_refl _, fun _ _ _ => rfl⟩, HU.out⟩
        case round =>
          obtain ⟨q, hq, rfl, hkr, hur⟩ := hrel
          rename World => wr
          clear c0 c1 c2 z0 z1 z2
          by_cases hlt : q < n
          · have hml := copyB_length back q made
            have HSn : Hid (copyB back (q + 1) made = copyB back q made ++ [(copyB back q made).getD ((copyB back q made).length - back) 0]) := copyB_snoc back q made
            obtain ⟨M, HM⟩ : ∃ M, Hid (copyB back q made = M) := ⟨_, hide rfl⟩
            rw [HM.out] at hml hur HSn
            obtain ⟨hBr, v, hbr, hor⟩ := hur
            obtain ⟨ao', cp', rfl⟩ := own_shape hor
            obtain ⟨x, hx⟩ : ∃ x, x = M.length - back := ⟨_, rfl⟩
            have hxl : x < M.length := by omega
            have hxi : (M.length : Int) - (back : Int) = (x : Int) := by omega
            have HC : Hid (M.getD (M.length - back) 0 = M[x]) := by show _ = _; rw [← hx]; exact getD_get M x hxl
            obtain ⟨gm, rfl⟩ : ∃ gm, ao' = some ⟨gm, 0, none⟩ := by
              rcases hor.2 with ⟨_, h0⟩ | ⟨g, cap, cur, e, _⟩
              · omega
              · simp at e; exact ⟨g, e.1⟩
            obtain ⟨i0, hinf, hz0, hz1, hz2⟩ := info_parts Tryz.info5
            have HB := hide hbr
            have HO := hide hor
            clear hbr hor
            go_wp2
            refine wp_region_state 22 47 Tryz.mixed2 rfl (by decide +kernel) (fun L vals w' => againJ wr B ub r M told M[x] (.slice (some ⟨gm, 0, none⟩) M.length cp') (L 18) (L 19) (vals 18) (vals 19) w')
              (fun L vals h => ?_)
              (fun i v => match i with
                | 0 => v = .pointer (some ⟨ub, 0, none⟩)
                | 1 => v = .pointer (some ⟨ub, 0, none⟩)
                | 2 => v = .pointer (some ⟨ub, 0, none⟩)
                | 3 => v = .pointer (some ⟨ub, 2, none⟩)
                | 4 => v = .slice (some ⟨gm, 0, none⟩) M.length cp'
                | 5 => v = .pointer (some ⟨ub, 0, none⟩)
                | 6 => v = .pointer (some ⟨ub, 0, none⟩)
                | 7 => v = .pointer (some ⟨ub, 2, none⟩)
                | 8 => v = .slice (some ⟨gm, 0, none⟩) M.length cp'
                | 9 => v = .pointer (some ⟨ub, 0, none⟩)
                | 10 => v = .pointer (some ⟨ub, 0, none⟩)
                | 11 => v = .pointer (some ⟨ub, 2, none⟩)
                | 12 => v = .slice (some ⟨gm, 0, none⟩) M.length cp'
                | 13 => v = .int .i64 M.length
                | 14 => v = .int .i64 back
                | 15 => v = .int .i64 x
                | 16 => v = .pointer (some ⟨gm, x, none⟩)
                | 17 => v = .int .u8 (M[x].toNat : Int)
                | 18 => ∃ g, v = .slice (some ⟨g, 0, none⟩) 1 1
                | 19 => ∃ ao' cp', v = .slice ao' (M.length + 1) cp'
                | 20 => v = .pointer (some ⟨ub, 0, none⟩)
                | _ => v = .pointer (some ⟨ub, 2, none⟩))
              (fun _ _ => False) (fun _ _ _ _ h => h.elim) (fun i hi o ho a w2 L vals hLi hLc hLe hJ hoff hval hdep => ?_) (fun vals w2 L hL hJ hvals => ?_)
            · simp only [h]
              exact ⟨⟨rfl, rfl, rfl, Nat.le_refl _, fun _ _ _ => rfl⟩, hBr, HB.out, fun _ => HO.out, fun h => by simp at h, fun h => by simp at h⟩
            · obtain ⟨hk, hB2, hblk, hown, hone, hown2⟩ := id hJ
              obtain ⟨c0, c1, c2, z0, z1, z2⟩ := three_cells hblk
              have step : ∀ i v, i ≠ 18 → i ≠ 19 → againJ wr B ub r M told M[x] (.slice (some ⟨gm, 0, none⟩) M.length cp') (decide (18 = i) || L 18) (decide (19 = i) || L 19) (if 18 = i then v else vals 18) (if 19 = i then v else vals 19) w2 := fun i v h1 h2 => by
                have e1 : ¬ 18 = i := fun h => h1 h.symm
                have e2 : ¬ 19 = i := fun h => h2 h.symm
                simpa [e1, e2] using hJ
              match i, hi with
              | 0, _ =>
                obtain rfl := Option.some.inj ho
                have o0 := hoff 0 (by decide +kernel)
                simp at o0
                simp [opYields, go_sem, o0]
                exact hJ
              | 1, _ =>
                obtain rfl := Option.some.inj ho
                have o0 := hoff 0 (by decide +kernel)
                simp at o0
                simp [opYields, go_sem, o0]
                exact hJ
              | 2, _ =>
                obtain rfl := Option.some.inj ho
                have d1 := hdep 1 (by decide +kernel)
                simp [slotOf, dstOf] at d1
                simp [opYields, go_sem, d1]
                exact hJ
              | 3, _ =>
                obtain rfl := Option.some.inj ho
                have d2 := hdep 2 (by decide +kernel)
                simp [slotOf, dstOf] at d2
                simp [opYields, go_sem, d2]
                exact hJ
              | 4, _ =>
                obtain rfl := Option.some.inj ho
                have d3 := hdep 3 (by decide +kernel)
                simp [slotOf, dstOf] at d3
                simp [opYields, go_sem, d3, c2]
                exact hJ
              | 5, _ =>
                obtain rfl := Option.some.inj ho
                have o0 := hoff 0 (by decide +kernel)
                simp at o0
                simp [opYields, go_sem, o0]
                exact hJ
              | 6, _ =>
                obtain rfl := Option.some.inj ho
                have d5 := hdep 5 (by decide +kernel)
                simp [slotOf, dstOf] at d5
                simp [opYields, go_sem, d5]
                exact hJ
              | 7, _ =>
                obtain rfl := Option.some.inj ho
                have d6 := hdep 6 (by decide +kernel)
                simp [slotOf, dstOf] at d6
                simp [opYields, go_sem, d6]
                exact hJ
              | 8, _ =>
                obtain rfl := Option.some.inj ho
                have d7 := hdep 7 (by decide +kernel)
                simp [slotOf, dstOf] at d7
                simp [opYields, go_sem, d7, c2]
                exact hJ
              | 9, _ =>
                obtain rfl := Option.some.inj ho
                have o0 := hoff 0 (by decide +kernel)
                simp at o0
                simp [opYields, go_sem, o0]
                exact hJ
              | 10, _ =>
                obtain rfl := Option.some.inj ho
                have d9 := hdep 9 (by decide +kernel)
                simp [slotOf, dstOf] at d9
                simp [opYields, go_sem, d9]
                exact hJ
              | 11, _ =>
                obtain rfl := Option.some.inj ho
                have d10 := hdep 10 (by decide +kernel)
                simp [slotOf, dstOf] at d10
                simp [opYields, go_sem, d10]
                exact hJ
              | 12, _ =>
                obtain rfl := Option.some.inj ho
                have d11 := hdep 11 (by decide +kernel)
                simp [slotOf, dstOf] at d11
                simp [opYields, go_sem, d11, c2]
                exact hJ
              | 13, _ =>
                obtain rfl := Option.some.inj ho
                have d12 := hdep 12 (by decide +kernel)
                simp [slotOf, dstOf] at d12
                simp [opYields, go_sem, d12]
                exact hJ
              | 14, _ =>
                obtain rfl := Option.some.inj ho
                have o2 := hoff 2 (by decide +kernel)
                simp at o2
                simp [opYields, go_sem, o2]
                exact hJ
              | 15, _ =>
                obtain rfl := Option.some.inj ho
                have d13 := hdep 13 (by decide +kernel)
                simp [slotOf, dstOf] at d13
                have d14 := hdep 14 (by decide +kernel)
                simp [slotOf, dstOf] at d14
                simp [opYields, go_sem, d13, d14, hxi]
                exact ⟨hJ, wrap_i64_small _ (by omega) (by omega)⟩
              | 16, _ =>
                obtain rfl := Option.some.inj ho
                have d8 := hdep 8 (by decide +kernel)
                simp [slotOf, dstOf] at d8
                have d15 := hdep 15 (by decide +kernel)
                simp [slotOf, dstOf] at d15
                simp [opYields, go_sem, d8, d15, hxl]
                exact hJ
              | 17, _ =>
                have h19 : L 19 = false := by
                  cases h19 : L 19 with
                  | false => rfl
                  | true => have := hLc 18 (hLc 19 h19 18 (by decide +kernel)) 17 (by decide +kernel); rw [hLi] at this; cases this
                have hcell := World.ownsRow.cells (hown h19) (g := gm) rfl x (.int .u8 (M[x].toNat : Int)) (by simp [bytesV, hxl])
                rw [Addr.add_lit] at hcell
                simp only [Nat.zero_add] at hcell
                obtain rfl := Option.some.inj ho
                have d16 := hdep 16 (by decide +kernel)
                simp [slotOf, dstOf] at d16
                simp [opYields, go_sem, d16, hcell]
                exact hJ
              | 18, _ =>
                have h19 : L 19 = false := by
                  cases h19 : L 19 with
                  | false => rfl
                  | true => have := hLc 19 h19 18 (by decide +kernel); rw [hLi] at this; cases this
                obtain rfl := Option.some.inj ho
                have d17 := hdep 17 (by decide +kernel)
                simp [slotOf, dstOf] at d17
                simp [opYields, go_sem, d17]
                refine ⟨hk.trans (keptX_of ((Below.refl B w2).alloc hB2 _)), by simp; omega, ?_, fun _ => World.ownsRow.alloc (hown h19) _, fun _ _ => ⟨_, rfl, heap_alloc_new _ _⟩, fun h => by rw [h19] at h; cases h⟩
                rw [Below.heap_alloc _ _ _ (lt_of_block hblk)]
                exact hblk
              | 19, _ =>
                have h18 := hLe 18 (by decide +kernel)
                have hown := hown hLi
                obtain ⟨g, e18, hg⟩ := hone h18 hLi
                have s18 := hval 18 (by decide +kernel)
                rw [e18] at s18
                obtain rfl := Option.some.inj ho
                have d4 := hdep 4 (by decide +kernel)
                simp [slotOf, dstOf] at d4 s18
                obtain ⟨v', w3, hrun, hown3, hgrow, _⟩ := run_append_own (P := Tryz.prog) w2 B 63 63 5 i0 (.int .u8 0) 1 1 Tryz.underlying63 hinf hz0 hz1 hz2 rfl (by omega) _ M.length (bytesV M) hown ⟨g, 0, none⟩ 1 1 [.int .u8 (M[x].toNat : Int)] rfl (fun j u hu => by
                  match j, hu with
                  | 0, hu => simp at hu; subst hu; simpa [Addr.add] using cell_of_one hg) (by simp [Value.oneCell']) (by unfold maxLen; omega) (by omega) hB2
                rw [← bytesV_one, ← bytesV_append] at hown3
                refine yields_append rfl (.tmp 28) (.tmp 42) _ _ rfl (v1 := .slice (some ⟨gm, 0, none⟩) M.length cp') (v2 := .slice (some ⟨g, 0, none⟩) 1 1) (by simpa [Act.eval] using d4) (by simpa [Act.eval] using s18) hrun ?_
                obtain ⟨ao2, cp2, rfl⟩ := own_shape hown3
                have hbel : Below B w2 w3 := (Below.refl B w2).grown hgrow hB2 (fun k hk => (hown.lt k hk).1)
                exact ⟨⟨hk.trans (keptX_of hbel), by have := hbel.size; omega, grown_block hgrow hblk (own_apart hown hblk (by decide)), fun h => by simp at h, fun _ h => by simp at h, fun _ => hown3⟩, ao2, cp2, rfl⟩
              | 20, _ =>
                obtain rfl := Option.some.inj ho
                have d0 := hdep 0 (by decide +kernel)
                simp [slotOf, dstOf] at d0
                simp [opYields, go_sem, d0]
                exact hJ
              | 21, _ =>
                obtain rfl := Option.some.inj ho
                have d20 := hdep 20 (by decide +kernel)
                simp [slotOf, dstOf] at d20
                simp [opYields, go_sem, d20]
                exact hJ
              | n + 22, hi => omega
            · clear hml
              have h19 := hL 19 (by omega)
              obtain ⟨hk, hB2, hblk, _, _, hown2⟩ := hJ
              have hown2 := hown2 h19
              obtain ⟨ao2, cp2, v19⟩ := hvals 19 (by omega)
              have v21 := hvals 21 (by omega)
              simp only at v21
              rw [v19] at hown2
              clear hvals
              obtain ⟨c0, c1, c2, z0, z1, z2⟩ := three_cells hblk
              simp [over, dstOf, Act.put, v19, v21]
              go_wp2
              go_roundw
              case rel =>
                refine ⟨q + 1, by omega, by go_num, hkr.trans (hk.setAt _ _), by simpa [World.setCell] using hB2, _, set_block hblk _, ?_⟩
                have := ownsRow_setCell_other (a := ⟨ub, 2, none⟩) hown2 (own_apart hown2 hblk (by decide)) (.slice ao2 (M.length + 1) cp2)
                rw [HSn.out, HC.out, List.length_append]
                exact this
              case measure => simp [intOf]; omega
          · have hqn : q = n := by omega
            subst hqn
            have HK := hide hkr
            have HU2 := hide hur
            clear hkr hur
            go_wp2
            go_end0
            exact ⟨HK.out, .inl ⟨h1, g1, g2, rfl, HU2.out⟩⟩
      · have g2' : (made.length : Int) < back := by omega
        go_wp2
        exact ⟨rfl, ⟨rfl, rfl, rfl, Nat.le_refl _, fun _ _ _ => rfl⟩, .inr ⟨by omega, rfl⟩⟩
    · have g1' : (back : Int) < 1 := by omega
      go_wp2
      exact ⟨rfl, ⟨rfl, rfl, rfl, Nat.le_refl _, fun _ _ _ => rfl⟩, .inr ⟨by omega, rfl⟩⟩
  · exact ⟨rfl, ⟨rfl, rfl, rfl, Nat.le_refl _, fun _ _ _ => rfl⟩, .inr ⟨by omega, rfl⟩⟩

end Go.Proofs.YtmdakfmecfcbhaaGreat
