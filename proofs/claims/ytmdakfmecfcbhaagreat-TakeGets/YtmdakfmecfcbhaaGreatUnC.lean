/- The unpacker's plain elements. -/
import Derived.Test.YtmdakfmecfcbhaaGreatProg
import Derived.Test.YtmdakfmecfcbhaaGreatKit
import Derived.Test.YtmdakfmecfcbhaaGreatSpec
import Derived.Test.YtmdakfmecfcbhaaGreatSpec2
import Derived.Test.YtmdakfmecfcbhaaGreatReg
import Derived.Test.YtmdakfmecfcbhaaGreatReg2
import Derived.Test.YtmdakfmecfcbhaaGreatWWri
import Derived.Test.YtmdakfmecfcbhaaGreatRdA
import Derived.Test.YtmdakfmecfcbhaaGreatUnA
set_option linter.unusedVariables false
set_option linter.unusedSimpArgs false
namespace Go.Proofs.YtmdakfmecfcbhaaGreat
open Go.RowKit
attribute [local go_sem] bs_size bs_toList bs_append bs_get bs_extract

/-- What holds while a plain element is made: ahead of the take and behind it, ahead of the append and behind it. -/
def plainJ (w : World) (B ub : Nat) (r made : List UInt8) (told : Int) (n : Nat) (v : Value) (b7 b8 : Bool) (x : Value) (w' : World) : Prop :=
  KeptX B ub w w' ∧ B ≤ w'.heap.size ∧ w'.heap[ub]? = some (.cells #[.string (bs (if b7 then r.drop n else r)), .int .i64 told, v] 92 (0, 0)) ∧
    (b8 = false → w'.ownsRow B 5 1 v made.length (bytesV made)) ∧ (b8 = true → w'.ownsRow B 5 1 x (made.length + n) (bytesV (made ++ r.take n)))

set_option maxRecDepth 20000 in
set_option maxHeartbeats 2000000 in
theorem plain_any (w : World) (B ub n : Nat) (r made : List UInt8) (told : Int) (hu : unpAt w B ub r told made) (hr : r.length ≤ 140737488355328) (hm : made.length ≤ 1000000) (ht : 0 ≤ told ∧ told ≤ 1000000) :
    Calls Tryz.prog 112 #[.pointer (some ⟨ub, 0, none⟩), .int .i64 n] w fun e w' => KeptX B ub w w' ∧
      (((n : Int) + made.length ≤ told ∧ n ≤ r.length ∧ e = .returned (.tuple #[]) ∧ unpAt w' B ub (r.drop n) told (made ++ r.take n)) ∨ (¬ ((n : Int) + made.length ≤ told ∧ n ≤ r.length) ∧ e = gaveUp 1)) := by
  go_enter Tryz.func112, Tryz.ntmps112
  go_wp2_with fail
  refine (room_any w B ub n r made told hu hm ht).mono ?_
  rintro e w1 ⟨⟨k, rfl⟩, (⟨h1, rfl⟩ | ⟨h1, rfl⟩)⟩
  · obtain ⟨hB, v, hb, ho⟩ := hu
    obtain ⟨ao, cp, rfl⟩ := own_shape ho
    obtain ⟨i0, hinf, hz0, hz1, hz2⟩ := info_parts Tryz.info5
    have HB := hide hb
    have HO := hide ho
    clear hb ho
    go_wp2
    by_cases hn : n ≤ r.length
    · have hnl : (r.take n).length = n := by rw [List.length_take]; omega
      refine wp_region_state 11 18 Tryz.mixed2 rfl (by decide +kernel) (fun L vals w' => plainJ w B ub r made told n (.slice ao made.length cp) (L 7) (L 8) (vals 8) w')
        (fun L vals h => ?_)
        (fun i v => match i with
          | 0 => v = .pointer (some ⟨ub, 0, none⟩)
          | 1 => v = .pointer (some ⟨ub, 0, none⟩)
          | 2 => v = .pointer (some ⟨ub, 0, none⟩)
          | 3 => v = .pointer (some ⟨ub, 2, none⟩)
          | 4 => v = .slice ao made.length cp
          | 5 => v = .pointer (some ⟨ub, 0, none⟩)
          | 6 => v = .int .i64 n
          | 7 => v = .string (bs (r.take n))
          | 8 => ∃ ao' cp', v = .slice ao' (made.length + n) cp'
          | 9 => v = .pointer (some ⟨ub, 0, none⟩)
          | _ => v = .pointer (some ⟨ub, 2, none⟩))
        (fun _ _ => False) (fun _ _ _ _ h => h.elim) (fun i hi o ho a w2 L vals hLi hLc hLe hJ hoff hval hdep => ?_) (fun vals w2 L hL hJ hvals => ?_)
      · simp only [h]
        exact ⟨⟨rfl, rfl, rfl, Nat.le_refl _, fun _ _ _ => rfl⟩, hB, HB.out, fun _ => HO.out, fun h => by cases h⟩
      · obtain ⟨hk, hB2, hblk, hown, hown2⟩ := id hJ
        obtain ⟨c0, c1, c2, z0, z1, z2⟩ := three_cells hblk
        match i, hi with
        | 0, _ =>
          obtain rfl := Option.some.inj ho
          have o0 := hoff 0 (by decide +kernel)
          simp at o0
          simp [opYields, go_sem, o0]
          exact hJ
        | 1, _ =>
          obtain rfl := Option.some.inj ho
          have o0 := hoff 0 (by decide +kernel)
          simp at o0
          simp [opYields, go_sem, o0]
          exact hJ
        | 2, _ =>
          obtain rfl := Option.some.inj ho
          have d1 := hdep 1 (by decide +kernel)
          simp [slotOf, dstOf] at d1
          simp [opYields, go_sem, d1]
          exact hJ
        | 3, _ =>
          obtain rfl := Option.some.inj ho
          have d2 := hdep 2 (by decide +kernel)
          simp [slotOf, dstOf] at d2
          simp [opYields, go_sem, d2]
          exact hJ
        | 4, _ =>
          obtain rfl := Option.some.inj ho
          have d3 := hdep 3 (by decide +kernel)
          simp [slotOf, dstOf] at d3
          simp [opYields, go_sem, d3, c2]
          exact hJ
        | 5, _ =>
          obtain rfl := Option.some.inj ho
          have o0 := hoff 0 (by decide +kernel)
          simp at o0
          simp [opYields, go_sem, o0]
          exact hJ
        | 6, _ =>
          obtain rfl := Option.some.inj ho
          have o1 := hoff 1 (by decide +kernel)
          simp at o1
          simp [opYields, go_sem, o1]
          exact hJ
        | 7, _ =>
          have h8 : L 8 = false := by
            cases h8 : L 8 with
            | false => rfl
            | true => have := hLc 8 h8 7 (by decide +kernel); rw [hLi] at this; cases this
          rw [hLi] at hblk
          have hown := hown h8
          obtain rfl := Option.some.inj ho
          have d5 := hdep 5 (by decide +kernel)
          have d6 := hdep 6 (by decide +kernel)
          simp [slotOf, dstOf] at d5 d6
          simp [opYields, go_sem, d5, d6]
          refine (take_is w2 B ub n r made told _ ⟨hB2, hblk, hown⟩ (by omega)).mono ?_
          rintro e w3 ⟨hk3, (⟨_, rfl, h4, h5, h6⟩ | ⟨h, _⟩)⟩
          · refine ⟨⟨hk.trans hk3, h4, h5, fun _ => h6, fun h => ?_⟩, rfl⟩
            rw [h8] at h
            cases h
          · omega
        | 8, _ =>
          have h7 := hLe 7 (by decide +kernel)
          rw [h7] at hblk
          have hown := hown hLi
          obtain rfl := Option.some.inj ho
          have d4 := hdep 4 (by decide +kernel)
          have d7 := hdep 7 (by decide +kernel)
          simp [slotOf, dstOf] at d4 d7
          obtain ⟨v', w3, hrun, hown3, hgrow, _⟩ := Lib.run_append_own_string (P := Tryz.prog) w2 B 63 9 63 5 i0 Tryz.underlying63 Tryz.underlying9 hinf hz0 hz1 hz2 _ made.length (bytesV made) hown (bs (r.take n)) (by rw [bs_size, hnl]; unfold maxLen; omega) (by rw [bs_size, hnl]; omega) hB2
          rw [bs_size, hnl, strCells_bs, ← bytesV_append] at hown3
          refine yields_append rfl (.tmp 11) (.tmp 14) _ _ rfl (v1 := .slice ao made.length cp) (v2 := .string (bs (r.take n))) (by simpa [Act.eval] using d4) (by simpa [Act.eval] using d7) hrun ?_
          obtain ⟨ao', cp', rfl⟩ := own_shape hown3
          have hbel : Below B w2 w3 := (Below.refl B w2).grown hgrow hB2 (fun k hk => (hown.lt k hk).1)
          refine ⟨⟨hk.trans (keptX_of hbel), by have := hbel.size; omega, ?_, fun h => by simp at h, fun _ => hown3⟩, ao', cp', rfl⟩
          simp only [h7]
          exact grown_block hgrow hblk (own_apart hown hblk (by decide))
        | 9, _ =>
          obtain rfl := Option.some.inj ho
          have d0 := hdep 0 (by decide +kernel)
          simp [slotOf, dstOf] at d0
          simp [opYields, go_sem, d0]
          exact hJ
        | 10, _ =>
          obtain rfl := Option.some.inj ho
          have d9 := hdep 9 (by decide +kernel)
          simp [slotOf, dstOf] at d9
          simp [opYields, go_sem, d9]
          exact hJ
      · have h7 := hL 7 (by omega)
        have h8 := hL 8 (by omega)
        obtain ⟨hk, hB2, hblk, _, hown2⟩ := hJ
        have hown2 := hown2 h8
        rw [h7] at hblk
        obtain ⟨ao', cp', v8⟩ := hvals 8 (by omega)
        have v10 := hvals 10 (by omega)
        simp only at v10
        rw [v8] at hown2
        clear hvals
        obtain ⟨c0, c1, c2, z0, z1, z2⟩ := three_cells hblk
        simp [over, dstOf, Act.put, v8, v10]
        go_wp2
        go_end0
        refine ⟨hk.setAt _ _, rfl, by simpa [World.setCell] using hB2, _, set_block hblk _, ?_⟩
        have := ownsRow_setCell_other (a := ⟨ub, 2, none⟩) hown2 (own_apart hown2 hblk (by decide)) (.slice ao' (made.length + n) cp')
        rw [List.length_append, hnl]
        exact this
    · refine wp_region_state 11 18 Tryz.mixed2 rfl (by decide +kernel) (fun L vals w' => plainJ w B ub r made told n (.slice ao made.length cp) false false (vals 8) w')
        (fun L vals h => ?_)
        (fun i v => match i with
          | 0 => v = .pointer (some ⟨ub, 0, none⟩)
          | 1 => v = .pointer (some ⟨ub, 0, none⟩)
          | 2 => v = .pointer (some ⟨ub, 0, none⟩)
          | 3 => v = .pointer (some ⟨ub, 2, none⟩)
          | 4 => v = .slice ao made.length cp
          | 5 => v = .pointer (some ⟨ub, 0, none⟩)
          | 6 => v = .int .i64 n
          | 7 => False
          | 8 => False
          | 9 => v = .pointer (some ⟨ub, 0, none⟩)
          | _ => v = .pointer (some ⟨ub, 2, none⟩))
        (fun ch w2 => Ending.panicked ch = gaveUp 1 ∧ KeptX B ub w w2) (fun ch a w2 hd hq => ?_) (fun i hi o ho a w2 L vals hLi hLc hLe hJ hoff hval hdep => ?_) (fun vals w2 L hL hJ hvals => (hvals 7 (by omega)).elim)
      · exact ⟨⟨rfl, rfl, rfl, Nat.le_refl _, fun _ _ _ => rfl⟩, hB, HB.out, fun _ => HO.out, fun h => by cases h⟩
      · obtain ⟨hq1, hq2⟩ := hq
        simp only [Ending.panicked.injEq] at hq1
        subst hq1
        exact ⟨hd, hq2, .inr ⟨fun h => hn h.2, rfl⟩⟩
      · obtain ⟨hk, hB2, hblk, hown, hown2⟩ := id hJ
        obtain ⟨c0, c1, c2, z0, z1, z2⟩ := three_cells hblk
        have hJ2 : ∀ i v, plainJ w B ub r made told n (.slice ao made.length cp) false false (if 8 = i then v else vals 8) w2 := fun i v => ⟨hk, hB2, hblk, hown, fun h => by cases h⟩
        match i, hi with
        | 0, _ =>
          obtain rfl := Option.some.inj ho
          have o0 := hoff 0 (by decide +kernel)
          simp at o0
          simp [opYields, go_sem, o0]
          exact hJ
        | 1, _ =>
          obtain rfl := Option.some.inj ho
          have o0 := hoff 0 (by decide +kernel)
          simp at o0
          simp [opYields, go_sem, o0]
          exact hJ
        | 2, _ =>
          obtain rfl := Option.some.inj ho
          have d1 := hdep 1 (by decide +kernel)
          simp [slotOf, dstOf] at d1
          simp [opYields, go_sem, d1]
          exact hJ
        | 3, _ =>
          obtain rfl := Option.some.inj ho
          have d2 := hdep 2 (by decide +kernel)
          simp [slotOf, dstOf] at d2
          simp [opYields, go_sem, d2]
          exact hJ
        | 4, _ =>
          obtain rfl := Option.some.inj ho
          have d3 := hdep 3 (by decide +kernel)
          simp [slotOf, dstOf] at d3
          simp [opYields, go_sem, d3, c2]
          exact hJ
        | 5, _ =>
          obtain rfl := Option.some.inj ho
          have o0 := hoff 0 (by decide +kernel)
          simp at o0
          simp [opYields, go_sem, o0]
          exact hJ
        | 6, _ =>
          obtain rfl := Option.some.inj ho
          have o1 := hoff 1 (by decide +kernel)
          simp at o1
          simp [opYields, go_sem, o1]
          exact hJ
        | 7, _ =>
          have hown := hown rfl
          obtain rfl := Option.some.inj ho
          have d5 := hdep 5 (by decide +kernel)
          have d6 := hdep 6 (by decide +kernel)
          simp [slotOf, dstOf] at d5 d6
          simp [opYields, go_sem, d5, d6]
          refine (take_is w2 B ub n r made told _ ⟨hB2, hblk, hown⟩ (by omega)).mono ?_
          rintro e w3 ⟨hk3, (⟨h, _⟩ | ⟨_, rfl⟩)⟩
          · omega
          · exact ⟨rfl, hk.trans hk3⟩
        | 8, _ => exact (hdep 7 (by decide +kernel)).elim
        | 9, _ =>
          obtain rfl := Option.some.inj ho
          have d0 := hdep 0 (by decide +kernel)
          simp [slotOf, dstOf] at d0
          simp [opYields, go_sem, d0]
          exact hJ
        | 10, _ =>
          obtain rfl := Option.some.inj ho
          have d9 := hdep 9 (by decide +kernel)
          simp [slotOf, dstOf] at d9
          simp [opYields, go_sem, d9]
          exact hJ
  · exact ⟨rfl, ⟨rfl, rfl, rfl, Nat.le_refl _, fun _ _ _ => rfl⟩, .inr ⟨by omega, rfl⟩⟩

end Go.Proofs.YtmdakfmecfcbhaaGreat
