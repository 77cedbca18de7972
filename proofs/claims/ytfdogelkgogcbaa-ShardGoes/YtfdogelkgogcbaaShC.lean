/- shard: Check. -/
import Derived.Laws.OwnMore
import Derived.Test.YtfdogelkgogcbaaProg
import Derived.Test.YtfdogelkgogcbaaKit
import Derived.Test.YtfdogelkgogcbaaReg
import Derived.Test.YtfdogelkgogcbaaLSpec
import Derived.Test.YtfdogelkgogcbaaLRow
import Derived.Test.YtfdogelkgogcbaaLChk
import Derived.Test.YtfdogelkgogcbaaLTwi
import Derived.Test.YtfdogelkgogcbaaShA
import Derived.Test.YtfdogelkgogcbaaShB
import Derived.BigQuiet
set_option linter.unusedVariables false
set_option linter.unusedSimpArgs false
namespace Go.Proofs.Ytfdogelkgogcbaa.Sh
open Go.RowKit Lb
attribute [local go_sem] bs_size bs_toList bs_append bs_get bs_extract

/-- The first number that is none of nought. -/
def firstN (f : Nat → Nat) : Nat → Nat
  | 0 => 0
  | n + 1 => if firstN f n ≠ 0 then firstN f n else f n
theorem firstN_none {f : Nat → Nat} : ∀ {n : Nat}, (∀ i, i < n → f i = 0) → firstN f n = 0
  | 0, _ => rfl
  | n + 1, h => by
    rw [firstN, firstN_none (n := n) fun i hi => h i (by omega), if_neg (by simp)]
    exact h n (by omega)
theorem firstN_at {f : Nat → Nat} : ∀ {n i : Nat}, i < n → (∀ j, j < i → f j = 0) → f i ≠ 0 → firstN f n = f i
  | n + 1, i, hi, h, he => by
    rw [firstN]
    by_cases e : i = n
    · subst e
      rw [firstN_none h, if_neg (by simp)]
    · have := firstN_at (n := n) (i := i) (by omega) h he
      rw [this, if_pos he]
theorem firstN_zero {f : Nat → Nat} {n : Nat} (h : firstN f n = 0) : ∀ i, i < n → f i = 0 := by
  induction n with
  | zero => intro i hi; omega
  | succ n ih =>
    intro i hi
    rw [firstN] at h
    by_cases h0 : firstN f n = 0
    · rw [if_neg (by omega)] at h
      by_cases e : i = n
      · subst e; exact h
      · exact ih h0 i (by omega)
    · rw [if_pos h0] at h; exact absurd h h0
def oneE (l : List Itm) (i : Nat) : Nat := match l[i]? with
  | none => 0
  | some x => if itemErr x ≠ 0 then itemErr x else if fitsB (l.take i) x.1 = false then 4 else 0
theorem oneE_is {l : List Itm} {i : Nat} (h : i < l.length) : oneE l i = if itemErr l[i] ≠ 0 then itemErr l[i] else if fitsB (l.take i) l[i].1 = false then 4 else 0 := by
  unfold oneE
  rw [List.getElem?_eq_getElem h]
def shardErr (s : Shd) : Nat := if inB s = false then 3 else if s.room < s.items.length then 2 else firstN (oneE s.items) s.items.length

set_option maxRecDepth 20000 in
set_option maxHeartbeats 4000000 in
theorem scheck_any (w : World) (vi : Value) (s : Shd) (hv : readsItems w w.heap.size vi s.items) (hok : okShd s) :
    Calls Try.prog 10 #[.agg #[vi, .int .i64 s.batch, .int .i64 s.room, .int .i64 s.first, .int .i64 s.most, .int .i64 s.waits, .int .i64 s.till]] w fun e w' => e = .returned (.int .i64 (shardErr s)) ∧ Grow w w' := by
  obtain ⟨E, HE⟩ : ∃ E, Hid (shardErr s = E) := ⟨_, hide rfl⟩
  rw [HE.out]
  have HE1 : Hid ((if inB s = false then 3 else if s.room < s.items.length then 2 else firstN (oneE s.items) s.items.length) = E) := HE
  clear HE
  obtain ⟨hl, hit, -⟩ := hok
  obtain ⟨IB, HIBE⟩ : ∃ b, Hid (inB s = b) := ⟨_, hide rfl⟩
  have HIB0 := inBounds_any
  rw [HIBE.out] at HE1
  obtain ⟨is, batch, room, first, most, waits, till⟩ := s
  simp only at HE1 hl hit hv ⊢
  have HIT := hide hit
  have HV := hide hv
  obtain ⟨io, ic, hvi, hcap, -⟩ := hv
  subst hvi
  obtain ⟨W, eW, gW, hW⟩ := laid_at w #[.slice io is.length ic, .int .i64 batch, .int .i64 room, .int .i64 first, .int .i64 most, .int .i64 waits, .int .i64 till] 24
  obtain ⟨c0, c1, c2, c3, c4, c5, c6⟩ := seven_of hW
  have HG := hide gW
  have HW := hide hW
  have HIB := inBounds_any W (.slice io is.length ic) ⟨is, batch, room, first, most, waits, till⟩ ⟨_, _, _, rfl⟩
  rw [HIBE.out] at HIB
  simp only at HIB
  replace HIB := hide HIB
  clear gW hW hit HIBE HIB0
  cases IB with
  | false =>
    rw [if_pos rfl] at HE1
    go_enter Try.func10, Try.ntmps10
    go_wp2_with fail
    refine HIB.out.mono ?_
    rintro e w1 ⟨rfl, hg1⟩
    have HG1 : Hid (Grow w w1) := hide (HG.out.trans hg1)
    clear hg1
    go_wp2
    go_ret
    exact ⟨ret_int (by rw [← HE1.out]; rfl), HG1.out⟩
  | true =>
    rw [if_neg (by simp)] at HE1
    go_enter Try.func10, Try.ntmps10
    go_wp2_with fail
    refine HIB.out.mono ?_
    rintro e w1 ⟨rfl, hg1⟩
    have HG1 : Hid (Grow W w1) := hide hg1
    clear hg1 c0 c1 c2 c3 c4 c5 c6 HIB
    obtain ⟨c0, c1, c2, c3, c4, c5, c6⟩ := seven_of (HG1.out.get HW.out)
    cases hM : decide (room < (is.length : Int)) with
    | true =>
      rw [if_pos (of_decide_eq_true hM)] at HE1
      go_wp2
      go_ret
      exact ⟨ret_int (by rw [← HE1.out]; rfl), HG.out.trans HG1.out⟩
    | false =>
      rw [if_neg (of_decide_eq_false hM)] at HE1
      go_wp2
      go_loopw [18] (fun iv wr => ∃ k : Nat, k ≤ is.length ∧ iv = .int .i64 k ∧ Hid (Grow W wr) ∧ Hid (∀ j, j < k → oneE is j = 0)) (fun iv _ => is.length - (intOf iv).toNat)
      case atStart => exact ⟨0, by omega, rfl, HG1, hide (fun j h => by omega)⟩
      case round =>
        clear c0 c1 c2 c3 c4 c5 c6
        obtain ⟨k, hkk, rfl, HGr, HD⟩ := hrel
        have HGwr : Hid (Grow w wr) := hide (HG.out.trans HGr.out)
        by_cases hlt : k < is.length
        · have hlti : (k : Int) < (is.length : Int) := by omega
          obtain ⟨rb, rf, vl, hio, hls, c0, c1, c2, c3⟩ : ∃ b' o vl, io = some ⟨b', o, none⟩ ∧ readsLabels wr w.heap.size vl is[k].2.1 ∧ wr.cell? ⟨b', o + k * 4, none⟩ = some (.int .i64 is[k].1) ∧ wr.cell? ⟨b', o + k * 4 + 1, none⟩ = some vl ∧ wr.cell? ⟨b', o + k * 4 + 2, none⟩ = some (.int .i64 is[k].2.2.1) ∧ wr.cell? ⟨b', o + k * 4 + 3, none⟩ = some (.int .u64 (is[k].2.2.2 : Nat)) := by
            obtain ⟨ao', cp', e, _, h⟩ := HV.out.keep HGwr.out
            cases e
            obtain ⟨b', o, vl, e, _, q⟩ := h k hlt
            exact ⟨b', o, vl, e, q⟩
          subst hio
          have hokx := HIT.out _ (List.getElem_mem hlt)
          have h1E := oneE_is hlt
          have HTK : Hid (∀ W', Grow w W' → readsItems W' w.heap.size (.slice (some ⟨rb, rf, none⟩) k ic) (is.take k)) := hide fun W' g => (HV.out.keep g).take (by omega)
          obtain ⟨x, HX⟩ : ∃ x : Itm, Hid (is[k] = x) := ⟨_, hide rfl⟩
          rw [HX.out] at hls c0 c2 c3 hokx h1E
          have HO1 := hide h1E
          have HEK : Hid (oneE is k ≠ 0 → oneE is k = E) := hide fun hne => by
            have := firstN_at (n := is.length) hlt HD.out hne
            rw [← HE1.out, this]
          obtain ⟨xo, xc, rfl⟩ := readsLabels_len hls
          obtain ⟨V, eV, gV, hV⟩ := laid_at wr #[.int .i64 x.1, .slice xo x.2.1.length xc, .int .i64 x.2.2.1, .int .u64 (x.2.2.2 : Nat)] 39
          obtain ⟨d0, d1, d2, d3⟩ := four_of hV
          have HVV := hide hV
          have HCI := hide (checkItem_any V x (.slice xo x.2.1.length xc) (readsLabels_mono (readsLabels_below hls (Below.mono gV HGwr.out.size)) (by have := gV.size; have := HGwr.out.size; omega)) hokx)
          have HGV : Hid (Grow W V) := hide (HGr.out.trans gV)
          obtain ⟨P, HPE⟩ : ∃ P, Hid (itemErr x = P) := ⟨_, hide rfl⟩
          rw [HPE.out] at HCI HO1
          clear gV hV hls hokx h1E
          go_wp2_with fail
          refine HCI.out.mono ?_
          rintro e w5 ⟨rfl, hg5⟩
          have HGV5 : Hid (Grow V w5) := hide hg5
          have HG5 : Hid (Grow W w5) := hide (HGV.out.trans hg5)
          have HGw5 : Hid (Grow w w5) := hide (HG.out.trans HG5.out)
          clear hg5 HCI eV d0 d1 d2 d3 c0 c1 c2 c3
          by_cases hP : P = 0
          · rw [if_neg (by omega)] at HO1
            have hP1 : ((P : Int) != 0) = false := by simp [hP]
            clear hP
            obtain ⟨F, HF⟩ : ∃ F, Hid (fitsB (is.take k) x.1 = F) := ⟨_, hide rfl⟩
            rw [HF.out] at HO1
            have hkl : (k : Int) ≤ (ic : Int) := by omega
            have hkn : k ≤ ic := by omega
            have HFB : Hid (∀ W', Grow w5 W' → Calls Try.prog 24 #[.slice (some ⟨rb, rf, none⟩) k ic, .agg #[.int .i64 x.1, .slice xo x.2.1.length xc, .int .i64 x.2.2.1, .int .u64 (x.2.2.2 : Nat)]] W' fun e w' => e = .returned (.bool F) ∧ Grow W' w') := hide fun W' g => by
              have := fitsBehind_any W' (.slice (some ⟨rb, rf, none⟩) k ic) (.slice xo x.2.1.length xc) (is.take k) x.1 x.2.2.1 x.2.2.2 ((HTK.out W' (HGw5.out.trans g)).more (HGw5.out.trans g).size) ⟨_, _, _, rfl⟩ (by rw [List.length_take]; omega)
              rw [HF.out] at this
              exact this
            go_wp2
            refine wp_region_free 7 36 mixedR rfl (by decide +kernel) Grow (fun _ _ _ => Grow.trans) (Grow.refl _)
              (fun i v _ => match i with
                | 0 => v = .pointer (some ⟨w.heap.size, 0, none⟩)
                | 1 => v = .slice (some ⟨rb, rf, none⟩) is.length ic
                | 2 => v = .int .i64 k
                | 3 => v = .slice (some ⟨rb, rf, none⟩) k ic
                | 4 => v = .agg #[.int .i64 x.1, .slice xo x.2.1.length xc, .int .i64 x.2.2.1, .int .u64 (x.2.2.2 : Nat)]
                | 5 => v = .bool F
                | _ => v = .bool (!F))
              (fun i v w w' h hg => h) (fun _ _ => False) (fun _ _ _ _ h => h.elim) (fun i hi o ho a w2 hG hoff hdep => ?_) (fun vals w2 hG hvals => ?_)
            · have hb5 : Grow w5 w2 := hG.undrew
              obtain ⟨b0, -, -, -, -, -, -⟩ := seven_of (hb5.get (HG5.out.get HW.out))
              obtain ⟨d0, d1, d2, d3⟩ := four_of (hb5.get (HGV5.out.get HVV.out))
              match i, hi with
              | 0, _ =>
                obtain rfl := Option.some.inj ho
                have o1 := hoff 1 (by decide +kernel)
                simp at o1
                simp [opYields, go_sem, o1]
                exact Grow.refl _
              | 1, _ =>
                obtain rfl := Option.some.inj ho
                have d0 := hdep 0 (by decide +kernel)
                simp [slotOf, dstOf] at d0
                simp [opYields, go_sem, d0, b0]
                exact Grow.refl _
              | 2, _ =>
                obtain rfl := Option.some.inj ho
                have o3 := hoff 3 (by decide +kernel)
                simp at o3
                simp [opYields, go_sem, o3]
                exact Grow.refl _
              | 3, _ =>
                obtain rfl := Option.some.inj ho
                have d1 := hdep 1 (by decide +kernel)
                simp [slotOf, dstOf] at d1
                have d2 := hdep 2 (by decide +kernel)
                simp [slotOf, dstOf] at d2
                simp [opYields, go_sem, d1, d2, hkl, hkn]
                exact Grow.refl _
              | 4, _ =>
                obtain rfl := Option.some.inj ho
                have o4 := hoff 4 (by decide +kernel)
                simp at o4
                simp [opYields, go_sem, o4, d0, d1, d2, d3]
                exact Grow.refl _
              | 5, _ =>
                obtain rfl := Option.some.inj ho
                have d3 := hdep 3 (by decide +kernel)
                simp [slotOf, dstOf] at d3
                have d4 := hdep 4 (by decide +kernel)
                simp [slotOf, dstOf] at d4
                simp [opYields, go_sem, d3, d4]
                refine (HFB.out w2 hb5).mono ?_
                rintro e w3 ⟨rfl, hb⟩
                exact ⟨hb, rfl⟩
              | 6, _ =>
                obtain rfl := Option.some.inj ho
                have d5 := hdep 5 (by decide +kernel)
                simp [slotOf, dstOf] at d5
                simp [opYields, go_sem, d5]
                exact Grow.refl _
              | k + 7, h => exact absurd h (by omega)
            · have v6 := hvals 6 (by omega)
              simp only at v6
              have HG6 : Hid (Grow W w2) := hide (HG5.out.trans hG.undrew)
              clear hvals hG
              simp [over, dstOf, Act.put, v6]
              cases F with
              | false =>
                rw [if_pos rfl] at HO1
                have hEK := HEK.out (by rw [HO1.out]; decide)
                rw [HO1.out] at hEK
                have HE2 := hide hEK
                clear hEK
                go_wp2
                go_ret
                exact ⟨ret_int (by rw [← HE2.out]; rfl), HG.out.trans HG6.out⟩
              | true =>
                rw [if_neg (by simp)] at HO1
                go_wp2
                go_roundw
                case rel => exact ⟨k + 1, by omega, by go_num, HG6, hide (fun j hj => by
                  by_cases e : j = k
                  · subst e; exact HO1.out
                  · exact HD.out j (by omega))⟩
                case measure => simp [intOf]; omega
          · rw [if_pos hP] at HO1
            have hP1 : ((P : Int) != 0) = true := by simp; exact hP
            have hEK := HEK.out (by rw [HO1.out]; exact hP)
            rw [HO1.out] at hEK
            have HE2 := hide hEK
            clear hP hEK
            go_wp2
            go_ret
            exact ⟨ret_int (by rw [← HE2.out]), HGw5.out⟩
        · obtain rfl : k = is.length := by omega
          have hF := firstN_none HD.out
          rw [hF] at HE1
          clear hF
          go_wp2
          go_ret
          exact ⟨ret_int (by rw [← HE1.out]; rfl), HGwr.out⟩
end Go.Proofs.Ytfdogelkgogcbaa.Sh
