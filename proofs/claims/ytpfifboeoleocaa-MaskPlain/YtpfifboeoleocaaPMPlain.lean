/- MaskPlain, for every two lists of numbers: a text of letters alone is like itself, and like nothing else of letters; in brackets that is the group. No condition. -/
import Derived.Test.YtpfifboeoleocaaRows
import Derived.Test.YtpfifboeoleocaaKit
import Derived.Test.YtpfifboeoleocaaTrod
import Derived.Test.YtpfifboeoleocaaOpn
import Derived.Test.YtpfifboeoleocaaMWlk
import Derived.Test.YtpfifboeoleocaaMFrom
import Derived.Test.YtpfifboeoleocaaMGrp
import Derived.Test.YtpfifboeoleocaaMMat
import Derived.Test.YtpfifboeoleocaaMLik
import Derived.Test.YtpfifboeoleocaaMPla
import Derived.Test.YtpfifboeoleocaaMCho
import Derived.Test.YtpfifboeoleocaaMExq
import Derived.Test.YtpfifboeoleocaaMBeg
import Derived.ProofKit
import Derived.BigQuiet
import Derived.BigFrame
set_option linter.unusedVariables false
set_option linter.unusedSimpArgs false
namespace Go.Proofs.Ytpfifboeoleocaa
open Go.ChangeShapes Go.WideShapes Go.ChangeAt Go.RowKit
open Go.ChangeMaps (open_string shut_string)
attribute [local go_sem] bs_size bs_toList bs_append bs_get bs_extract

set_option maxRecDepth 20000 in
set_option maxHeartbeats 4000000 in
theorem word_any (w : World) (v : Value) (ns : List Int) (hv : readsInts w w.heap.size v ns) (hn : ns.length ≤ 9223372036854775807) (hb : ∀ y ∈ ns, -9223372036854775808 ≤ y ∧ y ≤ 9223372036854775807) :
    Calls Try.prog 19 #[v] w fun e w' => ∃ l : List UInt8, e = .returned (.string (bs l)) ∧ (∀ c ∈ l, isLow c) ∧ l.length ≤ 40 ∧ Grow w w' := by
  obtain ⟨ao, cp, rfl, hcell⟩ := hv
  have HC := hide hcell
  have HB := hide hb
  clear hcell hb
  go_enter Try.func19, Try.ntmps19
  go_wp2
  go_loopw [3, 4] (fun sv iv wr => ∃ l : List UInt8, l.length ≤ ns.length ∧ l.length ≤ 40 ∧ iv = .int .i64 l.length ∧ sv = .string (bs l) ∧ Hid (∀ c ∈ l, isLow c) ∧ Hid (Grow w wr)) (fun _ iv _ => 41 - (intOf iv).toNat)
  case atStart => exact ⟨[], by simp, by simp, rfl, rfl, hide (by simp), hide (Grow.refl _)⟩
  case round =>
    obtain ⟨l, hl, hl40, rfl, rfl, HL, HG⟩ := hrel
    by_cases hlt : l.length < ns.length
    · have hlt2 : (l.length : Int) < (ns.length : Int) := by omega
      by_cases h40 : l.length < 40
      · have h402 : (l.length : Int) < 40 := by omega
        obtain ⟨b, o, rfl, hb, hc⟩ := HC.out l.length hlt
        obtain ⟨x, hx⟩ : ∃ x, ns[l.length] = x := ⟨_, rfl⟩
        rw [hx] at hc
        have hxb := HB.out x (by rw [← hx]; exact List.getElem_mem hlt)
        obtain ⟨k, hk, hK⟩ := choose_is x 26 w hxb.1 hxb.2 (by omega) (by omega)
        have HK := hide hK
        have hc2 := (cell_keep (sp := none) (o := o + l.length) (HG.out.block b hb)).trans hc
        have hcn : ((letter k).toNat : Int) = 97 + (k : Int) := by simp [letter]; omega
        have hcv := run_oneByte (P := Try.prog) wr Try.underlying49 Try.underlying5 Try.underlying9 5 (97 + (k : Int)) (letter k) hcn
        have ha : ∀ W : World, (Op.stringOp .add (bs l) (bs [letter k])).run Try.prog W = .ok (.string (bs (l ++ [letter k]))) W := fun W => by
          rw [run_string_add_sum W _ _ (by rw [bs_size, bs_size]; simp; omega), bs_append]
        have HL2 : Hid (∀ c ∈ l ++ [letter k], isLow c) := hide (by
          intro c hc
          rcases List.mem_append.1 hc with h | h
          · exact HL.out c h
          · simp at h; subst h; exact isLow_letter hk)
        have HG2 : Hid (Grow w (wr.alloc (.cells #[.int .u8 (97 + (k : Int))] 5))) := hide (Grow.alloc HG.out _)
        clear hx hK hc hcn
        go_wp2_with (go_at_call 20; refine (HK.out _).mono ?_; rintro e w2 ⟨rfl, rfl⟩)
        refine ⟨⟨l ++ [letter k], by simp; omega, by simp; omega, ?_, rfl, HL2, HG2⟩, ?_⟩
        · simp
        · simp [intOf]; omega
      · have h402 : ¬ (l.length : Int) < 40 := by omega
        go_wp2
        go_ret
        exact ⟨l, rfl, HL.out, hl40, HG.out⟩
    · have hlt2 : ¬ (l.length : Int) < (ns.length : Int) := by omega
      go_wp2
      go_ret
      exact ⟨l, rfl, HL.out, hl40, HG.out⟩

theorem match_group (w : World) (s : List UInt8) (hl : ∀ c ∈ s, isLow c) (h40 : s.length ≤ 40) :
    Calls Try.prog 12 #[.string (bs (40 :: (s ++ [41]))), .string (bs s)] w fun e w' => Grow w w' ∧ ∃ v, e = .returned (.tuple #[.bool true, v, .int .i64 0]) ∧ ownStrs w' w.heap.size v [s] := by
  refine (match_any w _ s (by simp; omega) (by omega)).mono ?_
  rintro e w' ⟨hg, ha⟩
  refine ⟨hg, ?_⟩
  unfold matchAns at ha
  rw [group_is hl h40] at ha
  simp only [group_way] at ha
  unfold matchOk at ha
  rw [if_neg (by omega)] at ha
  obtain ⟨v, h1, h2⟩ := ha
  rw [group_took] at h2
  exact ⟨v, h1, h2⟩

set_option maxRecDepth 20000 in
set_option maxHeartbeats 4000000 in
theorem maskPlain_any (w : World) (v1 : Value) (n1 : List Int) (h1 : readsInts w w.heap.size v1 n1) (l1 : n1.length ≤ 9223372036854775807) (b1 : ∀ y ∈ n1, -9223372036854775808 ≤ y ∧ y ≤ 9223372036854775807)
    (v2 : Value) (n2 : List Int) (h2 : readsInts w w.heap.size v2 n2) (l2 : n2.length ≤ 9223372036854775807) (b2 : ∀ y ∈ n2, -9223372036854775808 ≤ y ∧ y ≤ 9223372036854775807) :
    Calls Try.prog 6 #[v1, v2] w fun e w' => e = .returned (.bool true) ∧ Below w.heap.size w w' := by
  have H1 := hide h1
  have H2 := hide h2
  have B1 := hide b1
  have B2 := hide b2
  obtain ⟨ao1, cp1, rfl, _⟩ := h1
  obtain ⟨ao2, cp2, rfl, _⟩ := h2
  clear b1 b2
  go_enter Try.func6, Try.ntmps6
  go_wp2_with fail
  refine (maskBegun_any w).mono ?_
  rintro e w1 ⟨rfl, hg1⟩
  have HG1 := hide hg1
  clear hg1
  go_wp2_with fail
  refine (word_any w1 _ n1 ((H1.out.keep HG1.out).more HG1.out.size) l1 B1.out).mono ?_
  rintro e w2 ⟨s, rfl, hs, hs40, hg2⟩
  have HG2 : Hid (Grow w w2) := hide (HG1.out.trans hg2)
  have HS := hide hs
  clear hg2 hs
  go_wp2_with fail
  refine (word_any w2 _ n2 ((H2.out.keep HG2.out).more HG2.out.size) l2 B2.out).mono ?_
  rintro e w3 ⟨t, rfl, ht, ht40, hg3⟩
  have HG3 : Hid (Grow w w3) := hide (HG2.out.trans hg3)
  clear hg3 ht
  have hd1 : ∀ W : World, (Op.stringOp .add { data := #[40] } (bs s)).run Try.prog W = .ok (.string (bs (40 :: s))) W := fun W => by
    rw [run_string_add_sum W _ _ (by rw [bs_size]; show 1 + s.length ≤ _; omega), show ({ data := #[40] } : ByteArray) = bs [40] from rfl, bs_append]; rfl
  have hd2 : ∀ W : World, (Op.stringOp .add (bs (40 :: s)) { data := #[41] }).run Try.prog W = .ok (.string (bs (40 :: (s ++ [41])))) W := fun W => by
    rw [run_string_add_sum W _ _ (by rw [bs_size]; show s.length + 1 + 1 ≤ _; omega), show ({ data := #[41] } : ByteArray) = bs [41] from rfl, bs_append]; rfl
  obtain ⟨bo, heq⟩ : ∃ bo, (s == t) = bo := ⟨_, rfl⟩
  have HLK : Hid (likeB (.row (plainRow s) .nil) t = bo) := hide (by
    rw [plain_like HS.out hs40, ← heq]
    by_cases h : s = t <;> simp [h])
  go_wp2_with fail
  refine (match_short w3 s t (plain_is HS.out hs40) (by omega)).mono ?_
  rintro e w4 ⟨hg4, v4, rfl⟩
  rw [HLK.out]
  have HG4 : Hid (Grow w w4) := hide (HG3.out.trans hg4)
  clear hg4
  go_wp2_with fail
  refine (match_group w4 s HS.out hs40).mono ?_
  rintro e w5 ⟨hg5, v5, rfl, ho⟩
  have HG5 : Hid (Grow w w5) := hide (HG4.out.trans hg5)
  have hr := readsStrs_own ho
  obtain ⟨ao5, cp5, rfl⟩ := own_shape ho
  have HR := hide hr
  clear hr ho hg5 hd1 hd2
  have hbb : (bo == bo) = true := by simp
  go_wp2_with fail
  have hn : (w5.alloc (.cells #[.string (bs s)] 9)).heap[w5.heap.size]? = some (.cells #[.string (bs s)] 9 (0, 0)) := heap_alloc_new _ _
  have hg6 : Grow w5 (w5.alloc (.cells #[.string (bs s)] 9)) := (Grow.refl _).alloc _
  have hs6 : w5.heap.size < (w5.alloc (.cells #[.string (bs s)] 9)).heap.size := by simp
  refine (sameTexts_any (w5.alloc (.cells #[.string (bs s)] 9)) _ (.slice (some ⟨w5.heap.size, 0, none⟩) 1 1) [s] [s] ((HR.out.keep hg6).more hg6.size) ⟨_, _, rfl, fun i hi => ⟨w5.heap.size, 0, rfl, hs6, ?_⟩⟩ (by simp) (by simp)).mono ?_
  · match i, hi with
    | 0, _ => exact cell_of_one hn
  · rintro e w7 ⟨rfl, n, rfl⟩
    have HG7 : Hid (Grow w ((w5.alloc (.cells #[.string (bs s)] 9)).drewN n)) := hide ((HG5.out.trans hg6).trans (grow_drewN _ n))
    have hdd : decide ([s] = [s]) = true := by simp
    rw [hdd]
    clear hn hg6 hs6
    go_wp2
    go_ret
    exact ⟨rfl, HG7.out⟩


theorem Try.own : ownKnob Try.prog.godebug = none := by kernel_rfl
theorem Try.laidOut : laidOutB Try.prog = true := by kernel_rfl

set_option maxRecDepth 100000 in
theorem maskPlain_lifted (os : Os) (started : os.Started) (H : Type) (enc : TypeId × Value → H) :
    ReturnsInHanded {} Try.checked os 6 .any (Rows.maskPlainSpec.pre6 enc Try.prog Try.f6 Rows.maskPlainRow.domain false) (Rows.maskPlainSpec.post enc Try.prog Try.f6 false true false false) := by
  refine returnsInHanded_of_change (C := Try.checked) Try.own started (by kernel_rfl) Try.func6
    (ChangeSpec.witness6 (enc := enc) (C := Try.checked) false ⟨#[], #[.slice none 0 0, .slice none 0 0], []⟩ 8 (by kernel_rfl) (by kernel_rfl) (by kernel_rfl) (by kernel_rfl)) ?_
  intro W base args ds gs before hval0 hW hcnd _
  have hval : ∀ (j : Nat) t v, Try.f6.params[j]? = some t → args[j]? = some v → Value.okWide Try.prog W .any base t v := hval0
  have hW' := hW
  obtain ⟨p, q, hA0, hV, rfl, hfz, hnd⟩ := hW
  have hA : DataW.TrodAll enc Try.prog W 0 (fun _ => true) true Try.f6.params.toList args.toList ds p := hA0
  rw [Try.params6] at hA hval
  obtain ⟨v0, v1, d0, d1, p0, p1, rfl, rfl, rfl, h0, h1⟩ := trodAll_two hA
  obtain ⟨rfl, rfl⟩ := trodVars_none hV
  have hk0 := h0
  obtain ⟨a0, len0, cap0, rfl⟩ := okWide_slice Try.underlying41 (hval 0 41 v0 rfl rfl)
  obtain ⟨fuel0, hf0⟩ := h0
  obtain ⟨ls0, hr0, hl0, hi0⟩ := open_numbers hf0
  have hk1 := h1
  obtain ⟨a1, len1, cap1, rfl⟩ := okWide_slice Try.underlying41 (hval 1 41 v1 rfl rfl)
  obtain ⟨fuel1, hf1⟩ := h1
  obtain ⟨ls1, hr1, hl1, hi1⟩ := open_numbers hf1
  clear hA0 hval0
  simp only [List.append_nil, List.nil_append] at hW'
  have hlt := fun x hx => hW'.lt x hx
  have hc := maskPlain_any W _ ls0 hr0 hl0 hi0 _ ls1 hr1 hl1 hi1
  refine hc.mono fun e W' ⟨he, hnx⟩ => ?_
  subst he
  refine ⟨_, rfl, _, _, _, [], (p0 ++ (p1)), [], hW', ?_, ?_, rfl, hnx.frame _, fun h => by cases h⟩
  · exact trodAll_mk1 (shut_bool Try.underlying4 _)
  · exact trodAll_eq (trodAll_mk2 (Below.trod Try.laidOut (by kernel_rfl) (of_decide_eq_true (by kernel_rfl)) hk0 hnx (fun x hx => hlt x (by simp [hx]))) (Below.trod Try.laidOut (by kernel_rfl) (of_decide_eq_true (by kernel_rfl)) hk1 hnx (fun x hx => hlt x (by simp [hx])))) (by simp)

theorem maskPlain_holds : Rows.MaskPlainSaid :=
  OpenClaim.holds_of_wide 6 Try.f6 rfl rfl rfl rfl rfl rfl rfl ⟨rfl, rfl, rfl, rfl, rfl⟩ rfl rfl rfl rfl rfl (by kernel_rfl) Try.func6 (by kernel_rfl)
    (of_decide_eq_true (by kernel_rfl)) (by unfold Func.isWrapper; first | (rw [if_pos (by decide +kernel)]; kernel_rfl) | (rw [if_neg (by decide +kernel)]; exact ⟨rfl, rfl⟩))
    (fun os started H enc _ => maskPlain_lifted os started H enc)

end Go.Proofs.Ytpfifboeoleocaa
