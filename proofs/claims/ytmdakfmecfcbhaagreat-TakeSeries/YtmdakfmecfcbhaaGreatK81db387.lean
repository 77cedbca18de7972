/- 3 texts in one. -/
import Derived.Test.YtmdakfmecfcbhaaGreatProg
import Derived.Test.YtmdakfmecfcbhaaGreatK7e06493
import Derived.Test.YtmdakfmecfcbhaaGreatK85cc7d6
import Derived.Test.YtmdakfmecfcbhaaGreatK6271d58
import Derived.Test.YtmdakfmecfcbhaaGreatK2326a0d
import Derived.Test.YtmdakfmecfcbhaaGreatK3e23582
import Derived.Test.YtmdakfmecfcbhaaGreatK47f268e
import Derived.Test.YtmdakfmecfcbhaaGreatK3cde4cc
import Derived.Test.YtmdakfmecfcbhaaGreatK658df2a
set_option linter.unusedVariables false
set_option linter.unusedSimpArgs false
namespace Go.Proofs.YtmdakfmecfcbhaaGreat
open Go.RowKit Go.Maps
open Go.WideMaps (keyOf_string_mk)
attribute [local go_sem] bs_size bs_toList bs_append bs_get bs_extract
theorem pkRow_note {w w' : World} {B pb mb : Nat} {s p : List UInt8} {m : Value} (h : pkRow w B pb s m p) (hg : w.grownBy w' (some mb)) (hmb : mb < B) (hne : pb ≠ mb) : pkRow w' B pb s m p := by
  obtain ⟨hB, v, hb, ho⟩ := h
  refine ⟨Nat.le_trans hB hg.size, v, (hg.block pb (lt_of_block hb) (by simpa using hne)).trans hb, rowG_keep ho fun g hg2 => ?_⟩
  have := rowG_lt ho g hg2
  exact hg.block g this.2 (by simp; omega)
theorem map_keptX {w w' : World} {B pb mb n : Nat} {D : DataW Unit} (h : holdsMap w mb n D) (hk : KeptX B pb w w') (hmb : mb < B) (hne : pb ≠ mb) : holdsMap w' mb n D := by
  obtain ⟨es, clock, hb, F, hs, hD⟩ := h
  exact ⟨es, clock, (hk.block mb hmb (fun e => hne e.symm)).trans hb, F, hs, hD⟩
theorem below_note {A mb : Nat} {w w' : World} (hg : w.grownBy w' (some mb)) (h : A ≤ mb) (hA : A ≤ w.heap.size) : Below A w w' := ⟨hg.os, hg.tape, hg.output, hg.size, fun k hk => hg.block k (by omega) (by simp; omega)⟩
theorem four_eq {s : List UInt8} {v t : Nat} (h : four s v = four s t) (ht : t + 4 ≤ s.length) (hv : v + 4 ≤ s.length) : ∀ i, i < 4 → s.getD (v + i) 0 = s.getD (t + i) 0 := by
  intro i hi
  have e := congrArg (fun l => l.getD i 0) h
  simp only [four] at e
  rw [getD_get _ _ (by rw [List.length_take, List.length_drop]; omega), getD_get _ _ (by rw [List.length_take, List.length_drop]; omega), List.getElem_take, List.getElem_take, List.getElem_drop, List.getElem_drop] at e
  rw [getD_get _ _ (by omega), getD_get _ _ (by omega)]
  exact e
theorem const_four {s : List UInt8} (h : constB s) {v t : Nat} (hv : v + 4 ≤ s.length) (ht : t + 4 ≤ s.length) : four s v = four s t := by
  have e : ∀ u, u + 4 ≤ s.length → four s u = [s.getD 0 0, s.getD 0 0, s.getD 0 0, s.getD 0 0] := by
    intro u hu
    have g := fun i (hi : u + i < s.length) => (h (u + i) hi)
    have g0 := g 0 (by omega); have g1 := g 1 (by omega); have g2 := g 2 (by omega); have g3 := g 3 (by omega)
    rw [getD_get _ _ (by omega)] at g0 g1 g2 g3
    unfold four
    rw [List.drop_eq_getElem_cons (by omega), List.drop_eq_getElem_cons (by omega), List.drop_eq_getElem_cons (by omega), List.drop_eq_getElem_cons (by omega)]
    simp only [List.take]
    simp only [Nat.add_zero] at g0
    rw [g0, g1]
    show [s.getD 0 0, s.getD 0 0, s[u + 2]'(by omega), s[u + 3]'(by omega)] = _
    rw [g2, g3]
  rw [e v hv, e t ht]
theorem note_i (w : World) (pb mb n f t : Nat) (ti : Int) (s : List UInt8) (v : Value) (D : DataW Unit) (hpb : w.heap[pb]? = some (.cells #[.string (bs s), .map (some mb), v] 70 (0, 0))) (hne : pb ≠ mb) (hmap : holdsMap w mb n D) (hD : noted s f D) (hs : s.length ≤ 20000) (hft : f ≤ t) (ht : t ≤ s.length) (hn : n ≤ f) (hti : ti = (t : Int)) :
    Calls Tryz.prog 69 #[.pointer (some ⟨pb, 0, none⟩), .int .i64 f, .int .i64 ti] w fun e w' => e = .returned (.tuple #[]) ∧ w.grownBy w' (some mb) ∧ ∃ n' D', holdsMap w' mb n' D' ∧ n' ≤ t ∧ noted s t D' := by
  subst hti; exact note_any w pb mb n f t s v D hpb hne hmap hD hs hft ht hn
theorem pkagain_i (w : World) (B pb n back : Nat) (bi : Int) (s p : List UInt8) (m : Value) (hu : pkRow w B pb s m p) (hn : n ≤ 20000) (hback : back ≤ 20000) (hp : p.length ≤ 100000) (hbi : bi = (back : Int)) :
    Calls Tryz.prog 72 #[.pointer (some ⟨pb, 0, none⟩), .int .i64 n, .int .i64 bi] w fun e w' => e = .returned (.tuple #[]) ∧ KeptX B pb w w' ∧ pkRow w' B pb s m (p ++ againB' back n) := by
  subst hbi; exact pkagain_any w B pb n back s p m hu hn hback hp
/-- What holds at each place of the text. -/
def packing (s : List UInt8) (dn at' : Nat) (E : List UInt8) : Prop :=
  Runs s.length E [] (s.take dn) ∧ 6 * E.length ≤ 7 * dn ∧ (constB s → 64 ≤ s.length → (at' = 0 ∧ dn = 0 ∧ E = []) ∨ (at' = 1 ∧ dn = 0 ∧ E = []) ∨ (at' = s.length ∧ dn = s.length ∧ E.length ≤ 2 + 3 * ((s.length + 62) / 64)))
theorem packing_start (s : List UInt8) : packing s 0 0 [] := ⟨runs_nil _ _, by simp, fun _ _ => .inl ⟨rfl, rfl, rfl⟩⟩
theorem packing_skip {s E : List UInt8} {dn at' : Nat} {D : DataW Unit} (h : packing s dn at' E) (hD : noted s at' D) (hn : has D (.string (four s at')) = false) (ha : at' + 4 ≤ s.length) : packing s dn (at' + 1) E := by
  refine ⟨h.1, h.2.1, fun hc hl => ?_⟩
  rcases h.2.2 hc hl with ⟨rfl, h2, h3⟩ | ⟨rfl, h2, h3⟩ | ⟨h1, _⟩
  · exact .inr (.inl ⟨rfl, h2, h3⟩)
  · have := hD.2.2 0 (by omega) (by omega)
    rw [const_four hc (by omega) ha] at this
    rw [this] at hn
    cases hn
  · omega
theorem packing_met {s E : List UInt8} {dn at' n v : Nat} (h : packing s dn at' E) (hda : dn ≤ at') (hs : s.length ≤ 20000) (hv : v < at') (hn4 : 4 ≤ n) (hn : at' + n ≤ s.length) (he : ∀ i, i < n → s.getD (v + i) 0 = s.getD (at' + i) 0) (hx : at' + n = s.length ∨ s.getD (v + n) 0 ≠ s.getD (at' + n) 0) :
    packing s (at' + n) (at' + n) (E ++ plainE ((s.drop dn).take (at' - dn)) ++ againB' (at' - v) n) := by
  obtain ⟨h1, h2, h3⟩ := h
  have hml : ((s.drop dn).take (at' - dn)).length = at' - dn := by rw [List.length_take, List.length_drop]; omega
  have hmid : s.take dn ++ (s.drop dn).take (at' - dn) = s.take at' := by
    have := List.take_add (l := s) (i := dn) (j := at' - dn)
    rw [show dn + (at' - dn) = at' from by omega] at this
    exact this.symm
  have r1 := runs_plain s.length ((s.drop dn).take (at' - dn)) (s.take dn) (by omega) (by rw [hml, List.length_take]; omega)
  rw [hmid] at r1
  have r2 := runs_again s.length (at' - v) n (s.take at') (by omega) (by rw [List.length_take]; omega) (by omega) (by rw [List.length_take]; omega)
  rw [copyB_text s v at' hv n hn he] at r2
  refine ⟨runs_append (runs_append h1 r1) r2, ?_, fun hc hl => ?_⟩
  · have l1 := plainE_length ((s.drop dn).take (at' - dn))
    have l2 := againB'_length (at' - v) n
    rw [hml] at l1
    simp only [List.length_append]
    by_cases c1 : at' - dn ≤ 60
    · have := l1.2.1 c1; omega
    · by_cases c2 : at' - dn ≤ 256
      · have := l1.2.2 c2; omega
      · have := l1.1; omega
  · right; right
    rcases h3 hc hl with ⟨rfl, _⟩ | ⟨rfl, rfl, rfl⟩ | ⟨h5, _⟩
    · omega
    · have hfull : 1 + n = s.length := by
        rcases hx with hx | hx
        · exact hx
        · by_cases e : 1 + n = s.length
          · exact e
          · exact absurd ((hc (v + n) (by omega)).trans (hc (1 + n) (by omega)).symm) hx
      refine ⟨hfull, hfull, ?_⟩
      have l1 := (plainE_length ((s.drop 0).take (1 - 0))).2.1 (by rw [hml]; omega)
      have l2 := againB'_length (1 - v) n
      rw [hml] at l1
      simp only [List.length_append, List.length_nil]
      omega
    · omega
theorem packing_end {s E : List UInt8} {dn at' : Nat} (h : packing s dn at' E) (hda : dn ≤ at') (ha : at' ≤ s.length) (hs : s.length ≤ 20000) (he : s.length < at' + 4) : Packs s (E ++ plainE (s.drop dn)) := by
  obtain ⟨h1, h2, h3⟩ := h
  have r1 := runs_plain s.length (s.drop dn) (s.take dn) (by rw [List.length_drop]; omega) (by rw [List.length_drop, List.length_take]; omega)
  rw [List.take_append_drop] at r1
  refine ⟨runs_append h1 r1, ?_, fun hc hl => ?_⟩
  · have l1 := (plainE_length (s.drop dn)).1
    rw [List.length_drop] at l1
    simp only [List.length_append]
    omega
  · rcases h3 hc hl with ⟨rfl, _⟩ | ⟨rfl, _⟩ | ⟨_, rfl, h6⟩
    · omega
    · omega
    · have : plainE (s.drop s.length) = [] := by rw [List.drop_length]; rfl
      rw [this, List.append_nil]
      exact h6
set_option maxRecDepth 20000 in
set_option maxHeartbeats 4000000 in
theorem pkall_any (w : World) (A B pb mb : Nat) (s hd : List UInt8) (hu : pkRow w B pb s (.map (some mb)) hd) (hmap : holdsMap w mb 0 (.map [])) (hmb : mb < B) (hne : pb ≠ mb) (hAm : A ≤ mb) (hAp : A ≤ pb) (hs : s.length ≤ 20000) (hhd : hd.length ≤ 20) :
    Calls Tryz.prog 42 #[.pointer (some ⟨pb, 0, none⟩)] w fun e w' => e = .returned (.tuple #[]) ∧ Below A w w' ∧ ∃ E, Packs s E ∧ pkRow w' B pb s (.map (some mb)) (hd ++ E) := by
  have HU := hide hu
  have HM0 := hide hmap
  clear hu hmap
  go_enter Tryz.func42, Tryz.ntmps42
  go_wp2
  go_loopw [2, 3] (fun d i wr => ∃ (dn at' n' : Nat) (D : DataW Unit) (E : List UInt8), dn ≤ at' ∧ at' ≤ s.length ∧ d = .int .i64 dn ∧ i = .int .i64 at' ∧ Hid (Below A w wr) ∧ Hid (pkRow wr B pb s (.map (some mb)) (hd ++ E)) ∧ Hid (holdsMap wr mb n' D) ∧ n' ≤ at' ∧ Hid (noted s at' D) ∧ Hid (packing s dn at' E)) (fun _ i _ => s.length - (intOf i).toNat)
  case atStart => exact ⟨0, 0, 0, .map [], [], Nat.le_refl _, by omega, rfl, rfl, hide (Below.refl _ _), hide (by simpa using HU.out), HM0, Nat.le_refl _, hide ⟨⟨_, rfl⟩, fun k c h => by simp [has] at h, fun v h => by omega⟩, hide (packing_start s)⟩
  case round =>
    obtain ⟨dn, at', n', D, E, hda, hat, rfl, rfl, HB, HR, HM, hn', HN, HP⟩ := hrel
    rename World => wr
    obtain ⟨hBr, v, hb, ho⟩ := id HR.out
    obtain ⟨c0, c1, c2, z0, z1, z2⟩ := three_cells hb
    have hE := HP.out.2.1
    have hlen : (hd ++ E).length ≤ 50000 := by rw [List.length_append]; omega
    by_cases h4 : at' + 4 ≤ s.length
    · have h4' : (at' : Int) + 4 ≤ s.length := by omega
      have h4len : (bs (four s at')).size ≤ maxLen := by rw [bs_size]; unfold four maxLen; rw [List.length_take]; omega
      have hkey : keyOf Tryz.prog 9 (.string (bs (four s at'))) = some (.string (four s at')) := by rw [keyOf_string_mk Tryz.underlying9 h4len, bs_data]
      have hlook : ∀ w2, holdsMap w2 mb n' D → ∃ c, (Instr.lookup 68 (.map (some mb)) (.string (bs (four s at'))) true).run Tryz.prog w2 = .ok (.tuple #[.int .i64 c, .bool (has D (.string (four s at')))]) w2 ∧ D.atKey (.string (four s at')) (.lit (.int .i64 0)) = .lit (.int .i64 c) := by
        intro w2 h2
        obtain ⟨v, ps, hrun, hv⟩ := World.ownsMap.look_ok h2 Tryz.keyLaw Tryz.underlying68 (Tryz.zeroInt w2) (plainElem_int Tryz.underlying3 (by decide)) hkey
        obtain ⟨c, rfl, hc, _⟩ := plainElem_int_inv Tryz.underlying3 hv
        exact ⟨c, hrun, congrArg Prod.fst hc⟩
      obtain ⟨c, _, hat0⟩ := hlook wr HM.out
      have HLook : Hid (∀ w2, holdsMap w2 mb n' D → (Instr.lookup 68 (.map (some mb)) (.string (bs (four s at'))) true).run Tryz.prog w2 = .ok (.tuple #[.int .i64 c, .bool (has D (.string (four s at')))]) w2) := by
        intro w2 h2
        obtain ⟨c2, hrun, h3⟩ := hlook w2 h2
        rw [hat0] at h3
        simp at h3
        rw [h3]
        exact hrun
      clear hlook
      obtain ⟨met, HMet⟩ : ∃ met, Hid (has D (.string (four s at')) = met) := ⟨_, hide rfl⟩
      rw [HMet.out] at HLook
      have HAt := hide hat0
      clear hat0
      go_wp2
      refine wp_region_free 18 77 Tryz.mixed2 rfl (by decide +kernel) Grow (fun _ _ _ => Grow.trans) (Grow.refl _)
        (fun i v _ => match i with
          | 0 => v = .pointer (some ⟨pb, 0, none⟩)
          | 1 => v = .pointer (some ⟨pb, 0, none⟩)
          | 2 => v = .pointer (some ⟨pb, 1, none⟩)
          | 3 => v = .map (some mb)
          | 4 => v = .pointer (some ⟨pb, 0, none⟩)
          | 5 => v = .pointer (some ⟨pb, 0, none⟩)
          | 6 => v = .pointer (some ⟨pb, 0, none⟩)
          | 7 => v = .string (bs s)
          | 8 => v = .int .i64 at'
          | 9 => v = .int .i64 at'
          | 10 => v = .int .i64 ((at' : Int) + 4)
          | 11 => v = .string (bs (four s at'))
          | 12 => v = .tuple #[.int .i64 c, .bool met]
          | 13 => v = .tuple #[.int .i64 c, .bool met]
          | 14 => v = .int .i64 c
          | 15 => v = .bool met
          | 16 => v = .int .i64 c
          | _ => v = .bool met)
        (fun i v w w' h hg => h) (fun _ _ => False) (fun _ _ _ _ h => h.elim) (fun i hi o ho a w2 hG hoff hdep => ?_) (fun vals w2 hG hvals => ?_)
      · obtain ⟨c0, c1, c2, _⟩ := three_cells (below_block hG.undrew hb (lt_of_block hb))
        have hsl : List.take (at' + 4 - at') (List.drop at' s) = four s at' := by rw [Nat.add_sub_cancel_left]; rfl
        have hm2 : holdsMap w2 mb n' D := World.ownsMap.kept HM.out (grown_of (row := none) hG.undrew) (by simp)
        have hrun := HLook.out w2 hm2
        match i, hi with
        | 0, _ =>
          obtain rfl := Option.some.inj ho
          have o0 := hoff 0 (by decide +kernel)
          simp at o0
          simp [opYields, go_sem, o0]
          exact Grow.refl _
        | 1, _ =>
          obtain rfl := Option.some.inj ho
          have d0 := hdep 0 (by decide +kernel)
          simp [slotOf, dstOf] at d0
          simp [opYields, go_sem, d0]
          exact Grow.refl _
        | 2, _ =>
          obtain rfl := Option.some.inj ho
          have d1 := hdep 1 (by decide +kernel)
          simp [slotOf, dstOf] at d1
          simp [opYields, go_sem, d1]
          exact Grow.refl _
        | 3, _ =>
          obtain rfl := Option.some.inj ho
          have d2 := hdep 2 (by decide +kernel)
          simp [slotOf, dstOf] at d2
          simp [opYields, go_sem, d2, c1]
          exact Grow.refl _
        | 4, _ =>
          obtain rfl := Option.some.inj ho
          have o0 := hoff 0 (by decide +kernel)
          simp at o0
          simp [opYields, go_sem, o0]
          exact Grow.refl _
        | 5, _ =>
          obtain rfl := Option.some.inj ho
          have d4 := hdep 4 (by decide +kernel)
          simp [slotOf, dstOf] at d4
          simp [opYields, go_sem, d4]
          exact Grow.refl _
        | 6, _ =>
          obtain rfl := Option.some.inj ho
          have d5 := hdep 5 (by decide +kernel)
          simp [slotOf, dstOf] at d5
          simp [opYields, go_sem, d5]
          exact Grow.refl _
        | 7, _ =>
          obtain rfl := Option.some.inj ho
          have d6 := hdep 6 (by decide +kernel)
          simp [slotOf, dstOf] at d6
          simp [opYields, go_sem, d6, c0]
          exact Grow.refl _
        | 8, _ =>
          obtain rfl := Option.some.inj ho
          have o3 := hoff 3 (by decide +kernel)
          simp at o3
          simp [opYields, go_sem, o3]
          exact Grow.refl _
        | 9, _ =>
          obtain rfl := Option.some.inj ho
          have o3 := hoff 3 (by decide +kernel)
          simp at o3
          simp [opYields, go_sem, o3]
          exact Grow.refl _
        | 10, _ =>
          obtain rfl := Option.some.inj ho
          have d9 := hdep 9 (by decide +kernel)
          simp [slotOf, dstOf] at d9
          simp [opYields, go_sem, d9]
          exact ⟨Grow.refl _, wrap_i64_small _ (by omega) (by omega)⟩
        | 11, _ =>
          obtain rfl := Option.some.inj ho
          have d7 := hdep 7 (by decide +kernel)
          simp [slotOf, dstOf] at d7
          have d8 := hdep 8 (by decide +kernel)
          simp [slotOf, dstOf] at d8
          have d10 := hdep 10 (by decide +kernel)
          simp [slotOf, dstOf] at d10
          simp [opYields, go_sem, d7, d8, d10]
          rw [if_pos ⟨by omega, by omega⟩, if_pos (by omega)]
          exact ⟨Grow.refl _, by rw [show ((at' : Int) + 4).toNat - at' = 4 from by omega]; rfl⟩
        | 12, _ =>
          obtain rfl := Option.some.inj ho
          have d3 := hdep 3 (by decide +kernel)
          simp [slotOf, dstOf] at d3
          have d11 := hdep 11 (by decide +kernel)
          simp [slotOf, dstOf] at d11
          simp [opYields, go_sem, d3, d11, hrun]
          exact Grow.refl _
        | 13, _ =>
          obtain rfl := Option.some.inj ho
          have d12 := hdep 12 (by decide +kernel)
          simp [slotOf, dstOf] at d12
          simp [opYields, go_sem, d12]
          exact Grow.refl _
        | 14, _ =>
          obtain rfl := Option.some.inj ho
          have d13 := hdep 13 (by decide +kernel)
          simp [slotOf, dstOf] at d13
          simp [opYields, go_sem, d13]
          exact Grow.refl _
        | 15, _ =>
          obtain rfl := Option.some.inj ho
          have d13 := hdep 13 (by decide +kernel)
          simp [slotOf, dstOf] at d13
          simp [opYields, go_sem, d13]
          exact Grow.refl _
        | 16, _ =>
          obtain rfl := Option.some.inj ho
          have d14 := hdep 14 (by decide +kernel)
          simp [slotOf, dstOf] at d14
          simp [opYields, go_sem, d14]
          exact Grow.refl _
        | 17, _ =>
          obtain rfl := Option.some.inj ho
          have d15 := hdep 15 (by decide +kernel)
          simp [slotOf, dstOf] at d15
          simp [opYields, go_sem, d15]
          exact Grow.refl _
      · have v16 := hvals 16 (by omega)
        have v17 := hvals 17 (by omega)
        simp only at v16 v17
        clear hvals
        have hA2 : A ≤ wr.heap.size := by omega
        have hB2 : Below A w w2 := HB.out.trans (hG.undrew.mono hA2)
        have hs2 := hG.undrew.size
        have hr2 : pkRow w2 B pb s (.map (some mb)) (hd ++ E) := ⟨by omega, v, below_block hG.undrew hb (lt_of_block hb), rowG_keep ho (fun g hg => hG.undrew.block g (rowG_lt ho g hg).2)⟩
        have hm2 : holdsMap w2 mb n' D := World.ownsMap.kept HM.out (grown_of (row := none) hG.undrew) (by simp)
        have HB2 := hide hB2
        have HR2 := hide hr2
        have HM2 := hide hm2
        have hb2 := below_block hG.undrew hb (lt_of_block hb)
        obtain ⟨k0, k1, k2, _⟩ := three_cells hb2
        have HK2 := hide hb2
        clear hB2 hr2 hm2 hb2 ho
        cases met with
        | false =>
          simp [over, dstOf, Act.put, v16, v17]
          go_wp2_with fail
          refine (note_i w2 pb mb n' at' (at' + 1) _ s v D HK2.out hne HM2.out HN.out hs (by omega) (by omega) hn' (by omega)).mono ?_
          rintro e w3 ⟨rfl, hg3, n3, D3, hm3, hn3, hN3⟩
          have HG3 := hide hg3
          have HM3 := hide hm3
          have HN3 := hide hN3
          clear hg3 hm3 hN3
          go_wp2
          go_roundw
          case rel => exact ⟨dn, at' + 1, n3, D3, E, by omega, by omega, rfl, by go_num, hide (HB2.out.trans (below_note HG3.out hAm (by omega))), hide (pkRow_note HR2.out HG3.out hmb hne), HM3, hn3, HN3, hide (packing_skip HP.out HN.out HMet.out h4)⟩
          case measure => simp [intOf]; omega
        | true =>
          obtain ⟨f, rfl, hf1, hf2, hf3⟩ := HN.out.2.1 _ c HMet.out HAt.out
          have HF := hide (four_eq hf3 h4 hf2)
          clear hf3
          simp [over, dstOf, Act.put, v16, v17]
          go_wp2_with fail
          refine (same_any w2 pb f at' s v _ HK2.out hs hf1 hat).mono ?_
          rintro e w3 ⟨n, k, rfl, rfl, hn1, hn2, hn3⟩
          have hn4 : 4 ≤ n := by
            by_cases e : 4 ≤ n
            · exact e
            · exfalso
              rcases hn3 with h | h
              · omega
              · exact h (HF.out n (by omega))
          have HP' := hide (packing_met HP.out hda hs hf1 hn4 hn1 hn2 hn3)
          clear hn2 hn3
          have hml : ((s.drop dn).take (at' - dn)).length ≤ 20000 := by rw [List.length_take, List.length_drop]; omega
          have hr3 : pkRow (w2.drewN k) B pb s (.map (some mb)) (hd ++ E) := HR2.out
          have HR3 := hide hr3
          clear hr3
          go_wp2_with fail
          refine (pkplain_any (w2.drewN k) B pb s ((s.drop dn).take (at' - dn)) (hd ++ E) _ HR3.out hml (by omega)).mono ?_
          rintro e w4 ⟨rfl, hk4, hr4⟩
          have hl4 := (plainE_length ((s.drop dn).take (at' - dn))).1
          have hl5 : (hd ++ E ++ plainE ((s.drop dn).take (at' - dn))).length ≤ 100000 := by rw [List.length_append]; omega
          have HR4 := hide hr4
          have HK4 := hide hk4
          clear hr4 hk4 hl4
          go_wp2_with fail
          refine (pkagain_i w4 B pb n (at' - f) _ s (hd ++ E ++ plainE ((s.drop dn).take (at' - dn))) _ HR4.out (by omega) (by omega) hl5 (by omega)).mono ?_
          rintro e w5 ⟨rfl, hk5, hr5⟩
          have HR5 := hide hr5
          have HK5 := hide hk5
          clear hr5 hk5
          have hm3 : holdsMap (w2.drewN k) mb n' D := HM2.out
          have HM5 := hide (map_keptX (map_keptX hm3 HK4.out hmb hne) HK5.out hmb hne)
          clear hm3
          obtain ⟨hB5, v5, hb5, ho5⟩ := id HR5.out
          obtain ⟨x0, x1, x2, _⟩ := three_cells hb5
          have HX5 := hide hb5
          clear hb5 ho5
          go_wp2_with fail
          refine (note_i w5 pb mb n' at' (at' + n) _ s v5 D HX5.out hne HM5.out HN.out hs (by omega) hn1 hn' (by omega)).mono ?_
          rintro e w6 ⟨rfl, hg6, n6, D6, hm6, hn6, hN6⟩
          have HG6 := hide hg6
          have HM6 := hide hm6
          have HN6 := hide hN6
          clear hg6 hm6 hN6
          go_wp2
          go_roundw
          case rel =>
            have b3 : Below A w (w2.drewN k) := HB2.out.trans ⟨rfl, rfl, rfl, Nat.le_refl _, fun _ _ => rfl⟩
            have b5 : Below A w w5 := (b3.trans (HK4.out.below (by omega) hAp)).trans (HK5.out.below (by omega) hAp)
            refine ⟨at' + n, at' + n, n6, D6, _, Nat.le_refl _, hn1, by go_num, by go_num, hide (b5.trans (below_note HG6.out hAm (by omega))), ?_, HM6, hn6, HN6, HP'⟩
            have := pkRow_note HR5.out HG6.out hmb hne
            rw [List.append_assoc, List.append_assoc] at this
            rw [List.append_assoc]
            exact hide this
          case measure => simp [intOf]; omega
    · have h4' : ¬ (at' : Int) + 4 ≤ s.length := by omega
      have hdr : (s.drop dn).take (s.length - dn) = s.drop dn := List.take_of_length_le (by rw [List.length_drop]; exact Nat.le_refl _)
      have HEnd := hide (packing_end HP.out hda hat hs (by omega))
      go_wp2_with fail
      refine (pkplain_any wr B pb s (s.drop dn) (hd ++ E) _ HR.out (by rw [List.length_drop]; omega) (by omega)).mono ?_
      rintro e w3 ⟨rfl, hk3, hr3⟩
      have HR3 := hide hr3
      clear hr3
      go_wp2
      go_end0
      exact ⟨rfl, HB.out.trans (hk3.below (by omega) hAp), _, HEnd.out, by rw [← List.append_assoc]; exact HR3.out⟩
end Go.Proofs.YtmdakfmecfcbhaaGreat
namespace Go.Proofs.YtmdakfmecfcbhaaGreat
open Go.RowKit Go.Maps
attribute [local go_sem] bs_size bs_toList bs_append bs_get bs_extract
set_option maxRecDepth 20000 in
set_option maxHeartbeats 4000000 in
theorem pack_any (w : World) (s : List UInt8) (hs : s.length ≤ 140737488355328) :
    Calls Tryz.prog 17 #[.string (bs s)] w fun e w' => Below w.heap.size w w' ∧
      ((s.length ≤ 20000 ∧ ∃ E, Packs s E ∧ e = .returned (.tuple #[.string (bs (numB s.length ++ E)), .int .i64 0])) ∨ (20000 < s.length ∧ e = .returned (.tuple #[.string (bs []), .int .i64 2]))) := by
  by_cases hlen : s.length ≤ 20000
  · have hmm := @run_makeMap Tryz.prog
    have hlen' : ¬ (20000 : Int) < s.length := by omega
    go_enter Tryz.func17, Tryz.ntmps17
    go_wp2_with fail
    have hmap0 : holdsMap (w.alloc (.map #[] 0)) w.heap.size 0 (.map []) := World.ownsMap_made w _ _ _
    have hb0 : Below w.heap.size w (w.alloc (.map #[] 0)) := (Below.refl _ _).alloc (Nat.le_refl _) _
    have hs0 : (w.alloc (.map #[] 0)).heap.size = w.heap.size + 1 := by simp
    have HM0 := hide hmap0
    have HB0 := hide hb0
    have HS0 := hide hs0
    clear hmap0 hb0 hs0
    refine (number_any s.length _ (by omega)).mono ?_
    rintro e w1 ⟨rfl, hb1⟩
    have hs1 := hb1.size
    rw [HS0.out] at hs1
    obtain ⟨v, w2, hrun, hrow, hg2⟩ := made_G (w := w1) (base := w.heap.size + 1) (d := numB s.length) hs1 (by have := numB_length s.length; omega)
    have hm1 : holdsMap w1 w.heap.size 0 (.map []) := World.ownsMap.kept HM0.out (grown_of (row := none) hb1) (by simp)
    have hm2 : holdsMap w2 w.heap.size 0 (.map []) := World.ownsMap.kept hm1 (grown_of (row := none) hg2) (by simp)
    have hb2 : Below w.heap.size w w2 := (HB0.out.trans (hb1.mono (by rw [HS0.out]; omega))).trans (hg2.mono (by omega))
    have hs2 := hg2.size
    have HB2 := hide hb2
    clear hb2 hb1 hm1
    obtain ⟨ao, cp, rfl⟩ := rowG_shape hrow
    have hpbW := heap_alloc_new w2 (.cells #[.string (bs s), .map (some w.heap.size), .slice ao (numB s.length).length cp] 70)
    have hrowW : rowG (w2.alloc (.cells #[.string (bs s), .map (some w.heap.size), .slice ao (numB s.length).length cp] 70)) (w.heap.size + 1) (.slice ao (numB s.length).length cp) (numB s.length) := rowG_keep hrow fun g hg => Below.heap_alloc _ _ _ (rowG_lt hrow g hg).2
    have hmW := World.ownsMap.alloc hm2 (.cells #[.string (bs s), .map (some w.heap.size), .slice ao (numB s.length).length cp] 70)
    have hbW := HB2.out.alloc (by omega) (.cells #[.string (bs s), .map (some w.heap.size), .slice ao (numB s.length).length cp] 70)
    have HPK := hide (show pkRow _ (w.heap.size + 1) w2.heap.size s (.map (some w.heap.size)) (numB s.length) from ⟨by simp; omega, _, hpbW, hrowW⟩)
    have HMW := hide hmW
    have HBW := hide hbW
    clear hpbW hrowW hmW hbW hrow hm2
    obtain ⟨hl, HL⟩ : ∃ hl, Hid ((numB s.length).length = hl) := ⟨_, hide rfl⟩
    have hnl := numB_length s.length
    rw [HL.out] at hrun HPK HMW HBW
    go_wp2_with fail
    refine (pkall_any _ w.heap.size (w.heap.size + 1) w2.heap.size w.heap.size s (numB s.length) HPK.out HMW.out (by omega) (by omega) (Nat.le_refl _) (by omega) hlen (by omega)).mono ?_
    rintro e w3 ⟨rfl, hb3, E, hE, hB3, v3, hx3, hr3⟩
    have hcv := run_rowG (P := Tryz.prog) Tryz.underlying63 Tryz.underlying5 Tryz.underlying9 hr3
    obtain ⟨x0, x1, x2, _⟩ := three_cells hx3
    have HE := hide hE
    have HB3 := hide hb3
    clear hE hb3 hr3 hx3 hrun
    go_wp2
    go_ret2
    exact ⟨HBW.out.trans HB3.out, .inl ⟨hlen, E, HE.out, rfl⟩⟩
  · have hlen' : (20000 : Int) < s.length := by omega
    go_enter Tryz.func17, Tryz.ntmps17
    go_wp2
    go_ret2
    exact ⟨Below.refl _ _, .inr ⟨by omega, rfl⟩⟩
end Go.Proofs.YtmdakfmecfcbhaaGreat
namespace Go.Proofs.YtmdakfmecfcbhaaGreat
open Go.RowKit
attribute [local go_sem] bs_size bs_toList bs_append bs_get bs_extract
theorem packs_len {s E : List UInt8} (h : Packs s E) (hs : s.length ≤ 20000) : (numB s.length ++ E).length ≤ s.length + s.length / 6 + 16 := by
  have h2 := h.2.1
  have := numB_length s.length
  rw [List.length_append]
  omega
set_option maxRecDepth 20000 in
set_option maxHeartbeats 1000000 in
theorem pressBegun_any (w : World) :
    Calls Tryz.prog 15 #[] w fun e w' => e = .returned (.bool true) ∧ Below w.heap.size w w' := by
  go_enter Tryz.func15, Tryz.ntmps15
  go_wp2_with fail
  refine (pack_any w [97, 98, 99, 97, 98, 99, 97, 98, 99, 97, 98, 99] (by simp)).mono ?_
  rintro e w1 ⟨hb1, (⟨_, E, hE, rfl⟩ | ⟨h, _⟩)⟩
  · have hl := packs_len hE (by simp)
    have HU := hide (packs_unpack hE (by simp) 12 (by simp) (by omega))
    obtain ⟨t, HT⟩ : ∃ t, Hid (numB ([97, 98, 99, 97, 98, 99, 97, 98, 99, 97, 98, 99] : List UInt8).length ++ E = t) := ⟨_, hide rfl⟩
    rw [HT.out] at HU hl ⊢
    simp only [List.length_cons, List.length_nil] at hl
    clear hE
    go_wp2_with fail
    refine (unpack_any w1 t 12 (by omega) (by omega) (by omega)).mono ?_
    rintro e w2 ⟨rfl, hb2⟩
    rw [HU.out]
    go_wp2
    go_ret
    exact ⟨by rfl, hb1.trans (hb2.mono hb1.size)⟩
  · simp at h
end Go.Proofs.YtmdakfmecfcbhaaGreat
