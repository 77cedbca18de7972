/- Read$1, Read. -/
import Derived.Test.YtmdakfmecfcbhaaGreatProg
import Derived.Test.YtmdakfmecfcbhaaGreatKit
import Derived.Test.YtmdakfmecfcbhaaGreatSpec
import Derived.Test.YtmdakfmecfcbhaaGreatSpec2
import Derived.Test.YtmdakfmecfcbhaaGreatReg
import Derived.Test.YtmdakfmecfcbhaaGreatWSer
import Derived.Test.YtmdakfmecfcbhaaGreatWChk
import Derived.Test.YtmdakfmecfcbhaaGreatWTop
import Derived.Test.YtmdakfmecfcbhaaGreatRdF
set_option linter.unusedVariables false
set_option linter.unusedSimpArgs false
namespace Go.Proofs.YtmdakfmecfcbhaaGreat
open Go.RowKit
attribute [local go_sem] bs_size bs_toList bs_append bs_get bs_extract

theorem fieldsF_in : ∀ (k : Nat) (l : List UInt8), (fieldsF k l).1.length ≤ k ∧ ∀ f ∈ (fieldsF k l).1, f.1 < 18446744073709551616 ∧ f.2.1 < 18446744073709551616 ∧ f.2.2.length ≤ l.length
  | 0, l => by simp [fieldsF]
  | k + 1, l => by
    unfold fieldsF
    split
    · simp
    · split
      · simp
      · rename_i f r h
        have hs := oneField_shorter h
        have ih := fieldsF_in k r
        refine ⟨by simp; exact ih.1, fun g hg => ?_⟩
        rcases List.mem_cons.1 hg with rfl | hg
        · exact hs.2
        · have := ih.2 g hg
          exact ⟨this.1, this.2.1, by omega⟩
theorem fields_in (l : List UInt8) : (fields l).1.length ≤ l.length ∧ ∀ f ∈ (fields l).1, f.1 < 18446744073709551616 ∧ f.2.1 < 18446744073709551616 ∧ f.2.2.length ≤ l.length := fieldsF_in _ _

theorem fold_inv {α β : Type} (P : α → Prop) (Q : β → Prop) (g : α → β → α) (h : ∀ a b, P a → Q b → P (g a b)) : ∀ (l : List β) (a : α), P a → (∀ b ∈ l, Q b) → P (l.foldl g a)
  | [], a, ha, _ => ha
  | b :: l, a, ha, hl => fold_inv P Q g h l (g a b) (h a b ha (hl b (by simp))) fun c hc => hl c (by simp [hc])

def labIn (n : Nat) (x : Lab) : Prop := x.1.length ≤ n ∧ x.2.length ≤ n
theorem labRead_len {b : List UInt8} {a : Lab} (h : labRead b = some a) : labIn b.length a := by
  unfold labRead at h
  split at h
  · cases h
    exact fold_inv (labIn b.length) (fun f : Fld => f.2.2.length ≤ b.length) labStep (fun x f hx hf => labStep_len hx hf) _ _ ⟨Nat.zero_le _, Nat.zero_le _⟩ fun f hf => ((fields_in b).2 f hf).2.2
  · cases h
def samIn (x : Sam) : Prop := x.2 < 18446744073709551616
theorem samRead_len {b : List UInt8} {a : Sam} (h : samRead b = some a) : samIn a := by
  unfold samRead at h
  split at h
  · cases h
    refine fold_inv samIn (fun f : Fld => f.2.1 < 18446744073709551616) samStep (fun x f hx hf => ?_) _ _ (by simp [samIn]) fun f hf => ((fields_in b).2 f hf).2.1
    unfold samStep samIn
    split
    · exact hf
    · split <;> exact hx
  · cases h
def serIn (n : Nat) (x : Ser) : Prop := (∀ y ∈ x.1, labIn n y) ∧ ∀ y ∈ x.2, samIn y
theorem serRead_len {b : List UInt8} {a : Ser} (h : serRead b = some a) : serIn b.length a ∧ a.1.length ≤ b.length ∧ a.2.length ≤ b.length := by
  unfold serRead at h
  split at h
  · cases h
    refine ⟨fold_inv (serIn b.length) (fun f : Fld => f.2.2.length ≤ b.length) serStep (fun x f hx hf => ?_) _ _ ⟨by simp, by simp⟩ fun f hf => ((fields_in b).2 f hf).2.2, ?_⟩
    · unfold serStep
      split
      · split
        · rename_i a ha
          have hl := labRead_len ha
          refine ⟨fun y hy => ?_, hx.2⟩
          rcases List.mem_append.1 hy with hy | hy
          · exact hx.1 y hy
          · simp at hy
            subst hy
            exact ⟨by have := hl.1; omega, by have := hl.2; omega⟩
        · exact hx
      · split
        · split
          · rename_i a ha
            refine ⟨hx.1, fun y hy => ?_⟩
            rcases List.mem_append.1 hy with hy | hy
            · exact hx.2 y hy
            · simp at hy
              subst hy
              exact samRead_len ha
          · exact hx
        · exact hx
    · have h1 := serOf_len (fields b).1 ([], [])
      have h2 := (fields_in b).1
      simp at h1
      exact ⟨by show ((fields b).1.foldl serStep ([], [])).1.length ≤ _; omega, by show ((fields b).1.foldl serStep ([], [])).2.length ≤ _; omega⟩
  · cases h
def allIn (n : Nat) (l : List Ser) : Prop := ∀ x ∈ l, serIn n x ∧ x.1.length ≤ n ∧ x.2.length ≤ n
theorem allRead_len {b : List UInt8} {a : List Ser} (h : allRead b = some a) : allIn b.length a ∧ a.length ≤ b.length := by
  unfold allRead at h
  split at h
  · cases h
    refine ⟨fold_inv (allIn b.length) (fun f : Fld => f.2.2.length ≤ b.length) allStep (fun x f hx hf => ?_) _ _ (by simp [allIn]) fun f hf => ((fields_in b).2 f hf).2.2, ?_⟩
    · unfold allStep
      split
      · split
        · rename_i a ha
          have hl := serRead_len ha
          intro y hy
          rcases List.mem_append.1 hy with hy | hy
          · exact hx y hy
          · simp at hy
            subst hy
            exact ⟨⟨fun z hz => by have := hl.1.1 z hz; exact ⟨by have := this.1; omega, by have := this.2; omega⟩, hl.1.2⟩, by omega, by omega⟩
        · exact hx
      · exact hx
    · have h1 := allOf_len (fields b).1 []
      have h2 := (fields_in b).1
      simp at h1
      show ((fields b).1.foldl allStep []).length ≤ _
      omega
  · cases h
theorem allRead_fit {b : List UInt8} {a : List Ser} (h : allRead b = some a) (hb : b.length ≤ 1000000) : lensFit a := by
  have hl := allRead_len h
  refine ⟨by omega, fun x hx => ?_⟩
  have hx' := hl.1 x hx
  refine ⟨by omega, by omega, fun y hy => ?_⟩
  have := hx'.1.1 y hy
  exact ⟨by have := this.1; omega, by have := this.2; omega⟩

/-- The error with which a short text is read: 0 is none. -/
def rdErr (s : List UInt8) : Int := match allRead s with | none => 1 | some x => if countsB x = true then (if timesB x = true then 0 else 3) else 2

set_option maxRecDepth 20000 in
set_option maxHeartbeats 2000000 in
theorem read1_any (w : World) (sb lb : Nat) (s : List UInt8) (v0 : Value) (hsb : w.heap[sb]? = some (.cells #[.string (bs s)] 9 (0, 0))) (hlb : w.heap[lb]? = some (.cells #[v0] 22 (0, 0))) (hne : sb ≠ lb) (hs : s.length ≤ 20000) :
    Calls Tryz.prog 83 #[.pointer (some ⟨sb, 0, none⟩), .pointer (some ⟨lb, 0, none⟩)] w (worked fun err w' => err = rdErr s ∧ KeptX w.heap.size lb w w' ∧
      (rdErr s = 0 → ∃ x v, allRead s = some x ∧ w'.heap[lb]? = some (.cells #[v] 22 (0, 0)) ∧ ownSeries w' w.heap.size v x)) := by
  have hc := cell_of_one hsb
  have hlt := lt_of_block hlb
  go_enter Tryz.func83, Tryz.ntmps83
  go_wp2_with fail
  refine (readAll_any w s (by omega)).mono ?_
  rintro e w1 ⟨hb1, (⟨x, v, hr, rfl, ho⟩ | ⟨hr, rfl⟩)⟩
  · obtain ⟨ao, cp, rfl⟩ : ∃ ao cp, v = .slice ao x.length cp := by obtain ⟨vs, _, hr, _⟩ := ho; exact own_shape hr
    have hfit := hide (allRead_fit hr (by omega))
    have HR := hide hr
    clear hr
    have hl1 := below_block hb1 hlb hlt
    have z1 := free_of_one hl1
    have c1 := cell_of_one hl1
    obtain ⟨W, HW⟩ : ∃ W, Hid (W = w1.setCell ⟨lb, 0, none⟩ (.slice ao x.length cp)) := ⟨_, hide rfl⟩
    have hlW : W.heap[lb]? = some (.cells #[.slice ao x.length cp] 22 (0, 0)) := by rw [HW.out]; exact set_block hl1 _
    have hoW : ownSeries W w.heap.size (.slice ao x.length cp) x := by rw [HW.out]; exact ownSeries_setCell ho hl1 (by decide) (by decide) (by decide)
    have hkW : KeptX w.heap.size lb w W := by rw [HW.out]; exact (keptX_of hb1).setAt _ _
    have hWs := hkW.size
    have cW := cell_of_one hlW
    rw [HW.out] at cW
    clear hc
    go_wp2_with fail
    rw [← HW.out]
    clear c1
    refine (checkCounts_any W _ x (reads_ownSeries hoW) hfit.out.1 hfit.out.2).mono ?_
    clear hfit
    rintro e w2 ⟨hb2, (⟨h1, rfl⟩ | ⟨h1, rfl⟩)⟩
    · have g2 : Grow W w2 := hb2
      have hl2 := g2.get hlW
      have c2 := cell_of_one hl2
      clear cW
      go_wp2_with fail
      refine (checkTimes_any w2 _ x (reads_ownSeries (ownSeries_grow hoW g2)) h1).mono ?_
      rintro e w3 ⟨hb3, (⟨h2, rfl⟩ | ⟨h2, rfl⟩)⟩
      · have g3 : Grow W w3 := g2.trans hb3
        have he : rdErr s = 0 := by
          have := (countsB_iff x).1 h1; have := (timesB_iff x).1 h2
          simp [rdErr, HR.out, *]
        go_wp2
        go_end0
        exact .inl ⟨rfl, he.symm, hkW.trans (keptX_of (g3.mono hWs)), fun _ => ⟨x, _, HR.out, g3.get hlW, ownSeries_grow hoW g3⟩⟩
      · have g3 : Grow W w3 := g2.trans hb3
        have he : rdErr s = 3 := by
          have := (countsB_iff x).1 h1; have h2' := mt (timesB_iff x).2 h2
          simp [rdErr, HR.out, *]
        exact ⟨rfl, .inr ⟨3, rfl, he.symm, hkW.trans (keptX_of (g3.mono hWs)), fun h => by rw [he] at h; simp at h⟩⟩
    · have g2 : Grow W w2 := hb2
      have he : rdErr s = 2 := by
        have h1' := mt (countsB_iff x).2 h1
        simp [rdErr, HR.out, *]
      exact ⟨rfl, .inr ⟨2, rfl, he.symm, hkW.trans (keptX_of (g2.mono hWs)), fun h => by rw [he] at h; simp at h⟩⟩
  · have he : rdErr s = 1 := by simp [rdErr, hr]
    exact ⟨rfl, .inr ⟨1, rfl, he.symm, keptX_of hb1, fun h => by rw [he] at h; simp at h⟩⟩

/-- The error of Read: 0 is none. -/
def readErr (s : List UInt8) : Int := if s.length ≤ 20000 then rdErr s else 2

set_option maxRecDepth 20000 in
set_option maxHeartbeats 2000000 in
theorem read_any (w : World) (s : List UInt8) (hs : s.length ≤ 9223372036854775807) :
    Calls Tryz.prog 55 #[.string (bs s)] w fun e w' => Below w.heap.size w w' ∧
      ((readErr s = 0 ∧ ∃ x v, allRead s = some x ∧ e = .returned (.tuple #[v, .int .i64 0]) ∧ ownSeries w' w.heap.size v x) ∨ (readErr s ≠ 0 ∧ e = .returned (.tuple #[.slice none 0 0, .int .i64 (readErr s)]))) := by
  have hcf : ∀ (args : Array Value) (w : World), (callFunc 83 args).run Tryz.prog w = .ok (.enter 83 args) w := fun args w => by simp [go_sem]
  have hBox : Below w.heap.size w (w.alloc (.cells #[.string (bs s)] 9)) := (Below.refl _ _).alloc (Nat.le_refl _) _
  by_cases hlen : s.length ≤ 20000
  · obtain ⟨W, HW⟩ : ∃ W, Hid (W = ((w.alloc (.cells #[.string (bs s)] 9)).alloc (.cells #[.slice none 0 0] 22)).alloc (.cells #[.int .i64 0] 24)) := ⟨_, hide rfl⟩
    have h0 : Below w.heap.size w W := by rw [HW.out]; exact (hBox.alloc (by simp) _).alloc (by simp; omega) _
    have hWs : W.heap.size = w.heap.size + 3 := by rw [HW.out]; simp
    have g0 : W.heap[w.heap.size]? = some (.cells #[.string (bs s)] 9 (0, 0)) := by
      rw [HW.out, Below.heap_alloc _ _ _ (by simp; omega), Below.heap_alloc _ _ _ (by simp)]; exact heap_alloc_new _ _
    have g1 : W.heap[w.heap.size + 1]? = some (.cells #[.slice none 0 0] 22 (0, 0)) := by
      rw [HW.out, Below.heap_alloc _ _ _ (by simp)]
      have := heap_alloc_new (w.alloc (.cells #[.string (bs s)] 9)) (.cells #[.slice none 0 0] 22)
      simpa using this
    have g2 : W.heap[w.heap.size + 2]? = some (.cells #[.int .i64 0] 24 (0, 0)) := by
      rw [HW.out]
      have := heap_alloc_new ((w.alloc (.cells #[.string (bs s)] 9)).alloc (.cells #[.slice none 0 0] 22)) (.cells #[.int .i64 0] 24)
      simpa using this
    have HR := hide ((read1_any W w.heap.size (w.heap.size + 1) s _ g0 g1 (by omega) hlen).mono fun e w' h => (show worked (fun err w' => (err = rdErr s ∧ Below w.heap.size w w' ∧ w'.heap[w.heap.size + 2]? = some (.cells #[.int .i64 0] 24 (0, 0)) ∧ (rdErr s = 0 → ∃ x v, allRead s = some x ∧ w'.heap[w.heap.size + 1]? = some (.cells #[v] 22 (0, 0)) ∧ ownSeries w' (w.heap.size + 3) v x)) ∧ w'.heap[((w.alloc (.cells #[.string (bs s)] 9)).alloc (.cells #[.slice none 0 0] 22)).heap.size]? = some (.cells #[.int .i64 0] 24 (0, 0))) e w' from by
      have key : ∀ err w', (err = rdErr s ∧ KeptX W.heap.size (w.heap.size + 1) W w' ∧ (rdErr s = 0 → ∃ x v, allRead s = some x ∧ w'.heap[w.heap.size + 1]? = some (.cells #[v] 22 (0, 0)) ∧ ownSeries w' W.heap.size v x)) →
          (err = rdErr s ∧ Below w.heap.size w w' ∧ w'.heap[w.heap.size + 2]? = some (.cells #[.int .i64 0] 24 (0, 0)) ∧ (rdErr s = 0 → ∃ x v, allRead s = some x ∧ w'.heap[w.heap.size + 1]? = some (.cells #[v] 22 (0, 0)) ∧ ownSeries w' (w.heap.size + 3) v x)) ∧ w'.heap[((w.alloc (.cells #[.string (bs s)] 9)).alloc (.cells #[.slice none 0 0] 22)).heap.size]? = some (.cells #[.int .i64 0] 24 (0, 0)) := by
        rintro err w' ⟨e1, e2, e3⟩
        have e4 := e2.get g2 (by omega) (by omega)
        exact ⟨⟨e1, h0.trans (e2.below (by omega) (by omega)), e4, fun h => by rw [← hWs]; exact e3 h⟩, by simpa using e4⟩
      rcases h with ⟨rfl, hR⟩ | ⟨err, rfl, hR⟩
      · exact .inl ⟨rfl, key _ _ hR⟩
      · exact .inr ⟨err, rfl, key _ _ hR⟩))
    rw [HW.out] at HR
    clear g0 g1 g2 h0 hWs HW
    have hcs : (w.alloc (.cells #[.string (bs s)] 9)).cell? ⟨w.heap.size, 0, none⟩ = some (.string (bs s)) := cell_of_one (heap_alloc_new _ _)
    have hz : readErr s = rdErr s := by simp [readErr, hlen]
    rw [hz]
    go_enter Tryz.func55, Tryz.ntmps55
    go_wp2_with fail
    refine (attempt_any _ 83 _ (fun err w' => err = rdErr s ∧ Below w.heap.size w w' ∧ w'.heap[w.heap.size + 2]? = some (.cells #[.int .i64 0] 24 (0, 0)) ∧ (rdErr s = 0 → ∃ x v, allRead s = some x ∧ w'.heap[w.heap.size + 1]? = some (.cells #[v] 22 (0, 0)) ∧ ownSeries w' (w.heap.size + 3) v x)) hcf HR.out).mono ?_
    clear HR hcf
    rintro e w2 ⟨err, w1, rfl, ⟨herr, hb, hg, hW⟩, hw2⟩
    have hb2 : Below w.heap.size w w2 := by rw [hw2]; exact hb.setCell (by simp; omega) _
    by_cases h : rdErr s = 0
    · obtain ⟨x, v, hr, hlv, how⟩ := hW h
      have hlv2 : w2.heap[w.heap.size + 1]? = some (.cells #[v] 22 (0, 0)) := by
        rw [hw2, Below.heap_setCell _ _ _ _ (by simp)]; exact hlv
      have how2 : ownSeries w2 (w.heap.size + 3) v x := by
        rw [hw2]
        have := ownSeries_setCell (u := .int .i64 err) (i := 0) how hg (by decide) (by decide) (by decide)
        simpa using this
      clear hw2
      rw [herr, h]
      have hcell := cell_of_one hlv2
      obtain ⟨ao, cp, rfl⟩ : ∃ ao cp, v = .slice ao x.length cp := by obtain ⟨vs, _, hr, _⟩ := how; exact own_shape hr
      have HX := hide hr
      have HZ := hide h
      clear h herr hg hW hr
      go_wp2
      go_ret2
      refine ⟨hb2, .inl ⟨HZ.out, x, _, HX.out, rfl, ?_⟩⟩
      obtain ⟨vs, hl, hr, hall⟩ := how2
      exact ⟨vs, hl, own_le hr (by omega), fun i a b h1 h2 => ⟨own_le (hall i a b h1 h2).1 (by omega), own_le (hall i a b h1 h2).2 (by omega)⟩⟩
    · have hne : (err != 0) = true := by rw [herr]; simpa using h
      have HE := hide herr
      have HN := hide h
      clear h herr hg hw2 hW
      go_wp2
      go_ret2
      exact ⟨hb2, .inr ⟨HN.out, by rw [← HE.out]; rfl⟩⟩
  · have hz : readErr s = 2 := by simp [readErr, hlen]
    have hcs : (w.alloc (.cells #[.string (bs s)] 9)).cell? ⟨w.heap.size, 0, none⟩ = some (.string (bs s)) := cell_of_one (heap_alloc_new _ _)
    rw [hz]
    go_enter Tryz.func55, Tryz.ntmps55
    go_wp2
    go_ret2
    exact ⟨hBox, .inr ⟨by omega, rfl⟩⟩

end Go.Proofs.YtmdakfmecfcbhaaGreat
