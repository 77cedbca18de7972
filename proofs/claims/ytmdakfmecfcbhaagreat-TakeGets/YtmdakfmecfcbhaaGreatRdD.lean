/- readSample$1, readSample. -/
import Derived.Test.YtmdakfmecfcbhaaGreatProg
import Derived.Test.YtmdakfmecfcbhaaGreatKit
import Derived.Test.YtmdakfmecfcbhaaGreatSpec
import Derived.Test.YtmdakfmecfcbhaaGreatSpec2
import Derived.Test.YtmdakfmecfcbhaaGreatReg
import Derived.Test.YtmdakfmecfcbhaaGreatWSer
import Derived.Test.YtmdakfmecfcbhaaGreatRdA
import Derived.Test.YtmdakfmecfcbhaaGreatRdB
import Derived.Test.YtmdakfmecfcbhaaGreatRdC
set_option linter.unusedVariables false
set_option linter.unusedSimpArgs false
namespace Go.Proofs.YtmdakfmecfcbhaaGreat
open Go.RowKit
attribute [local go_sem] bs_size bs_toList bs_append bs_get bs_extract

/-- A number from 0 on as a time. -/
def sgn (n : Nat) : Int := if n % 18446744073709551616 < 9223372036854775808 then ((n % 18446744073709551616 : Nat) : Int) else ((n % 18446744073709551616 : Nat) : Int) - 18446744073709551616
theorem sgn_wrap (n : Nat) : IntKind.i64.wrap ((n : Nat) : Int) = sgn n := by
  rw [IntKind.wrap_i64, sgn]; split <;> omega
/-- What a sample's fields tell: the last of each. -/
def samStep (x : Sam) (f : Fld) : Sam := if f.1 = 9 then (x.1, f.2.1) else if f.1 = 16 then (sgn f.2.1, x.2) else x
def samOf (l : List Fld) : Sam := l.foldl samStep (0, 0)
theorem samOf_snoc (d : List Fld) (f : Fld) : samOf (d ++ [f]) = samStep (samOf d) f := by simp [samOf]
theorem samOf_nil : samOf [] = (0, 0) := rfl

set_option maxRecDepth 20000 in
set_option maxHeartbeats 1000000 in
theorem readSample1_any (w : World) (xb : Nat) (x : Sam) (f : Fld) (hx : w.heap[xb]? = some (.cells #[.int .i64 x.1, .int .u64 x.2] 48 (0, 0))) :
    Calls Tryz.prog 143 #[fldV f, .pointer (some ⟨xb, 0, none⟩)] w fun e w' => e = .returned (.tuple #[]) ∧ KeptX w.heap.size xb w w' ∧ w'.heap[xb]? = some (.cells #[.int .i64 (samStep x f).1, .int .u64 (samStep x f).2] 48 (0, 0)) := by
  obtain ⟨h, n, b⟩ := f
  have hxlt := lt_of_block hx
  have h0 : Below w.heap.size w (w.alloc (.cells #[.int .u64 h, .int .u64 n, .string (bs b)] 133)) := (Below.refl _ _).alloc (Nat.le_refl _) _
  have hx1 := below_block h0 hx hxlt
  obtain ⟨c0, c1⟩ := two_cells hx1
  have z0 : (w.alloc (.cells #[.int .u64 h, .int .u64 n, .string (bs b)] 133)).frozen? ⟨xb, 0, none⟩ = false := by simp only [World.frozen?, hx1]; rfl
  have z1 : (w.alloc (.cells #[.int .u64 h, .int .u64 n, .string (bs b)] 133)).frozen? ⟨xb, 1, none⟩ = false := by simp only [World.frozen?, hx1]; rfl
  have hsg := sgn_wrap n
  unfold fldV
  go_enter Tryz.func143, Tryz.ntmps143
  have hk := keptX_of (b := xb) h0
  by_cases m1 : h = 9
  · have t1 : ((h : Int) == 9) = true := by rw [beq_iff_eq]; omega
    have M := hide m1
    clear m1
    go_wp2
    go_end0
    refine ⟨rfl, ((KeptX.refl _ _ _).setAt _ _).alloc (by simp [World.setCell]) _, ?_⟩
    rw [Below.heap_alloc _ _ _ (by simpa [World.setCell] using hxlt), set_block hx]
    simp only [samStep, M.out, if_true]
    rfl
  · have t1 : ((h : Int) == 9) = false := by rw [beq_eq_false_iff_ne]; omega
    by_cases m2 : h = 16
    · have t2 : ((h : Int) == 16) = true := by rw [beq_iff_eq]; omega
      have M := hide m2
      clear m1 m2
      go_wp2
      go_end0
      refine ⟨rfl, ((KeptX.refl _ _ _).setAt _ _).alloc (by simp [World.setCell]) _, ?_⟩
      rw [Below.heap_alloc _ _ _ (by simpa [World.setCell] using hxlt), set_block hx]
      simp only [samStep, M.out]
      rfl
    · have t2 : ((h : Int) == 16) = false := by rw [beq_eq_false_iff_ne]; omega
      have M := hide (And.intro m1 m2)
      clear m1 m2
      go_wp2
      go_end0
      refine ⟨rfl, hk, ?_⟩
      simp only [samStep, M.out.1, M.out.2, if_false]
      exact hx1

/-- A sample's text tells one. -/
def samRead (s : List UInt8) : Option Sam := if (fields s).2 = true then some (samOf (fields s).1) else none

set_option maxRecDepth 20000 in
set_option maxHeartbeats 2000000 in
theorem readSample_any (w : World) (s : List UInt8) (hs : s.length ≤ 1000000) :
    Calls Tryz.prog 128 #[.string (bs s)] w fun e w' => Below w.heap.size w w' ∧
      ((∃ x, samRead s = some x ∧ x.2 < 18446744073709551616 ∧ e = .returned (.agg #[.int .i64 x.1, .int .u64 x.2])) ∨ (samRead s = none ∧ e = gaveUp 1)) := by
  have hcf : ∀ (args : Array Value) (w : World), (callFunc 143 args).run Tryz.prog w = .ok (.enter 143 args) w := fun args w => by simp [go_sem]
  obtain ⟨W, HW⟩ : ∃ W, Hid (W = (w.alloc (.cells #[.int .i64 0, .int .u64 0] 48)).alloc (.cells #[.int .i64 0, .int .u64 0] 48)) := ⟨_, hide rfl⟩
  have hW0 : Below w.heap.size w W := by rw [HW.out]; exact ((Below.refl _ _).alloc (Nat.le_refl _) _).alloc (by simp) _
  have hW1 : W.heap[w.heap.size]? = some (.cells #[.int .i64 0, .int .u64 0] 48 (0, 0)) := by
    rw [HW.out, Below.heap_alloc _ _ _ (by simp)]; exact heap_alloc_new _ _
  have hW2 : W.heap[w.heap.size + 1]? = some (.cells #[.int .i64 (samOf []).1, .int .u64 (samOf []).2] 48 (0, 0)) := by
    rw [HW.out]
    have := heap_alloc_new (w.alloc (.cells #[.int .i64 0, .int .u64 0] 48)) (.cells #[.int .i64 0, .int .u64 0] 48)
    simpa [samOf_nil] using this
  have hlen : ∀ (x : Sam) (f : Fld), x.2 < 18446744073709551616 → f.2.1 < 18446744073709551616 → (samStep x f).2 < 18446744073709551616 := by
    intro x f h1 h2
    unfold samStep
    split
    · exact h2
    · split <;> exact h1
  have HE := hide (eachField_any s W 143 #[.pointer (some ⟨w.heap.size + 1, 0, none⟩)]
    (fun d wi => Below w.heap.size w wi ∧ wi.heap[w.heap.size]? = some (.cells #[.int .i64 0, .int .u64 0] 48 (0, 0)) ∧ wi.heap[w.heap.size + 1]? = some (.cells #[.int .i64 (samOf d).1, .int .u64 (samOf d).2] 48 (0, 0)) ∧ (samOf d).2 < 18446744073709551616)
    (fun _ => true) (fun wi => Below w.heap.size w wi) (by omega) hcf ⟨hW0, hW1, hW2, by simp [samOf]⟩
    (fun d w1 w2 ⟨h1, h2, h3, h4⟩ hg => ⟨h1.trans (hg.mono h1.size), hg.get h2, hg.get h3, h4⟩)
    (fun d w1 h => h.1)
    (fun d f w1 ⟨h1, h2, h3, h4⟩ _ hn hf _ => (readSample1_any w1 (w.heap.size + 1) (samOf d) f h3).mono fun e w2 ⟨he, hk, hb⟩ => .inl ⟨rfl, he, (h1.trans (hk.below h1.size (by omega))), hk.get h2 (lt_of_block h2) (by omega), by rw [samOf_snoc]; exact hb, by rw [samOf_snoc]; exact hlen _ _ h4 hn⟩))
  clear hW0 hW1 hW2 hlen
  rw [HW.out] at HE
  go_enter Tryz.func128, Tryz.ntmps128
  go_wp2_with fail
  refine HE.out.mono ?_
  clear HE hcf HW
  rintro e w1 (⟨hok, rfl, hb1, h2, h3, h4⟩ | ⟨hok, rfl, hb1⟩)
  · have HOk : Hid (samRead s = some (samOf (fields s).1)) := by
      show _ = _
      simp [fieldsOk] at hok
      simp [samRead, hok]
    clear hok
    generalize samOf (fields s).1 = x at *
    have H4 := hide h4
    clear h4
    obtain ⟨x0, x1⟩ := two_cells h3
    obtain ⟨c0, c1⟩ := two_cells h2
    have z0 : w1.frozen? ⟨w.heap.size, 0, none⟩ = false := by simp only [World.frozen?, h2]; rfl
    have z1 : w1.frozen? ⟨w.heap.size, 1, none⟩ = false := by simp only [World.frozen?, h2]; rfl
    have hb3 : ((w1.setCell ⟨w.heap.size, 0, none⟩ (.int .i64 x.1)).setCell ⟨w.heap.size, 1, none⟩ (.int .u64 x.2)).heap[w.heap.size]? = some (.cells #[.int .i64 x.1, .int .u64 x.2] 48 (0, 0)) := by
      rw [set_block (set_block h2 _) _]; rfl
    obtain ⟨r0, r1⟩ := two_cells hb3
    go_wp2
    refine bodyPost_ret (v := .agg #[.int .i64 x.1, .int .u64 x.2]) (by simp [results, Tryz.results128, go_sem, r0, r1]) rfl ?_
    exact ⟨(hb1.setCell (p := ⟨w.heap.size, 0, none⟩) (Nat.le_refl _) _).setCell (p := ⟨w.heap.size, 1, none⟩) (Nat.le_refl _) _, .inl ⟨x, HOk.out, H4.out, rfl⟩⟩
  · have HOk : Hid (samRead s = none) := by
      show _ = _
      have hf : (fields s).2 = false := by simpa [fieldsOk] using hok
      simp [samRead, hf]
    exact ⟨rfl, hb1, .inr ⟨HOk.out, rfl⟩⟩

end Go.Proofs.YtmdakfmecfcbhaaGreat
