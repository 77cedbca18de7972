/- 1 texts in one. -/
import Derived.Laws.OwnMore
import Derived.Test.YtmdakfmecfcbhaaGreatProg
import Derived.Test.YtmdakfmecfcbhaaGreatK7e06493
import Derived.Test.YtmdakfmecfcbhaaGreatK85cc7d6
import Derived.Test.YtmdakfmecfcbhaaGreatK6ada7ca
import Derived.Test.YtmdakfmecfcbhaaGreatK2318fee
import Derived.Test.YtmdakfmecfcbhaaGreatK0d2d33e
import Derived.Test.YtmdakfmecfcbhaaGreatK6271d58
import Derived.Test.YtmdakfmecfcbhaaGreatK3e23582
import Derived.Test.YtmdakfmecfcbhaaGreatK14d8a0b
import Derived.Test.YtmdakfmecfcbhaaGreatKf7a2202
import Derived.Test.YtmdakfmecfcbhaaGreatKc7cc8d4
import Derived.Test.YtmdakfmecfcbhaaGreatKbe49eb6
import Derived.BigQuiet
set_option linter.unusedVariables false
set_option linter.unusedSimpArgs false
namespace Go.Proofs.YtmdakfmecfcbhaaGreat.Tk
open Go.RowKit
attribute [local go_sem] bs_size bs_toList bs_append bs_get bs_extract
theorem readsSam.wire {w : World} {B : Nat} {v : Value} {l : List Sam} (h : readsSam w B v l) : readsSamples w B v l := by
  obtain ⟨ao, cp, hv, _, h⟩ := h
  exact ⟨ao, cp, hv, h⟩
/-- How far the law has looked: nothing found, or the samples of the one by these labels. -/
def looked (w : World) (l : List Ser) (x : List Lb.Lab) (k : Nat) (e : Int) (v : Value) : Prop :=
  (e = 5 ∧ v = .slice none 0 0 ∧ ∀ j (hj : j < l.length), j < k → l[j].1 ≠ x) ∨ (e = 0 ∧ ∃ (j : Nat) (hj : j < l.length), j < k ∧ l[j].1 = x ∧ readsSam w w.heap.size v l[j].2)
theorem looked.grow {w w' : World} {l : List Ser} {x : List Lb.Lab} {k : Nat} {e : Int} {v : Value} (h : looked w l x k e v) (g : Grow w w') : looked w' l x k e v := by
  rcases h with h | ⟨h1, j, hj, h2, h3, h4⟩
  · exact .inl h
  · exact .inr ⟨h1, j, hj, h2, h3, (h4.keep g).more g.size⟩
theorem looked.shape {w : World} {l : List Ser} {x : List Lb.Lab} {k : Nat} {e : Int} {v : Value} (h : looked w l x k e v) : ∃ ao n cp, v = .slice ao n cp := by
  rcases h with ⟨_, h, _⟩ | ⟨_, j, hj, _, _, h⟩
  · exact ⟨_, _, _, h⟩
  · obtain ⟨ao, cp, h, _⟩ := readsSam_len h
    exact ⟨_, _, _, h⟩
/-- What Get answered, and what the document's words make of it. -/
def gotB (w : World) (l : List Ser) (x : List Lb.Lab) (e : Int) (v : Value) : Prop :=
  (e = 5 ∧ v = .slice none 0 0 ∧ ∀ s ∈ l, s.1 ≠ x) ∨ (e = 0 ∧ ∃ (i : Nat) (hi : i < l.length), l[i].1 = x ∧ readsSam w w.heap.size v l[i].2)
theorem one_place {l : List Ser} (h : riseS l = true) {x : List Lb.Lab} {i j : Nat} (hi : i < l.length) (hj : j < l.length) (e1 : l[i].1 = x) (e2 : l[j].1 = x) : i = j := by
  have key : ∀ a b (ha : a < l.length) (hb : b < l.length), l[a].1 = x → l[b].1 = x → ¬ a < b := fun a b ha hb h1 h2 hab => by
    have := rise_less h a b hb hab
    rw [h1, h2, Lb.ordB_zero.2 rfl] at this
    omega
  have h1 := key i j hi hj e1 e2
  have h2 := key j i hj hi e2 e1
  omega
theorem gotB.shape {w : World} {l : List Ser} {x : List Lb.Lab} {e : Int} {v : Value} (h : gotB w l x e v) : ∃ ao n cp, v = .slice ao n cp := by
  rcases h with ⟨_, h, _⟩ | ⟨_, j, hj, _, h⟩
  · exact ⟨_, _, _, h⟩
  · obtain ⟨ao, cp, h, _⟩ := readsSam_len h
    exact ⟨_, _, _, h⟩
theorem gotB.grow {w w' : World} {l : List Ser} {x : List Lb.Lab} {e : Int} {v : Value} (h : gotB w l x e v) (g : Grow w w') : gotB w' l x e v := by
  rcases h with h | ⟨h1, j, hj, h2, h4⟩
  · exact .inl h
  · exact .inr ⟨h1, j, hj, h2, (h4.keep g).more g.size⟩
theorem tget2_any (w : World) (v vx : Value) (l : List Ser) (x : List Lb.Lab) (hv : readsSer w w.heap.size v l) (hok : okStore l) (hx : Lb.readsLabels w w.heap.size vx x) (hxl : x.length ≤ 9223372036854775807) (hxi : Lb.lensOk x) :
    Calls Tryz.prog 18 #[v, vx] w fun e w' => Grow w w' ∧ ((storeErr l ≠ 0 ∧ e = .returned (.tuple #[.slice none 0 0, .int .i64 (storeErr l : Nat)])) ∨ (storeErr l = 0 ∧ Lb.checkB x ≠ 0 ∧ e = .returned (.tuple #[.slice none 0 0, .int .i64 (Lb.checkB x : Nat)])) ∨ (storeErr l = 0 ∧ Lb.checkB x = 0 ∧ ∃ (GE : Int) (gv : Value), e = .returned (.tuple #[gv, .int .i64 GE]) ∧ gotB w' l x GE gv)) := by
  refine (tget_any w v vx l x hv hok hx hxl hxi).mono ?_
  rintro e w' ⟨hg, h | h | ⟨h1, h2, h3, h4⟩ | ⟨h1, h2, i, hi, v', h3, h4, h5⟩⟩
  · exact ⟨hg, .inl h⟩
  · exact ⟨hg, .inr (.inl h)⟩
  · exact ⟨hg, .inr (.inr ⟨h1, h2, 5, _, h4, .inl ⟨rfl, rfl, h3⟩⟩)⟩
  · exact ⟨hg, .inr (.inr ⟨h1, h2, 0, _, h4, .inr ⟨rfl, i, hi, h3, h5.reads⟩⟩)⟩
end Go.Proofs.YtmdakfmecfcbhaaGreat.Tk
