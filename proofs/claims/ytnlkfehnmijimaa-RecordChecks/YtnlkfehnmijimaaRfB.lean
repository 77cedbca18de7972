/- record: the reader's refs. -/
import Derived.Laws.OwnMore
import Derived.Test.YtnlkfehnmijimaaProg
import Derived.Test.YtnlkfehnmijimaaKit
import Derived.Test.YtnlkfehnmijimaaSpec
import Derived.Test.YtnlkfehnmijimaaReg
import Derived.Test.YtnlkfehnmijimaaReg2
import Derived.Test.YtnlkfehnmijimaaLRow
import Derived.Test.YtnlkfehnmijimaaRcA
import Derived.Test.YtnlkfehnmijimaaRcM
import Derived.Test.YtnlkfehnmijimaaRcN
import Derived.Test.YtnlkfehnmijimaaRcS
import Derived.Test.YtnlkfehnmijimaaRcT
import Derived.Test.YtnlkfehnmijimaaRcU
import Derived.Test.YtnlkfehnmijimaaRcY
import Derived.Test.YtnlkfehnmijimaaRfA
import Derived.BigQuiet
set_option linter.unusedVariables false
set_option linter.unusedSimpArgs false
namespace Go.Proofs.Ytnlkfehnmijimaa.Rc
open Go.RowKit Lb
attribute [local go_sem] bs_size bs_toList bs_append bs_get bs_extract

/-- Blocks of another type stay as they are. -/
def typedKept (e : TypeId) (w w' : World) : Prop := ∀ (k : Nat) (c : Array Value) (t : TypeId) (fr : Nat × Nat), w.heap[k]? = some (.cells c t fr) → e ≠ t → w'.heap[k]? = some (.cells c t fr)
/-- One element more behind a row of the call's own. -/
theorem app_one {w : World} {B T ty e n nb size bytes : Nat} {i0 : TypeInfo} {z v : Value} {xs news : List Value} (hu : Try.prog.underlying T = some (.slice e)) (hi0 : Try.prog.info? e = some i0) (hz0 : i0.zero = some z) (hz1 : i0.size = size) (hz2 : i0.bytes = bytes) (hzs : z.cells.size = size) (hsz : 0 < size)
    (ho : w.ownsRow B e size v n xs) (hnb : w.heap[nb]? = some (.cells news.toArray e (0, 0))) (hnl : news.length = size) (h1 : ∀ u ∈ news, u.oneCell' = true) (hn : n ≤ 1000000) (hby : bytes ≤ 1000) (hB : B ≤ w.heap.size) :
    ∃ ao' cp' w3, (Builtin.append_ #[T, T] ty #[v, .slice (some ⟨nb, 0, none⟩) 1 1]).run Try.prog w = .ok (.slice ao' (n + 1) cp') w3 ∧ w3.ownsRow B e size (.slice ao' (n + 1) cp') (n + 1) (xs ++ news) ∧ Below B w w3 ∧ typedKept e w w3 := by
  obtain ⟨v', w3, hrun, hown3, hgrow, _⟩ := run_append_own (P := Try.prog) w B T ty e i0 z size bytes hu hi0 hz0 hz1 hz2 hzs hsz _ n xs ho ⟨nb, 0, none⟩ 1 1 news (by rw [hnl, Nat.one_mul]) (fun j u hj => by
    have hlt : j < news.length := by
      rcases Nat.lt_or_ge j news.length with h | h
      · exact h
      · rw [List.getElem?_eq_none h] at hj; cases hj
    rw [Addr.add_lit]
    simp only [World.cell?, hnb, Nat.zero_add]
    simpa [List.getElem?_eq_getElem hlt] using hj) h1 (by unfold maxLen; omega) (by
      have : (n + 1) * bytes ≤ 1000001 * 1000 := Nat.mul_le_mul (by omega) hby
      omega) hB
  obtain ⟨ao', cp', rfl⟩ := own_shape hown3
  exact ⟨ao', cp', w3, hrun, hown3, (Below.refl B w).grown hgrow hB (fun k hk => (ho.lt k hk).1), fun k c t fr h ht => grown_block hgrow h (own_apart ho h ht)⟩
theorem KI.typed {b : Nat} {w w' : World} (h : KI b w w') {k : Nat} {c : Array Value} {t : TypeId} {fr : Nat × Nat} (hk : w.heap[k]? = some (.cells c t fr)) (hn : k ≠ b) : w'.heap[k]? = some (.cells c t fr) := h.get hk hn
/-- Below Z nothing has turned but block b. -/
def KZ (Z b : Nat) (w w' : World) : Prop := w'.os = w.os ∧ w'.tape = w.tape ∧ w'.output = w.output ∧ w.heap.size ≤ w'.heap.size ∧ ∀ k, k < Z → k ≠ b → w'.heap[k]? = w.heap[k]?
theorem KZ.refl (Z b : Nat) (w : World) : KZ Z b w w := ⟨rfl, rfl, rfl, Nat.le_refl _, fun _ _ _ => rfl⟩
theorem KZ.trans {Z b : Nat} {a c d : World} (h : KZ Z b a c) (k : KZ Z b c d) : KZ Z b a d :=
  ⟨k.1.trans h.1, k.2.1.trans h.2.1, k.2.2.1.trans h.2.2.1, Nat.le_trans h.2.2.2.1 k.2.2.2.1, fun i hi hn => (k.2.2.2.2 i hi hn).trans (h.2.2.2.2 i hi hn)⟩
theorem KI.kz {b : Nat} {w w' : World} (h : KI b w w') {Z : Nat} (hZ : Z ≤ w.heap.size) : KZ Z b w w' := ⟨h.os, h.tape, h.output, h.size, fun k hk hn => h.block k (Nat.lt_of_lt_of_le hk hZ) hn⟩
theorem belowKZ {Z : Nat} {w w' : World} (h : Below Z w w') (b : Nat) : KZ Z b w w' := ⟨h.os, h.tape, h.output, h.size, fun k hk _ => h.block k hk⟩
theorem KZ.ki {b : Nat} {w w' : World} (h : KZ w.heap.size b w w') : KI b w w' := ⟨h.1, h.2.1, h.2.2.1, h.2.2.2.1, h.2.2.2.2⟩
theorem KZ.setNew {Z b : Nat} {w w' : World} (h : KZ Z b w w') {g : Nat} (hg : Z ≤ g) (i : Nat) (u : Value) : KZ Z b w (w'.setCell ⟨g, i, none⟩ u) :=
  ⟨h.1, h.2.1, h.2.2.1, by simpa [World.setCell] using h.2.2.2.1, fun k hk hn => (Below.heap_setCell _ _ _ _ (by show k ≠ g; omega)).trans (h.2.2.2.2 k hk hn)⟩
theorem typedKept.own {e : TypeId} {w w' : World} (h : typedKept e w w') {B f s n : Nat} {v : Value} {xs : List Value} (ho : w.ownsRow B f s v n xs) (hne : e ≠ f) : w'.ownsRow B f s v n xs := by
  refine ⟨ho.1, ?_⟩
  rcases ho.2 with h1 | ⟨g, cap, cur, h0, h1, h2, h3⟩
  · exact .inl h1
  · exact .inr ⟨g, cap, cur, h0, h1, h g _ _ _ h2 hne, h3⟩
theorem KI.own {b : Nat} {w w' : World} (h : KI b w w') {B f s n : Nat} {v : Value} {xs : List Value} (ho : w.ownsRow B f s v n xs) (hb : v.ownBlock ≠ some b) : w'.ownsRow B f s v n xs :=
  own_keep ho fun g hg => h.block g (ho.lt g hg).2 (fun e => hb (by rw [hg, e]))

/-- What gave up within a statement. -/
def gaveQ (P : Prop) (Z b : Nat) (w : World) (ch : List PanicEntry) (w2 : World) : Prop := P ∧ (∃ E : Nat, E ≠ 0 ∧ Ending.panicked ch = gaveUp E) ∧ KZ Z b w w2
/-- A label, as it is read. -/
def cutL (s : List UInt8) : Option (Lab × List UInt8) := bindO (cutT s) fun n s1 => mapO (fun v => (n, v)) (cutT s1)
theorem cutT_len {s t r : List UInt8} (h : cutT s = some (t, r)) : r.length ≤ s.length := by have := cutT_lt h; omega
theorem cutL_lt {s r : List UInt8} {x : Lab} (h : cutL s = some (x, r)) : r.length < s.length ∧ x.1.length ≤ s.length ∧ x.2.length ≤ s.length := by
  unfold cutL bindO at h
  cases h1 : cutT s with
  | none => rw [h1] at h; cases h
  | some p =>
    obtain ⟨n, s1⟩ := p
    rw [h1] at h
    simp only [Option.bind_some] at h
    obtain ⟨v, hv, rfl⟩ := mapO_some h
    have := cutT_lt h1
    have := cutT_lt hv
    exact ⟨by omega, by show n.length ≤ _; omega, by show v.length ≤ _; omega⟩
/-- A ref that is being read: its number, its labels so far, and what is not read yet. -/
def inRef (Z b xb pb : Nat) (r : Int) (k : Nat) (st : List Lab × List UInt8) (w : World) : Prop :=
  Z ≤ w.heap.size ∧ st.2.length ≤ 140737488355328 ∧ st.1.length ≤ k ∧ InAt w b st.2 ∧ w.heap[pb]? = some (.cells #[.pointer (some ⟨b, 0, none⟩)] 88 (0, 0)) ∧
    ∃ v, w.heap[xb]? = some (.cells #[.int .i64 r, v] 53 (0, 0)) ∧ ownLabels w Z v st.1
def stepL (st : List Lab × List UInt8) : Option (List Lab × List UInt8) := mapO (fun x => st.1 ++ [x]) (cutL st.2)

theorem infoLab : (Try.prog.info? 60).map (fun i => (i.zero, i.size, i.bytes)) = some (some (.agg #[.string ByteArray.empty, .string ByteArray.empty]), 2, 32) := by kernel_rfl
/-- What holds while a label is read: ahead of the two texts, behind each, ahead of the append, and behind it. -/
def labJ (w : World) (Z b xb pb : Nat) (r : Int) (ls : List Lab) (s s1 s2 : List UInt8) (x : Lab) (v : Value) (q1 q2 qn : Bool) (xn : Value) (qa : Bool) (xa : Value) (w' : World) : Prop :=
  KZ Z b w w' ∧ Z ≤ w'.heap.size ∧ w'.heap[pb]? = some (.cells #[.pointer (some ⟨b, 0, none⟩)] 88 (0, 0)) ∧ w'.heap[xb]? = some (.cells #[.int .i64 r, v] 53 (0, 0)) ∧
    InAt w' b (if q2 = true then s2 else if q1 = true then s1 else s) ∧ (qa = false → ownLabels w' Z v ls) ∧ (qn = true → qa = false → ∃ nb, xn = .slice (some ⟨nb, 0, none⟩) 1 1 ∧ w'.heap[nb]? = some (.cells #[.string (bs x.1), .string (bs x.2)] 60 (0, 0))) ∧ (qa = true → ownLabels w' Z xa (ls ++ [x]))
end Go.Proofs.Ytnlkfehnmijimaa.Rc
