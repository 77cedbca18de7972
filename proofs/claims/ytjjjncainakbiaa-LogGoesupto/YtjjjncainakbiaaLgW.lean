/- The writer of package log, and Append. -/
import Derived.Test.YtjjjncainakbiaaProg
import Derived.Test.YtjjjncainakbiaaKit
import Derived.Test.YtjjjncainakbiaaLgS
import Derived.Test.YtjjjncainakbiaaLgC
import Derived.Test.YtjjjncainakbiaaLgZ
import Derived.Test.YtjjjncainakbiaaLgP
import Derived.BigQuiet
import Derived.Lib.AppendStr
import Derived.OneCell
set_option linter.unusedVariables false
set_option linter.unusedSimpArgs false
namespace Go.Proofs.Ytjjjncainakbiaa.Lg
open Go.RowKit
attribute [local go_sem] bs_size bs_toList bs_append bs_get bs_extract

theorem Try.info5l : (Try.prog.info? 5).map (fun i => (i.zero, i.size, i.bytes)) = some (some (.int .u8 0), 1, 1) := by kernel_rfl
theorem Try.mixed3 : Try.prog.follows .mixedOrders = true := by kernel_rfl

theorem left_any (at' : Nat) (w : World) (h : at' ≤ 9223372036854775807) :
    Calls Try.prog 28 #[.int .i64 at'] w fun e w' => e = .returned (.int .i64 ((128 - at' % 128 : Nat) : Int)) ∧ w' = w := by
  go_enter Try.func28, Try.ntmps28
  go_wp2
  go_ret
  exact ⟨ret_int (by omega), rfl⟩
theorem left_any_i (a : Int) (at' : Nat) (w : World) (h : at' ≤ 9223372036854775807) (ha : a = at') :
    Calls Try.prog 28 #[.int .i64 a] w fun e w' => e = .returned (.int .i64 ((128 - at' % 128 : Nat) : Int)) ∧ w' = w := by
  subst ha; exact left_any at' w h

def kindN (first last : Bool) : Nat := if first then (if last then 1 else 2) else (if last then 4 else 3)
theorem kindOf_any (f l : Bool) (w : World) :
    Calls Try.prog 30 #[.bool f, .bool l] w fun e w' => e = .returned (.int .u8 (kindN f l : Nat)) ∧ w' = w := by
  cases f <;> cases l
  all_goals
    go_enter Try.func30, Try.ntmps30
    go_wp2
    go_ret
    exact ⟨rfl, rfl⟩

/-- Block b is a writer that holds the bytes l; its row is among the blocks from B on. -/
def holdsL (w : World) (B b frm : Nat) (l : List UInt8) : Prop :=
  B ≤ w.heap.size ∧ ∃ v, w.heap[b]? = some (.cells #[.int .i64 frm, v] 46 (0, 0)) ∧ w.ownsRow B 5 1 v l.length (bytesV l)
theorem lgTwo {w : World} {b : Nat} {x y : Value} {t : TypeId} (h : w.heap[b]? = some (.cells #[x, y] t (0, 0))) : w.cell? ⟨b, 0, none⟩ = some x ∧ w.cell? ⟨b, 1, none⟩ = some y ∧ w.frozen? ⟨b, 0, none⟩ = false ∧ w.frozen? ⟨b, 1, none⟩ = false := by simp [World.cell?, World.frozen?, h]
theorem lgSet {w : World} {b i : Nat} {c : Array Value} {t : TypeId} {fr : Nat × Nat} (h : w.heap[b]? = some (.cells c t fr)) (u : Value) : (w.setCell ⟨b, i, none⟩ u).heap[b]? = some (.cells (c.setIfInBounds i u) t fr) := by
  have hlt := lt_of_block h
  have h' : w.heap[b] = .cells c t fr := by simpa [Array.getElem?_eq_getElem hlt] using h
  show (w.heap.modify b _)[b]? = _
  rw [Array.getElem?_eq_getElem (by simpa using hlt), Array.getElem_modify_self, h']
  rfl
/-- Nothing has turned below block B, but for block b. -/
structure KeptB (B b : Nat) (w w' : World) : Prop where
  os : w'.os = w.os
  tape : w'.tape = w.tape
  output : w'.output = w.output
  size : w.heap.size ≤ w'.heap.size
  block : ∀ k, k < B → k ≠ b → w'.heap[k]? = w.heap[k]?
theorem KeptB.refl (B b : Nat) (w : World) : KeptB B b w w := ⟨rfl, rfl, rfl, Nat.le_refl _, fun _ _ _ => rfl⟩
theorem KeptB.trans {B b : Nat} {a c d : World} (h : KeptB B b a c) (k : KeptB B b c d) : KeptB B b a d :=
  ⟨k.os.trans h.os, k.tape.trans h.tape, k.output.trans h.output, Nat.le_trans h.size k.size, fun i hi hn => (k.block i hi hn).trans (h.block i hi hn)⟩
theorem keptB_of {B b : Nat} {w w' : World} (h : Below B w w') : KeptB B b w w' := ⟨h.os, h.tape, h.output, h.size, fun k hk _ => h.block k hk⟩
theorem KeptB.below {B b A : Nat} {w w' : World} (h : KeptB B b w w') (h1 : A ≤ B) (h2 : A ≤ b) : Below A w w' := ⟨h.os, h.tape, h.output, h.size, fun k hk => h.block k (by omega) (by omega)⟩
theorem KeptB.setCell {B b : Nat} {w w' : World} (h : KeptB B b w w') (i : Nat) (v : Value) : KeptB B b w (w'.setCell ⟨b, i, none⟩ v) :=
  ⟨h.os, h.tape, h.output, by simpa [World.setCell] using h.size, fun k hk hn => (Below.heap_setCell _ _ _ _ hn).trans (h.block k hk hn)⟩
theorem holdsL_le {w : World} {B b frm : Nat} {l : List UInt8} (h : holdsL w B b frm l) : B ≤ w.heap.size := h.1
theorem holdsL_drew {w : World} {B b frm : Nat} {l : List UInt8} (h : holdsL w B b frm l) (n : Nat) : holdsL (w.drewN n) B b frm l := h

set_option maxRecDepth 20000 in
theorem logAt_any (w : World) (B b frm : Nat) (l : List UInt8) (hh : holdsL w B b frm l) (hl : l.length ≤ 1000000) (hf : frm ≤ 281474976710656) :
    Calls Try.prog 22 #[.pointer (some ⟨b, 0, none⟩)] w fun e w' => ∃ n, e = .returned (.int .i64 ((frm + l.length : Nat) : Int)) ∧ w' = w.drewN n := by
  obtain ⟨hB, v, hb, hown⟩ := hh
  obtain ⟨c0, c1, z0, z1⟩ := lgTwo hb
  obtain ⟨ao, cp, rfl⟩ := own_shape hown
  clear hb hown
  go_enter Try.func22, Try.ntmps22
  go_wp2
  go_quiet (fail)
  go_wp2
  go_ret
  exact ⟨_, ret_int (by omega), rfl⟩

/-- What a writer's method does: it writes some bytes. -/
def put (B b frm : Nat) (l out : List UInt8) (w : World) (e : Ending) (w' : World) : Prop :=
  KeptB B b w w' ∧ e = .returned (.tuple #[]) ∧ holdsL w' B b frm (l ++ out)

set_option maxRecDepth 20000 in
set_option maxHeartbeats 400000 in
theorem logNoughts_any (w : World) (B b frm : Nat) (l : List UInt8) (hh : holdsL w B b frm l) (hl : l.length ≤ 1000000) (hf : frm ≤ 281474976710656) :
    Calls Try.prog 27 #[.pointer (some ⟨b, 0, none⟩)] w (put B b frm l (padL (frm + l.length)) w) := by
  obtain ⟨i0, hi, hz0, hz1, hz2⟩ := info_parts Try.info5l
  have HH := hide hh
  go_enter Try.func27, Try.ntmps27
  go_wp2_with fail
  refine (logAt_any w B b frm l HH.out hl hf).mono ?_
  rintro e w1 ⟨n, rfl, rfl⟩
  go_wp2_with fail
  refine (left_any_i _ (frm + l.length) _ (by omega) (by omega)).mono ?_
  rintro e w1 ⟨rfl, rfl⟩
  have HK : Hid (KeptB B b w (w.drewN n)) := hide ⟨rfl, rfl, rfl, Nat.le_refl _, fun _ _ _ => rfl⟩
  have hh2 := holdsL_drew HH.out n
  generalize w.drewN n = w1 at *
  obtain ⟨k, hk⟩ : ∃ k, k = 128 - (frm + l.length) % 128 := ⟨_, rfl⟩
  have HP := hide (show padL (frm + l.length) = if k < 7 then List.replicate k 0 else [] from by rw [hk]; rfl)
  rw [← hk]
  have hk0 : 0 < k := by omega
  clear hk
  by_cases hk7 : k < 7
  · obtain ⟨hB, v, hb, hown⟩ := hh2
    obtain ⟨c0, c1, z0, z1⟩ := lgTwo hb
    have hne := own_apart hown hb (by decide)
    obtain ⟨ao, cp, rfl⟩ := own_shape hown
    have HB := hide hb
    clear hb
    go_wp2_with (at_builtin; refine wpList_append_own_zeros rfl _ _ 44 3 rfl B 5 i0 Try.underlying44 Try.underlying3 hi hz0 hz1 hz2 _ l.length (bytesV l) rfl hown k rfl hk0 (by omega) (by omega) hB ?_; intro v' w2 hown' hgrow; obtain ⟨ao', cp', rfl⟩ := own_shape hown'; have hb2 := grown_block hgrow HB.out hne; obtain ⟨d0, d1, y0, y1⟩ := lgTwo hb2; clear c0 c1 z0 z1)
    go_end0
    have hbel : Below B w1 w2 := (Below.refl B w1).grown hgrow (by omega) (fun k hk => (hown.lt k hk).1)
    refine ⟨(HK.out.trans (keptB_of hbel)).setCell _ _, rfl, by have := hbel.size; simp [World.setCell]; omega, _, lgSet hb2 _, ?_⟩
    rw [HP.out, if_pos hk7, bytesV_append, List.length_append, List.length_replicate]
    exact ownsRow_setCell_other hown' (own_apart hown' hb2 (by decide)) _
  · go_wp2
    go_end0
    refine ⟨HK.out, rfl, ?_⟩
    rw [HP.out, if_neg hk7, List.append_nil]
    exact hh2

end Go.Proofs.Ytjjjncainakbiaa.Lg
