/- 3 texts in one. -/
import Derived.WalkKit
import Derived.WalkSpells
import Derived.WalkLawsBesides
import Derived.Lib.AppendStr
set_option linter.unusedVariables false
set_option linter.unusedSimpArgs false
namespace Go.Proofs.YtkaeogldielkfaaGreat
open Go.RowKit
theorem ret_int {k : IntKind} {a b : Int} (h : a = b) : Ending.returned (.int k a) = .returned (.int k b) := by rw [h]
theorem ret_bool {a b : Bool} (h : a = b) : Ending.returned (.bool a) = .returned (.bool b) := by rw [h]
theorem hide {p : Prop} (h : p) : Hid p := h
/-- A string by its bytes. -/
def bs (l : List UInt8) : ByteArray := ⟨l.toArray⟩
theorem bs_size (l : List UInt8) : (bs l).size = l.length := by simp [bs, ByteArray.size]
theorem bs_toList (l : List UInt8) : (bs l).toList = l := by simp [bs]
theorem bs_data (l : List UInt8) : (bs l).data.toList = l := by simp [bs]
theorem bs_append (a b : List UInt8) : bs a ++ bs b = bs (a ++ b) := by simp [bs, ByteArray.mk_append_mk]
theorem bs_surj (s : ByteArray) : s = bs s.data.toList := by simp [bs]
theorem bs_get (l : List UInt8) (i : Nat) (h : i < (bs l).size) : (bs l)[i] = l[i]'(by simpa [bs_size] using h) := by simp [bs]; rfl
theorem bs_extract (l : List UInt8) (a b : Nat) : (bs l).extract a b = bs ((l.drop a).take (b - a)) := ByteArray.extract_mk l a b
/-- Bytes as cells. -/
def bytesV (l : List UInt8) : List Value := l.map fun b => .int .u8 (b.toNat : Int)
theorem bytesV_length (l : List UInt8) : (bytesV l).length = l.length := by simp [bytesV]
theorem bytesV_append (a b : List UInt8) : bytesV (a ++ b) = bytesV a ++ bytesV b := by simp [bytesV]
theorem bytesV_one (b : UInt8) : bytesV [b] = [.int .u8 (b.toNat : Int)] := rfl
theorem bytesV_oneCell (l : List UInt8) : ∀ u ∈ bytesV l, u.oneCell' = true := by
  intro u hu
  obtain ⟨_, _, rfl⟩ := List.mem_map.1 hu
  rfl
theorem strCells_bs (l : List UInt8) : Lib.strCells (bs l) = bytesV l := by
  simp [Lib.strCells, bytesV, bs]
/-- What the call owns as bytes, as a string. -/
theorem run_bytesStr {P : Program} {w : World} {src dst e : TypeId} {base : Nat} {v : Value} {l : List UInt8} (hs : P.underlying src = some (.slice e)) (he : P.underlying e = some (.int .u8)) (hd : P.underlying dst = some .string)
    (hown : w.ownsRow base e 1 v l.length (bytesV l)) : (convert src dst v).run P w = .ok (.string (bs l)) w := by
  have hc : ∀ g, v.ownBlock = some g → ∀ j u, (bytesV l)[j]? = some u → w.cell? ((⟨g, 0, none⟩ : Addr).add j) = some u := fun g hg => hown.cells hg
  rcases hown.2 with ⟨rfl, h0⟩ | ⟨g, cap, cur, rfl, _⟩
  · have : l = [] := List.eq_nil_of_length_eq_zero h0
    subst this
    exact run_convert_bytes_nil w src e hs he 0 0 dst hd
  · have h := run_convert_bytes_arg (P := P) w src e hs he g 0 l.length cap (l.map fun b => (b.toNat : Int)) (by simp) (fun i hi => by
      have := hc g rfl i (.int .u8 (l[i].toNat : Int)) (by simp [bytesV, hi])
      rw [Addr.add_lit] at this
      rw [this]
      simp [List.getD, hi]) dst hd
    rw [h]
    congr 2
    simp [strOfNums, bs, Function.comp_def]
/-- A byte's cell that has just been laid. -/
theorem bcell (w : World) (t : TypeId) (c : Int) (b : UInt8) (hc : (b.toNat : Int) = c) : ∀ j u, (bytesV [b])[j]? = some u → (w.alloc (.cells #[.int .u8 c] t)).cell? ((⟨w.heap.size, 0, none⟩ : Addr).add j) = some u := by
  intro j u hu
  subst hc
  match j, hu with
  | 0, hu =>
    simp [bytesV] at hu
    subst hu
    simp [Addr.add]
/-- A string of one byte, out of a slice that has just been laid. -/
theorem run_oneByte {P : Program} (w : World) {src dst e : TypeId} (hs : P.underlying src = some (.slice e)) (he : P.underlying e = some (.int .u8)) (hd : P.underlying dst = some .string) (t : TypeId) (c : Int) (b : UInt8) (hc : (b.toNat : Int) = c) :
    (convert src dst (.slice (some ⟨w.heap.size, 0, none⟩) 1 1)).run P (w.alloc (.cells #[.int .u8 c] t)) = .ok (.string (bs [b])) (w.alloc (.cells #[.int .u8 c] t)) := by
  subst hc
  have h := run_convert_bytes_arg (P := P) (w.alloc (.cells #[.int .u8 (b.toNat : Int)] t)) src e hs he w.heap.size 0 1 1 [(b.toNat : Int)] rfl (fun i hi => by
    obtain rfl : i = 0 := by omega
    simp) dst hd
  rw [h]
  simp [strOfNums, bs]
theorem own_shape {w : World} {base e size n : Nat} {v : Value} {xs : List Value} (h : w.ownsRow base e size v n xs) : ∃ ao cp, v = .slice ao n cp := by
  rcases h.2 with ⟨rfl, h0⟩ | ⟨g, cap, cur, rfl, _⟩
  · exact ⟨none, 0, by rw [h0]⟩
  · exact ⟨_, _, rfl⟩
/-- A row is no block of another element type. -/
theorem own_apart {w : World} {base e size n b : Nat} {v : Value} {xs : List Value} (h : w.ownsRow base e size v n xs) {c : Array Value} {t : TypeId} {fr : Nat × Nat} (hb : w.heap[b]? = some (.cells c t fr)) (ht : e ≠ t) : v.ownBlock ≠ some b := by
  rcases h.2 with ⟨rfl, h0⟩ | ⟨g, cap, cur, rfl, _, hg, _⟩
  · simp [Value.ownBlock]
  · intro e
    simp [Value.ownBlock] at e
    subst e
    rw [hg] at hb
    simp at hb
    exact ht hb.2.1
theorem grown_block {w w' : World} {row : Option Nat} (h : w.grownBy w' row) {b : Nat} {o : Obj} (hb : w.heap[b]? = some o) (hne : row ≠ some b) : w'.heap[b]? = some o := by
  rw [h.block b (lt_of_block hb) (fun e => hne e.symm)]; exact hb
theorem below_block {B : Nat} {w w' : World} (h : Below B w w') {b : Nat} {o : Obj} (hb : w.heap[b]? = some o) (hlt : b < B) : w'.heap[b]? = some o := by
  rw [h.block b hlt]; exact hb
theorem ofNat_toNat (n : Nat) (h : n < 256) : (((UInt8.ofNat n).toNat : Nat) : Int) = (n : Int) := by
  simp; omega
/-- Only new blocks have come. -/
def Grow (w w' : World) : Prop := Below w.heap.size w w'
theorem Grow.refl (w : World) : Grow w w := Below.refl _ _
theorem Grow.trans {a b c : World} (h : Grow a b) (k : Grow b c) : Grow a c := Below.trans h (Below.mono k h.size)
theorem Grow.alloc {w w' : World} (h : Grow w w') (o : Obj) : Grow w (w'.alloc o) := Below.alloc h h.size o
theorem Grow.undrew {w w' : World} (h : Grow w.drew w') : Below w.heap.size w w' := ⟨h.os, h.tape, h.output, h.size, h.block⟩
theorem Grow.get {w w' : World} (h : Grow w w') {b : Nat} {o : Obj} (hb : w.heap[b]? = some o) : w'.heap[b]? = some o := below_block h hb (lt_of_block hb)
section
variable {P : Program} {ops : Array Oper}
def dstOf (ops : Array Oper) (i : Nat) : Option Tmp := (ops[i]?).bind (·.dst)
def slotOf (ops : Array Oper) (a : Act) (i : Nat) : Value := match dstOf ops i with | some d => a.tmps.getD d undef | none => undef
/-- What an operation waits for. -/
def edgesB (ops : Array Oper) (i : Nat) : List Nat := ((ops[i]?).map fun o => (o.after.toList.filter fun e => Region.binds .any e).map (·.on)).getD []
/-- Does operation k stand before i, by whatever steps? -/
def ancB (ops : Array Oper) : Nat → Nat → Nat → Bool
  | 0, _, _ => false
  | f + 1, i, k => (edgesB ops i).contains k || (edgesB ops i).any fun j => ancB ops f j k
/-- The first m operations are free, those behind them forced. -/
def freeB (ops : Array Oper) (m size : Nat) : Bool :=
  decide (m ≤ ops.size) &&
  (List.range ops.size).all (fun i => (edgesB ops i).all fun k => decide (k < i)) &&
  (List.range m).all (fun i => match dstOf ops i with | some d => decide (d < size) && (List.range i).all (fun k => dstOf ops k != some d) | none => false) &&
  (decide (m = ops.size) || (List.range m).all fun k => ancB ops m m k) &&
  (List.range ops.size).all (fun j => decide (j ≤ m) || (edgesB ops j).contains (j - 1))
theorem mem_edgesB {i k : Nat} {o : Oper} (ho : ops[i]? = some o) : k ∈ edgesB ops i ↔ ∃ e ∈ o.after, Region.binds .any e = true ∧ e.on = k := by
  simp [edgesB, ho, and_assoc]
theorem ready_iff {i : Nat} {listed : Array Bool} : i ∈ Region.ready .any ops listed ↔ listed.getD i true = false ∧ i < ops.size ∧ ∀ k ∈ edgesB ops i, listed.getD k false = true := by
  rw [mem_ready]
  constructor
  · rintro ⟨h0, o, ho, h⟩
    refine ⟨h0, (Array.getElem?_eq_some_iff.1 ho).1, fun k hk => ?_⟩
    obtain ⟨e, he, hb, rfl⟩ := (mem_edgesB ho).1 hk
    exact h e he hb
  · rintro ⟨h0, hlt, h⟩
    have ho : ops[i]? = some ops[i] := Array.getElem?_eq_getElem hlt
    exact ⟨h0, _, ho, fun e he hb => h _ ((mem_edgesB ho).2 ⟨e, he, hb, rfl⟩)⟩
/-! ### what has been yielded lies over the frame -/
def over (ops : Array Oper) (L : Nat → Bool) (vals : Nat → Value) : Nat → Act → Act
  | 0, a => a
  | m + 1, a => if L m then (over ops L vals m a).put (dstOf ops m) (vals m) else over ops L vals m a
theorem put_defers' (a : Act) (x : Option Tmp) (v : Value) : (a.put x v).defers = a.defers := by cases x <;> rfl
theorem put_size (a : Act) (x : Option Tmp) (v : Value) : (a.put x v).tmps.size = a.tmps.size := by cases x <;> simp [Act.put]
theorem put_getD_ne (a : Act) (x : Option Tmp) (v : Value) (t : Nat) (h : x ≠ some t) : (a.put x v).tmps.getD t undef = a.tmps.getD t undef := by
  cases x with
  | none => rfl
  | some d =>
    have hne : d ≠ t := fun e => h (by rw [e])
    simp [Act.put, Array.getElem?_setIfInBounds_ne hne]
theorem put_getD_same (a : Act) (d : Nat) (v : Value) (h : d < a.tmps.size) : (a.put (some d) v).tmps.getD d undef = v := by
  simp [Act.put, h]
theorem over_congr {L L' : Nat → Bool} {vals vals' : Nat → Value} (a : Act) : ∀ m, (∀ k, k < m → L k = L' k) → (∀ k, k < m → vals k = vals' k) → over ops L vals m a = over ops L' vals' m a
  | 0, _, _ => rfl
  | m + 1, h1, h2 => by simp only [over]; rw [over_congr a m (fun k hk => h1 k (by omega)) (fun k hk => h2 k (by omega)), h1 m (by omega), h2 m (by omega)]
theorem over_put {L : Nat → Bool} {vals : Nat → Value} (a : Act) (i : Nat) (v : Value) (hL : L i = false) : ∀ m, i < m → (∀ k, k < m → k ≠ i → ∀ d, dstOf ops i = some d → dstOf ops k ≠ some d) →
    over ops (fun k => if k = i then true else L k) (fun k => if k = i then v else vals k) m a = (over ops L vals m a).put (dstOf ops i) v
  | 0, h, _ => by omega
  | m + 1, h, hd => by
    by_cases e : i = m
    · subst e
      simp only [over, if_true, hL, Bool.false_eq_true, if_false]
      rw [over_congr (L' := L) (vals' := vals) a i (fun k hk => by simp [show k ≠ i by omega]) (fun k hk => by simp [show k ≠ i by omega])]
    · have ih := over_put (L := L) (vals := vals) a i v hL m (by omega) (fun k hk hn => hd k (by omega) hn)
      simp only [over, ih, show m ≠ i from fun h => e h.symm, if_false]
      split
      · rw [Act.put_comm _ v (vals m) (hd m (by omega) (fun h => e h.symm))]
      · rfl
theorem over_off {L : Nat → Bool} {vals : Nat → Value} (a : Act) (t : Nat) : ∀ m, (∀ k, k < m → dstOf ops k ≠ some t) → (over ops L vals m a).tmps.getD t undef = a.tmps.getD t undef
  | 0, _ => rfl
  | m + 1, h => by
    simp only [over]
    split
    · rw [put_getD_ne _ _ _ _ (h m (by omega))]; exact over_off a t m (fun k hk => h k (by omega))
    · exact over_off a t m (fun k hk => h k (by omega))
theorem over_size {L : Nat → Bool} {vals : Nat → Value} (a : Act) : ∀ m, (over ops L vals m a).tmps.size = a.tmps.size
  | 0 => rfl
  | m + 1 => by simp only [over]; split <;> simp [put_size, over_size a m]
theorem over_defers {L : Nat → Bool} {vals : Nat → Value} (a : Act) : ∀ m, (over ops L vals m a).defers = a.defers
  | 0 => rfl
  | m + 1 => by simp only [over]; split <;> simp [put_defers', over_defers a m]
theorem over_at {L : Nat → Bool} {vals : Nat → Value} (a : Act) (i d : Nat) (hL : L i = true) (hi : dstOf ops i = some d) (hs : d < a.tmps.size) : ∀ m, i < m → (∀ k, k < m → k ≠ i → dstOf ops k ≠ some d) →
    (over ops L vals m a).tmps.getD d undef = vals i
  | 0, h, _ => by omega
  | m + 1, h, hd => by
    simp only [over]
    by_cases e : i = m
    · subst e
      rw [if_pos hL, hi, put_getD_same _ _ _ (by rw [over_size]; exact hs)]
    · have ih := over_at (vals := vals) a i d hL hi hs m (by omega) (fun k hk hn => hd k (by omega) hn)
      split
      · rw [put_getD_ne _ _ _ _ (hd m (by omega) (fun h => e h.symm))]; exact ih
      · exact ih
/-! ### what one operation comes to -/
def opYields (P : Program) (ops : Array Oper) (o : Oper) (a : Act) (w : World) (QP : List PanicEntry → World → Prop) (R : Value → World → Prop) : Prop :=
  if Region.wanted o (yielded ops a.tmps) then
    match (execOp a.eval o).run P w with
    | .ok (.value v) w' => R v w'
    | .ok .skip w' => R undef w'
    | .ok (.enter f args) w' => Calls P f args w' fun e w'' => match e with | .returned v => R v w'' | .panicked ch => QP ch w'' | .outgrown => False
    | _ => False
  else R undef w
theorem wpOp_of_yields {Q : Exit → Act → World → Prop} {i : Nat} {o : Oper} {a : Act} {w : World} {K : Act → World → Prop} {QP : List PanicEntry → World → Prop} {R : Value → World → Prop} (ho : ops[i]? = some o)
    (h : opYields P ops o a w QP R) (hK : ∀ v w', R v w' → K (a.put o.dst v) w') (hP : ∀ ch w', QP ch w' → Q (.panic ch) a w') : wpOp P ops Q i K a w := by
  unfold wpOp
  simp only [ho]
  unfold opYields at h
  split
  · rename_i hw
    rw [if_pos hw] at h
    refine .inl ?_
    unfold Oper.wp
    generalize (execOp a.eval o).run P w = r at *
    cases r with
    | ok n w' =>
      cases n <;> simp only [Oper.upon] at h ⊢
      case value v => exact hK _ _ h
      case skip => exact hK _ _ h
      case enter f args =>
        refine h.mono fun e w'' he => ?_
        cases e with
        | returned v => exact hK _ _ he
        | panicked ch => exact hP _ _ he
        | outgrown => exact he.elim
    | halt x w' => cases x <;> simp only at h
  · rename_i hw
    rw [if_neg hw] at h
    exact hK _ _ h
/-! ### the forced end -/
theorem wpAny_forced {Q : Exit → Act → World → Prop} {m size : Nat} (hB : freeB ops m size = true) : ∀ (fuel j : Nat) (listed : Array Bool) (a : Act) (w : World), m ≤ j → j + fuel = ops.size → listed.size = ops.size → (∀ k, k < ops.size → (listed.getD k false = decide (k < j))) →
    wpList P ops Q (ops.toList.drop j) a w → wpAny P .any ops Q fuel listed a w := by
  simp only [freeB, Bool.and_eq_true, List.all_eq_true, List.mem_range, decide_eq_true_eq, Bool.or_eq_true, List.contains_iff_mem] at hB
  obtain ⟨⟨⟨⟨h1, h2⟩, h3⟩, h4⟩, h5⟩ := hB
  intro fuel
  induction fuel with
  | zero =>
    intro j listed a w hj hn hs hl h
    have hd : ops.toList.drop j = [] := List.drop_eq_nil_of_le (by simp; omega)
    rw [hd] at h
    refine ⟨?_, h⟩
    apply List.eq_nil_iff_forall_not_mem.2
    intro i hi
    obtain ⟨h0, hlt, _⟩ := ready_iff.1 hi
    have e : listed.getD i true = listed.getD i false := by simp [Array.getD, hs, hlt]
    rw [e, hl i hlt] at h0
    simp at h0
    omega
  | succ fuel ih =>
    intro j listed a w hj hn hs hl h
    have hjlt : j < ops.size := by omega
    have hrd : ∀ i, i ∈ Region.ready .any ops listed ↔ i = j := by
      intro i
      rw [ready_iff]
      constructor
      · rintro ⟨h0, hlt, hall⟩
        have e : listed.getD i true = listed.getD i false := by simp [Array.getD, hs, hlt]
        have hge : ¬ i < j := by
          rw [e, hl i hlt] at h0
          simpa using h0
        by_cases e : i = j
        · exact e
        · have hmem := (h5 i hlt).resolve_left (by omega)
          have := hall _ hmem
          rw [hl _ (by omega)] at this
          simp at this
          omega
      · rintro rfl
        refine ⟨?_, hjlt, fun k hk => ?_⟩
        · have := hl i hjlt
          simp [Array.getD, hs, hjlt] at this ⊢
          omega
        · have hlt := h2 i hjlt k hk
          rw [hl k (by omega)]
          simp; omega
    refine ⟨fun h0 => ?_, fun i hi => ?_⟩
    · have := (hrd j).2 rfl
      rw [h0] at this
      cases this
    · rw [hrd] at hi
      subst hi
      have ho : ops[i]? = some ops[i] := Array.getElem?_eq_getElem hjlt
      have hdrop : ops.toList.drop i = ops[i] :: ops.toList.drop (i + 1) := by
        rw [List.drop_eq_getElem_cons (by simpa using hjlt)]; simp
      rw [hdrop] at h
      have hnext : ∀ a w, wpList P ops Q (ops.toList.drop (i + 1)) a w → wpAny P .any ops Q fuel (listed.setIfInBounds i true) a w := fun a w hh =>
        ih (i + 1) _ a w (by omega) (by omega) (by simpa using hs) (fun k hk => by
          by_cases e : k = i
          · subst e; simp [hs, hjlt]
          · rw [getD_set_ne false (fun h => e h.symm), hl k hk]
            simp only [decide_eq_decide]; omega) hh
      unfold wpOp
      simp only [ho]
      unfold wpList at h
      split
      · rename_i hw
        rw [if_pos hw] at h
        exact h.imp (Oper.wp_mono hnext) id
      · rename_i hw
        rw [if_neg hw] at h
        exact hnext _ _ h
/-! ### how many are not yet listed -/
theorem countP_upd {p p' : Nat → Bool} {i : Nat} : ∀ (l : List Nat), l.Nodup → i ∈ l → p i = true → p' i = false → (∀ k, k ≠ i → p' k = p k) → l.countP p = l.countP p' + 1
  | [], _, h, _, _, _ => by cases h
  | x :: l, hnd, h, hp, hp', hk => by
    rw [List.nodup_cons] at hnd
    by_cases e : x = i
    · subst e
      have : l.countP p = l.countP p' := by
        apply List.countP_congr
        intro k hkl
        rw [hk k (fun e => hnd.1 (e ▸ hkl))]
      rw [List.countP_cons, List.countP_cons, hp, hp', this]
      simp
    · have hm : i ∈ l := by
        cases h with
        | head => exact absurd rfl e
        | tail _ h => exact h
      rw [List.countP_cons, List.countP_cons, hk x e, countP_upd l hnd.2 hm hp hp' hk]
      omega
/-! ### the free operations -/
theorem anc_listed {listed : Array Bool} (hcl : ∀ i, listed.getD i false = true → ∀ k ∈ edgesB ops i, listed.getD k false = true) : ∀ (f i k : Nat), (∀ j ∈ edgesB ops i, listed.getD j false = true) → ancB ops f i k = true → listed.getD k false = true
  | 0, _, _, _, h => by simp [ancB] at h
  | f + 1, i, k, hi, h => by
    simp only [ancB, Bool.or_eq_true, List.contains_iff_mem, List.any_eq_true] at h
    rcases h with h | ⟨j, hj, h⟩
    · exact hi k h
    · exact anc_listed hcl f j k (hcl j (hi j hj)) h
theorem wpAny_free {Q : Exit → Act → World → Prop} {a0 : Act} {w0 : World} (m : Nat) (hB : freeB ops m a0.tmps.size = true)
    (G : World → World → Prop) (hGt : ∀ a b c, G a b → G b c → G a c)
    (Φ : Nat → Value → World → Prop) (hst : ∀ i v w w', Φ i v w → G w w' → Φ i v w')
    (QP : List PanicEntry → World → Prop) (hQP : ∀ ch a w, a.defers = a0.defers → QP ch w → Q (.panic ch) a w)
    (hcond : ∀ i, i < m → ∀ o, ops[i]? = some o → ∀ a w, G w0 w → (∀ t, (∀ k, k < m → dstOf ops k ≠ some t) → a.tmps.getD t undef = a0.tmps.getD t undef) → (∀ k ∈ edgesB ops i, Φ k (slotOf ops a k) w) → opYields P ops o a w QP fun v w' => G w w' ∧ Φ i v w')
    (hend : ∀ (vals : Nat → Value) w, G w0 w → (∀ i, i < m → Φ i (vals i) w) → wpList P ops Q (ops.toList.drop m) (over ops (fun _ => true) vals m a0) w) :
    ∀ (fuel : Nat) (listed : Array Bool) (vals : Nat → Value) (w : World), listed.size = ops.size → (List.range ops.size).countP (fun k => !listed.getD k false) = fuel →
      (∀ i, m ≤ i → listed.getD i false = false) → (∀ i, listed.getD i false = true → ∀ k ∈ edgesB ops i, listed.getD k false = true) → G w0 w → (∀ i, i < m → listed.getD i false = true → Φ i (vals i) w) →
      wpAny P .any ops Q fuel listed (over ops (fun k => listed.getD k false) vals m a0) w := by
  have hB' := hB
  simp only [freeB, Bool.and_eq_true, List.all_eq_true, List.mem_range, decide_eq_true_eq, Bool.or_eq_true, List.contains_iff_mem] at hB
  obtain ⟨⟨⟨⟨h1, h2⟩, h3⟩, h4⟩, h5⟩ := hB
  have hdst : ∀ i, i < m → ∃ d, dstOf ops i = some d ∧ d < a0.tmps.size ∧ ∀ k, k < m → k ≠ i → dstOf ops k ≠ some d := by
    intro i hi
    have hh := h3 i hi
    cases hd : dstOf ops i with
    | none => rw [hd] at hh; simp at hh
    | some d =>
      rw [hd] at hh
      simp only [Bool.and_eq_true, decide_eq_true_eq, List.all_eq_true, List.mem_range, bne_iff_ne] at hh
      refine ⟨d, rfl, hh.1, fun k hk hne => ?_⟩
      rcases Nat.lt_or_gt_of_ne hne with hlt | hgt
      · exact hh.2 k hlt
      · intro e
        have hk' := h3 k hk
        rw [e] at hk'
        simp only [Bool.and_eq_true, decide_eq_true_eq, List.all_eq_true, List.mem_range, bne_iff_ne] at hk'
        exact hk'.2 i hgt hd
  intro fuel
  induction fuel with
  | zero =>
    intro listed vals w hs hc hge hcl hG hΦ
    have hall : ∀ k, k < ops.size → listed.getD k false = true := by
      intro k hk
      rw [List.countP_eq_zero] at hc
      have := hc k (by simpa using hk)
      simpa using this
    have hmn : m = ops.size := by
      rcases Nat.lt_or_ge m ops.size with h | h
      · have := hall m h
        rw [hge m (Nat.le_refl _)] at this
        cases this
      · omega
    refine wpAny_forced hB' 0 m listed _ w (Nat.le_refl _) (by omega) hs (fun k hk => by rw [hall k hk]; simp; omega) ?_
    rw [over_congr (L' := fun _ => true) (vals' := vals) a0 m (fun k hk => hall k (by omega)) (fun _ _ => rfl)]
    exact hend vals w hG fun i hi => hΦ i hi (hall i (by omega))
  | succ fuel ih =>
    intro listed vals w hs hc hge hcl hG hΦ
    by_cases hall : ∀ k, k < m → listed.getD k false = true
    · refine wpAny_forced hB' (fuel + 1) m listed _ w (Nat.le_refl _) ?_ hs (fun k hk => ?_) ?_
      · have hcount : (List.range ops.size).countP (fun k => !listed.getD k false) = (List.range ops.size).countP (fun k => decide (m ≤ k)) := by
          apply List.countP_congr
          intro k hk
          by_cases h : k < m
          · simp [hall k h, h]
          · have := hge k (by omega)
            simp [this]; omega
        have hsplit : ∀ n, m ≤ n → (List.range n).countP (fun k => decide (m ≤ k)) = n - m := by
          intro n
          induction n with
          | zero => intro h; simp
          | succ n ihn =>
            intro h
            rw [List.range_succ, List.countP_append]
            by_cases h' : m ≤ n
            · rw [ihn h']; simp [h']; omega
            · have e : m = n + 1 := by omega
              have : (List.range n).countP (fun k => decide (m ≤ k)) = 0 := by
                rw [List.countP_eq_zero]
                intro k hk
                simp at hk ⊢; omega
              rw [this]; simp [h']; omega
        rw [hcount, hsplit _ h1] at hc
        omega
      · by_cases h : k < m
        · rw [hall k h]; simp [h]
        · rw [hge k (by omega)]; simp [h]
      · rw [over_congr (L' := fun _ => true) (vals' := vals) a0 m (fun k hk => hall k hk) (fun _ _ => rfl)]
        exact hend vals w hG fun i hi => hΦ i hi (hall i hi)
    · -- one that is ready is among the first m
      have hlow : ∀ i, i ∈ Region.ready .any ops listed → i < m := by
        intro i hi
        obtain ⟨h0, hlt, he⟩ := ready_iff.1 hi
        rcases Nat.lt_or_ge i m with h | h
        · exact h
        · exfalso
          by_cases e : i = m
          · subst e
            rcases h4 with h4 | h4
            · omega
            · exact hall fun k hk => anc_listed hcl i i k he (h4 k hk)
          · have hmem := (h5 i hlt).resolve_left (by omega)
            have := he _ hmem
            rw [hge _ (by omega)] at this
            cases this
      have hfull : ∀ i, i < ops.size → listed.getD i true = listed.getD i false := fun i hi => by simp [Array.getD, hs, hi]
      refine ⟨fun h0 => ?_, fun i hi => ?_⟩
      · exfalso
        -- the least that is not listed is ready
        have hex : ∃ k, k < m ∧ listed.getD k false = false := by
          rcases Classical.em (∃ k, k < m ∧ listed.getD k false = false) with h | h
          · exact h
          · exfalso
            apply hall
            intro k hk
            cases hv : listed.getD k false with
            | true => rfl
            | false => exact absurd ⟨k, hk, hv⟩ h
        have least : ∀ n, (∃ k, k < n ∧ k < m ∧ listed.getD k false = false) → ∃ k, k < m ∧ listed.getD k false = false ∧ ∀ j, j < k → listed.getD j false = true := by
          intro n
          induction n with
          | zero => rintro ⟨k, hk, _⟩; omega
          | succ n ihn =>
            rintro ⟨k, hk, hkm, hv⟩
            by_cases h : ∃ k, k < n ∧ k < m ∧ listed.getD k false = false
            · exact ihn h
            · refine ⟨k, hkm, hv, fun j hj => ?_⟩
              cases hvj : listed.getD j false with
              | true => rfl
              | false => exact absurd ⟨j, by omega, by omega, hvj⟩ h
        obtain ⟨k, hk, hv⟩ := hex
        obtain ⟨k, hk, hv, hle⟩ := least m ⟨k, hk, hk, hv⟩
        have : k ∈ Region.ready .any ops listed := ready_iff.2 ⟨by rw [hfull k (by omega)]; exact hv, by omega, fun j hj => hle j (h2 k (by omega) j hj)⟩
        rw [h0] at this
        cases this
      · have him := hlow i hi
        obtain ⟨h0, hlt, he⟩ := ready_iff.1 hi
        rw [hfull i hlt] at h0
        have ho : ops[i]? = some ops[i] := Array.getElem?_eq_getElem hlt
        obtain ⟨d, hd, hds, hdn⟩ := hdst i him
        have hdo : ops[i].dst = dstOf ops i := by simp [dstOf, ho]
        refine wpOp_of_yields ho (hcond i him _ ho _ w hG (fun t ht => over_off a0 t m ht) (fun k hk => ?_)) (fun v w' ⟨hg, hp⟩ => ?_) (fun ch w' hq => hQP ch _ w' (over_defers a0 m) hq)
        · have hki := h2 i hlt k hk
          obtain ⟨d', hd', hds', hdn'⟩ := hdst k (by omega)
          have hLk := he k hk
          have := over_at (vals := vals) (L := fun k => listed.getD k false) a0 k d' hLk hd' hds' m (by omega) hdn'
          simp only [slotOf, hd', this]
          exact hΦ k (by omega) hLk
        · have hL : (fun k => (listed.setIfInBounds i true).getD k false) = fun k => if k = i then true else listed.getD k false := by
            funext k
            by_cases e : k = i
            · subst e; simp [hs, hlt]
            · rw [getD_set_ne false (fun h => e h.symm), if_neg e]
          rw [hdo, ← over_put a0 i v h0 m him (fun k hk hn d2 h2' => by rw [hd] at h2'; cases h2'; exact hdn k hk hn), ← hL]
          refine ih (listed.setIfInBounds i true) (fun k => if k = i then v else vals k) w' (by simpa using hs) ?_ ?_ ?_ (hGt _ _ _ hG hg) ?_
          · have := countP_upd (p := fun k => !listed.getD k false) (p' := fun k => !(listed.setIfInBounds i true).getD k false) (List.range ops.size) List.nodup_range (by simpa using hlt) (by simp [h0]) (by simp [hs, hlt]) (fun k hk => by rw [getD_set_ne false (fun h => hk h.symm)])
            omega
          · intro k hk
            rw [getD_set_ne false (by omega)]
            exact hge k hk
          · intro k hk j hj
            by_cases e : k = i
            · subst e
              exact getD_set_true (he j hj)
            · rw [getD_set_ne false (fun h => e h.symm)] at hk
              exact getD_set_true (hcl k hk j hj)
          · intro k hk hLk
            by_cases e : k = i
            · subst e; simp only [if_true]; exact hp
            · rw [getD_set_ne false (fun h => e h.symm)] at hLk
              simp only [e, if_false]
              exact hst _ _ _ _ (hΦ k hk hLk) hg
/-- A region that draws its order. -/
theorem wp_region_free {id : Nat} {l : List Oper} {Q : Exit → Act → World → Prop} {a0 : Act} {w0 : World} (m sz : Nat) (hm : P.follows .mixedOrders = true) (hsz : a0.tmps.size = sz) (hB : freeB l.toArray m sz = true)
    (G : World → World → Prop) (hGt : ∀ a b c, G a b → G b c → G a c) (hG0 : G w0.drew w0.drew)
    (Φ : Nat → Value → World → Prop) (hst : ∀ i v w w', Φ i v w → G w w' → Φ i v w')
    (QP : List PanicEntry → World → Prop) (hQP : ∀ ch a w, a.defers = a0.defers → QP ch w → Q (.panic ch) a w)
    (hcond : ∀ i, i < m → ∀ o, l.toArray[i]? = some o → ∀ a w, G w0.drew w → (∀ t, (∀ k, k < m → dstOf l.toArray k ≠ some t) → a.tmps.getD t undef = a0.tmps.getD t undef) → (∀ k ∈ edgesB l.toArray i, Φ k (slotOf l.toArray a k) w) → opYields P l.toArray o a w QP fun v w' => G w w' ∧ Φ i v w')
    (hend : ∀ (vals : Nat → Value) w, G w0.drew w → (∀ i, i < m → Φ i (vals i) w) → wpList P l.toArray Q (l.drop m) (over l.toArray (fun _ => true) vals m a0) w) :
    (Code.region id l.toArray true).wp P Q a0 w0 := by
  subst hsz
  refine wp_region_any hm ?_
  have h := wpAny_free (P := P) (ops := l.toArray) (Q := Q) (a0 := a0) (w0 := w0.drew) m hB G hGt Φ hst QP hQP hcond (by simpa using hend) l.toArray.size (Array.replicate l.toArray.size false) (fun _ => undef) w0.drew (by simp)
    (by
      rw [List.countP_eq_length.2]
      · simp
      · intro k hk
        simp [Array.getD])
    (by intro i _; simp [Array.getD])
    (by intro i hi; simp [Array.getD] at hi) hG0 (by intro i _ hi; simp [Array.getD] at hi)
  have e : over l.toArray (fun k => (Array.replicate l.toArray.size false).getD k false) (fun _ => undef) m a0 = a0 := by
    have : ∀ m, over l.toArray (fun k => (Array.replicate l.toArray.size false).getD k false) (fun _ => undef) m a0 = a0 := by
      intro m
      induction m with
      | zero => rfl
      | succ m ih =>
        simp only [over]
        rw [if_neg (by simp [Array.getD]), ih]
    exact this m
  rw [e] at h
  exact h
end
section
variable {P : Program} {ops : Array Oper}
theorem wpAny_state {Q : Exit → Act → World → Prop} {a0 : Act} {w0 : World} (m : Nat) (hB : freeB ops m a0.tmps.size = true)
    (J : (Nat → Bool) → (Nat → Value) → World → Prop)
    (Φ : Nat → Value → Prop)
    (QP : List PanicEntry → World → Prop) (hQP : ∀ ch a w, a.defers = a0.defers → QP ch w → Q (.panic ch) a w)
    (hcond : ∀ i, i < m → ∀ o, ops[i]? = some o → ∀ a w (L : Nat → Bool) (vals : Nat → Value), L i = false → (∀ k, L k = true → ∀ j ∈ edgesB ops k, L j = true) → (∀ j ∈ edgesB ops i, L j = true) → J L vals w → (∀ t, (∀ k, k < m → dstOf ops k ≠ some t) → a.tmps.getD t undef = a0.tmps.getD t undef) → (∀ k ∈ edgesB ops i, slotOf ops a k = vals k) → (∀ k ∈ edgesB ops i, Φ k (slotOf ops a k)) → opYields P ops o a w QP fun v w' => J (fun k => decide (k = i) || L k) (fun k => if k = i then v else vals k) w' ∧ Φ i v)
    (hend : ∀ (vals : Nat → Value) w (L : Nat → Bool), (∀ i, i < m → L i = true) → J L vals w → (∀ i, i < m → Φ i (vals i)) → wpList P ops Q (ops.toList.drop m) (over ops (fun _ => true) vals m a0) w) :
    ∀ (fuel : Nat) (listed : Array Bool) (vals : Nat → Value) (w : World), listed.size = ops.size → (List.range ops.size).countP (fun k => !listed.getD k false) = fuel →
      (∀ i, m ≤ i → listed.getD i false = false) → (∀ i, listed.getD i false = true → ∀ k ∈ edgesB ops i, listed.getD k false = true) → J (fun k => listed.getD k false) vals w → (∀ i, i < m → listed.getD i false = true → Φ i (vals i)) →
      wpAny P .any ops Q fuel listed (over ops (fun k => listed.getD k false) vals m a0) w := by
  have hB' := hB
  simp only [freeB, Bool.and_eq_true, List.all_eq_true, List.mem_range, decide_eq_true_eq, Bool.or_eq_true, List.contains_iff_mem] at hB
  obtain ⟨⟨⟨⟨h1, h2⟩, h3⟩, h4⟩, h5⟩ := hB
  have hdst : ∀ i, i < m → ∃ d, dstOf ops i = some d ∧ d < a0.tmps.size ∧ ∀ k, k < m → k ≠ i → dstOf ops k ≠ some d := by
    intro i hi
    have hh := h3 i hi
    cases hd : dstOf ops i with
    | none => rw [hd] at hh; simp at hh
    | some d =>
      rw [hd] at hh
      simp only [Bool.and_eq_true, decide_eq_true_eq, List.all_eq_true, List.mem_range, bne_iff_ne] at hh
      refine ⟨d, rfl, hh.1, fun k hk hne => ?_⟩
      rcases Nat.lt_or_gt_of_ne hne with hlt | hgt
      · exact hh.2 k hlt
      · intro e
        have hk' := h3 k hk
        rw [e] at hk'
        simp only [Bool.and_eq_true, decide_eq_true_eq, List.all_eq_true, List.mem_range, bne_iff_ne] at hk'
        exact hk'.2 i hgt hd
  intro fuel
  induction fuel with
  | zero =>
    intro listed vals w hs hc hge hcl hG hΦ
    have hall : ∀ k, k < ops.size → listed.getD k false = true := by
      intro k hk
      rw [List.countP_eq_zero] at hc
      have := hc k (by simpa using hk)
      simpa using this
    have hmn : m = ops.size := by
      rcases Nat.lt_or_ge m ops.size with h | h
      · have := hall m h
        rw [hge m (Nat.le_refl _)] at this
        cases this
      · omega
    refine wpAny_forced hB' 0 m listed _ w (Nat.le_refl _) (by omega) hs (fun k hk => by rw [hall k hk]; simp; omega) ?_
    rw [over_congr (L' := fun _ => true) (vals' := vals) a0 m (fun k hk => hall k (by omega)) (fun _ _ => rfl)]
    exact hend vals w _ (fun i hi => hall i (by omega)) hG fun i hi => hΦ i hi (hall i (by omega))
  | succ fuel ih =>
    intro listed vals w hs hc hge hcl hG hΦ
    by_cases hall : ∀ k, k < m → listed.getD k false = true
    · refine wpAny_forced hB' (fuel + 1) m listed _ w (Nat.le_refl _) ?_ hs (fun k hk => ?_) ?_
      · have hcount : (List.range ops.size).countP (fun k => !listed.getD k false) = (List.range ops.size).countP (fun k => decide (m ≤ k)) := by
          apply List.countP_congr
          intro k hk
          by_cases h : k < m
          · simp [hall k h, h]
          · have := hge k (by omega)
            simp [this]; omega
        have hsplit : ∀ n, m ≤ n → (List.range n).countP (fun k => decide (m ≤ k)) = n - m := by
          intro n
          induction n with
          | zero => intro h; simp
          | succ n ihn =>
            intro h
            rw [List.range_succ, List.countP_append]
            by_cases h' : m ≤ n
            · rw [ihn h']; simp [h']; omega
            · have e : m = n + 1 := by omega
              have : (List.range n).countP (fun k => decide (m ≤ k)) = 0 := by
                rw [List.countP_eq_zero]
                intro k hk
                simp at hk ⊢; omega
              rw [this]; simp [h']; omega
        rw [hcount, hsplit _ h1] at hc
        omega
      · by_cases h : k < m
        · rw [hall k h]; simp [h]
        · rw [hge k (by omega)]; simp [h]
      · rw [over_congr (L' := fun _ => true) (vals' := vals) a0 m (fun k hk => hall k hk) (fun _ _ => rfl)]
        exact hend vals w _ (fun i hi => hall i hi) hG fun i hi => hΦ i hi (hall i hi)
    · -- one that is ready is among the first m
      have hlow : ∀ i, i ∈ Region.ready .any ops listed → i < m := by
        intro i hi
        obtain ⟨h0, hlt, he⟩ := ready_iff.1 hi
        rcases Nat.lt_or_ge i m with h | h
        · exact h
        · exfalso
          by_cases e : i = m
          · subst e
            rcases h4 with h4 | h4
            · omega
            · exact hall fun k hk => anc_listed hcl i i k he (h4 k hk)
          · have hmem := (h5 i hlt).resolve_left (by omega)
            have := he _ hmem
            rw [hge _ (by omega)] at this
            cases this
      have hfull : ∀ i, i < ops.size → listed.getD i true = listed.getD i false := fun i hi => by simp [Array.getD, hs, hi]
      refine ⟨fun h0 => ?_, fun i hi => ?_⟩
      · exfalso
        -- the least that is not listed is ready
        have hex : ∃ k, k < m ∧ listed.getD k false = false := by
          rcases Classical.em (∃ k, k < m ∧ listed.getD k false = false) with h | h
          · exact h
          · exfalso
            apply hall
            intro k hk
            cases hv : listed.getD k false with
            | true => rfl
            | false => exact absurd ⟨k, hk, hv⟩ h
        have least : ∀ n, (∃ k, k < n ∧ k < m ∧ listed.getD k false = false) → ∃ k, k < m ∧ listed.getD k false = false ∧ ∀ j, j < k → listed.getD j false = true := by
          intro n
          induction n with
          | zero => rintro ⟨k, hk, _⟩; omega
          | succ n ihn =>
            rintro ⟨k, hk, hkm, hv⟩
            by_cases h : ∃ k, k < n ∧ k < m ∧ listed.getD k false = false
            · exact ihn h
            · refine ⟨k, hkm, hv, fun j hj => ?_⟩
              cases hvj : listed.getD j false with
              | true => rfl
              | false => exact absurd ⟨j, by omega, by omega, hvj⟩ h
        obtain ⟨k, hk, hv⟩ := hex
        obtain ⟨k, hk, hv, hle⟩ := least m ⟨k, hk, hk, hv⟩
        have : k ∈ Region.ready .any ops listed := ready_iff.2 ⟨by rw [hfull k (by omega)]; exact hv, by omega, fun j hj => hle j (h2 k (by omega) j hj)⟩
        rw [h0] at this
        cases this
      · have him := hlow i hi
        obtain ⟨h0, hlt, he⟩ := ready_iff.1 hi
        rw [hfull i hlt] at h0
        have ho : ops[i]? = some ops[i] := Array.getElem?_eq_getElem hlt
        obtain ⟨d, hd, hds, hdn⟩ := hdst i him
        have hdo : ops[i].dst = dstOf ops i := by simp [dstOf, ho]
        refine wpOp_of_yields ho (hcond i him _ ho _ w (fun k => listed.getD k false) vals h0 hcl he hG (fun t ht => over_off a0 t m ht) (fun k hk => ?_) (fun k hk => ?_)) (fun v w' ⟨hJJ, hp⟩ => ?_) (fun ch w' hq => hQP ch _ w' (over_defers a0 m) hq)
        · have hki := h2 i hlt k hk
          obtain ⟨d', hd', hds', hdn'⟩ := hdst k (by omega)
          have hLk := he k hk
          have := over_at (vals := vals) (L := fun k => listed.getD k false) a0 k d' hLk hd' hds' m (by omega) hdn'
          simp only [slotOf, hd', this]
        · have hki := h2 i hlt k hk
          obtain ⟨d', hd', hds', hdn'⟩ := hdst k (by omega)
          have hLk := he k hk
          have := over_at (vals := vals) (L := fun k => listed.getD k false) a0 k d' hLk hd' hds' m (by omega) hdn'
          simp only [slotOf, hd', this]
          exact hΦ k (by omega) hLk
        · have hL : (fun k => (listed.setIfInBounds i true).getD k false) = fun k => if k = i then true else listed.getD k false := by
            funext k
            by_cases e : k = i
            · subst e; simp [hs, hlt]
            · rw [getD_set_ne false (fun h => e h.symm), if_neg e]
          rw [hdo, ← over_put a0 i v h0 m him (fun k hk hn d2 h2' => by rw [hd] at h2'; cases h2'; exact hdn k hk hn), ← hL]
          refine ih (listed.setIfInBounds i true) (fun k => if k = i then v else vals k) w' (by simpa using hs) ?_ ?_ ?_ (by
            have e : (fun k => (listed.setIfInBounds i true).getD k false) = fun k => decide (k = i) || listed.getD k false := by
              rw [hL]
              funext k
              by_cases e : k = i <;> simp [e]
            rw [e]
            exact hJJ) ?_
          · have := countP_upd (p := fun k => !listed.getD k false) (p' := fun k => !(listed.setIfInBounds i true).getD k false) (List.range ops.size) List.nodup_range (by simpa using hlt) (by simp [h0]) (by simp [hs, hlt]) (fun k hk => by rw [getD_set_ne false (fun h => hk h.symm)])
            omega
          · intro k hk
            rw [getD_set_ne false (by omega)]
            exact hge k hk
          · intro k hk j hj
            by_cases e : k = i
            · subst e
              exact getD_set_true (he j hj)
            · rw [getD_set_ne false (fun h => e h.symm)] at hk
              exact getD_set_true (hcl k hk j hj)
          · intro k hk hLk
            by_cases e : k = i
            · subst e; simp only [if_true]; exact hp
            · rw [getD_set_ne false (fun h => e h.symm)] at hLk
              simp only [e, if_false]
              exact hΦ k hk hLk
/-- A region that draws its order. -/
theorem wp_region_state {id : Nat} {l : List Oper} {Q : Exit → Act → World → Prop} {a0 : Act} {w0 : World} (m sz : Nat) (hm : P.follows .mixedOrders = true) (hsz : a0.tmps.size = sz) (hB : freeB l.toArray m sz = true)
    (J : (Nat → Bool) → (Nat → Value) → World → Prop) (hG0 : ∀ L vals, (∀ i, L i = false) → J L vals w0.drew)
    (Φ : Nat → Value → Prop)
    (QP : List PanicEntry → World → Prop) (hQP : ∀ ch a w, a.defers = a0.defers → QP ch w → Q (.panic ch) a w)
    (hcond : ∀ i, i < m → ∀ o, l.toArray[i]? = some o → ∀ a w (L : Nat → Bool) (vals : Nat → Value), L i = false → (∀ k, L k = true → ∀ j ∈ edgesB l.toArray k, L j = true) → (∀ j ∈ edgesB l.toArray i, L j = true) → J L vals w → (∀ t, (∀ k, k < m → dstOf l.toArray k ≠ some t) → a.tmps.getD t undef = a0.tmps.getD t undef) → (∀ k ∈ edgesB l.toArray i, slotOf l.toArray a k = vals k) → (∀ k ∈ edgesB l.toArray i, Φ k (slotOf l.toArray a k)) → opYields P l.toArray o a w QP fun v w' => J (fun k => decide (k = i) || L k) (fun k => if k = i then v else vals k) w' ∧ Φ i v)
    (hend : ∀ (vals : Nat → Value) w (L : Nat → Bool), (∀ i, i < m → L i = true) → J L vals w → (∀ i, i < m → Φ i (vals i)) → wpList P l.toArray Q (l.drop m) (over l.toArray (fun _ => true) vals m a0) w) :
    (Code.region id l.toArray true).wp P Q a0 w0 := by
  subst hsz
  refine wp_region_any hm ?_
  have h := wpAny_state (P := P) (ops := l.toArray) (Q := Q) (a0 := a0) (w0 := w0.drew) m hB J Φ QP hQP hcond (by simpa using hend) l.toArray.size (Array.replicate l.toArray.size false) (fun _ => undef) w0.drew (by simp)
    (by
      rw [List.countP_eq_length.2]
      · simp
      · intro k hk
        simp [Array.getD])
    (by intro i _; simp [Array.getD])
    (by intro i hi; simp [Array.getD] at hi) (hG0 _ _ (fun i => by simp [Array.getD])) (by intro i _ hi; simp [Array.getD] at hi)
  have e : over l.toArray (fun k => (Array.replicate l.toArray.size false).getD k false) (fun _ => undef) m a0 = a0 := by
    have : ∀ m, over l.toArray (fun k => (Array.replicate l.toArray.size false).getD k false) (fun _ => undef) m a0 = a0 := by
      intro m
      induction m with
      | zero => rfl
      | succ m ih =>
        simp only [over]
        rw [if_neg (by simp [Array.getD]), ih]
    exact this m
  rw [e] at h
  exact h
/-- An append among them. -/
theorem yields_append {o : Oper} {a : Act} {w : World} {QP : List PanicEntry → World → Prop} {R : Value → World → Prop} (hgd : o.guard = none) (s x : Operand) (t u : TypeId)
    (ho : o.op = .call { callee := .builtin .append, args := #[s, x], argTypes := #[t, u] }) {v1 v2 v' : Value} {w' : World} (hs : a.eval s = v1) (hx : a.eval x = v2)
    (hr : (Builtin.append_ #[t, u] o.type #[v1, v2]).run P w = .ok v' w') (h : R v' w') : opYields P ops o a w QP R := by
  unfold opYields
  rw [if_pos (by simp [Region.wanted, hgd])]
  unfold execOp
  simp only [ho, resolve, invoke, builtin, Sem.run_bind, Sem.run_pure, Result.andThen_ok, List.map_toArray, List.map_cons, List.map_nil, hs, hx, hr]
  exact h
end
end Go.Proofs.YtkaeogldielkfaaGreat
