/- The packer's elements. -/
import Derived.Test.YtmdakfmecfcbhaaGreatProg
import Derived.Test.YtmdakfmecfcbhaaGreatKit
import Derived.Test.YtmdakfmecfcbhaaGreatSpec
import Derived.Test.YtmdakfmecfcbhaaGreatSpec2
import Derived.Test.YtmdakfmecfcbhaaGreatReg
import Derived.Test.YtmdakfmecfcbhaaGreatWWri
import Derived.Test.YtmdakfmecfcbhaaGreatRdB
import Derived.Test.YtmdakfmecfcbhaaGreatRdC
import Derived.Test.YtmdakfmecfcbhaaGreatUnB
import Derived.Test.YtmdakfmecfcbhaaGreatRowG
set_option linter.unusedVariables false
set_option linter.unusedSimpArgs false
namespace Go.Proofs.YtmdakfmecfcbhaaGreat
open Go.RowKit
attribute [local go_sem] bs_size bs_toList bs_append bs_get bs_extract

/-- A packer in a block. -/
def pkRow (w : World) (B pb : Nat) (s : List UInt8) (m : Value) (p : List UInt8) : Prop :=
  B ≤ w.heap.size ∧ ∃ v, w.heap[pb]? = some (.cells #[.string (bs s), m, v] 70 (0, 0)) ∧ rowG w B v p

/-- An element of bytes as they are. -/
def plainE (l : List UInt8) : List UInt8 :=
  if l.length = 0 then [] else if l.length - 1 < 60 then UInt8.ofNat ((l.length - 1) * 4) :: l else if l.length - 1 < 256 then 240 :: UInt8.ofNat (l.length - 1) :: l else 244 :: UInt8.ofNat (l.length - 1) :: UInt8.ofNat ((l.length - 1) / 256) :: l

theorem one_arr (n : Nat) (x : Int) (h : x = ((n % 256 : Nat) : Int)) : (#[Value.int .u8 x] : Array Value).toList = bytesV [UInt8.ofNat n] := by
  subst h
  simp [bytesV]
theorem two_arr (n1 n2 : Nat) (x y : Int) (h1 : x = ((n1 % 256 : Nat) : Int)) (h2 : y = ((n2 % 256 : Nat) : Int)) : (#[Value.int .u8 x, Value.int .u8 y] : Array Value).toList = bytesV [UInt8.ofNat n1, UInt8.ofNat n2] := by
  subst h1; subst h2
  simp [bytesV]
theorem three_arr (n1 n2 n3 : Nat) (x y z : Int) (h1 : x = ((n1 % 256 : Nat) : Int)) (h2 : y = ((n2 % 256 : Nat) : Int)) (h3 : z = ((n3 % 256 : Nat) : Int)) : (#[Value.int .u8 x, Value.int .u8 y, Value.int .u8 z] : Array Value).toList = bytesV [UInt8.ofNat n1, UInt8.ofNat n2, UInt8.ofNat n3] := by
  subst h1; subst h2; subst h3
  simp [bytesV]
theorem byteV (n : Nat) (x : Int) (h : x = ((n % 256 : Nat) : Int)) : Value.int .u8 x = .int .u8 ((UInt8.ofNat n).toNat : Int) := by
  subst h
  simp

/-- Bytes more, in the row that a call owns: as the walk has it. -/
theorem append_bytes {W : World} {v : Value} {ops : Array Oper} {rest : List Oper} {o : Oper} {a : Act} {Q : Exit → Act → World → Prop} (hgd : o.guard = none) (s x : Operand)
    (ho : o.op = .call { callee := .builtin .append, args := #[s, x], argTypes := #[63, 63] })
    (base pb : Nat) (st : ByteArray) (mv : Value) (hpb : W.heap[pb]? = some (.cells #[.string st, mv, v] 70 (0, 0))) (d c : List UInt8) (arr : Array Value) (m : Nat) (hm : m = c.length) (hs : a.eval s = v) (hown : rowG W base v d) (hx : a.eval x = .slice (some ⟨W.heap.size, 0, none⟩) m m)
    (hlen : d.length + c.length ≤ 1000000) (hbase : base ≤ W.heap.size)
    (h : arr.toList = bytesV c ∧ ∀ ao cp n w', Hid (n = (d ++ c).length) → n ≤ 1000000 → w'.heap[pb]? = some (.cells #[.string st, mv, v] 70 (0, 0)) → (w'.setCell ⟨pb, 2, none⟩ (.slice ao n cp)).heap[pb]? = some (.cells #[.string st, mv, .slice ao n cp] 70 (0, 0)) → rowG (w'.setCell ⟨pb, 2, none⟩ (.slice ao n cp)) base (.slice ao n cp) (d ++ c) → KeptX base pb W (w'.setCell ⟨pb, 2, none⟩ (.slice ao n cp)) → base ≤ (w'.setCell ⟨pb, 2, none⟩ (.slice ao n cp)).heap.size → wpList Tryz.prog ops Q rest (a.put o.dst (.slice ao n cp)) w') :
    wpList Tryz.prog ops Q (o :: rest) a (W.alloc (.cells arr 5)) := by
  subst hm
  obtain ⟨harr, h⟩ := h
  have hb2 : Below base W (W.alloc (.cells arr 5)) := (Below.refl _ _).alloc hbase _
  have hnew := heap_alloc_new W (.cells arr 5)
  have hsz := hb2.size
  have hpb2 := Grow.get ((Grow.refl _).alloc (.cells arr 5)) hpb
  have hown' : rowG (W.alloc (.cells arr 5)) base v d := rowG_keep hown fun g hg => Below.heap_alloc _ _ _ (rowG_lt hown g hg).2
  have hcell : ∀ j u, (bytesV c)[j]? = some u → (W.alloc (.cells arr 5)).cell? ((⟨W.heap.size, 0, none⟩ : Addr).add j) = some u := by
    intro j u hu
    rw [← harr] at hu
    rw [Addr.add_lit]
    simp only [World.cell?, hnew]
    simpa using hu
  generalize (W.alloc (.cells arr 5)) = V at *
  obtain ⟨g, cap, cur, fz, hv, _⟩ := id hown'
  subst hv
  obtain ⟨v', w', hrun, hown2, hgrow⟩ := run_append_G (w := V) o.type hown' ⟨W.heap.size, 0, none⟩ hcell hlen (by omega) c.length
  refine wpList_plain hgd fun K hK => ?_
  unfold Oper.wp execOp
  simp only [ho, resolve, invoke, builtin, Sem.run_bind, Sem.run_pure, Result.andThen_ok, List.map_toArray, List.map_cons, List.map_nil, hs, hx, hrun]
  obtain ⟨ao, cp, rfl⟩ := rowG_shape hown2
  have hbel := hb2.grown hgrow (by omega) (fun k hk => by cases hk; exact (rowG_lt hown' g rfl).1)
  have hpb3 := grown_block hgrow hpb2 (rowG_apart hown' hpb2 (by decide))
  exact hK _ _ (h ao cp _ w' (hide rfl) (by rw [List.length_append]; omega) hpb3 (set_block hpb3 _) (rowG_setCell hown2 (rowG_apart hown2 hpb3 (by decide)) _) ((keptX_of hbel).setAt _ _) (by have := hbel.size; simp [World.setCell]; omega))
theorem append_text {W : World} {v : Value} {ops : Array Oper} {rest : List Oper} {o : Oper} {a : Act} {Q : Exit → Act → World → Prop} (hgd : o.guard = none) (s x : Operand)
    (ho : o.op = .call { callee := .builtin .append, args := #[s, x], argTypes := #[63, 9] })
    (base pb : Nat) (st : ByteArray) (mv : Value) (hpb : W.heap[pb]? = some (.cells #[.string st, mv, v] 70 (0, 0))) (d c : List UInt8) (dn : Nat) (hdn : dn = d.length) (hs : a.eval s = v) (hown : rowG W base v d) (hx : a.eval x = .string (bs c))
    (hlen : d.length + c.length ≤ 1000000) (hbase : base ≤ W.heap.size)
    (h : ∀ ao cp n w', Hid (n = (d ++ c).length) → n ≤ 1000000 → w'.heap[pb]? = some (.cells #[.string st, mv, v] 70 (0, 0)) → (w'.setCell ⟨pb, 2, none⟩ (.slice ao n cp)).heap[pb]? = some (.cells #[.string st, mv, .slice ao n cp] 70 (0, 0)) → rowG (w'.setCell ⟨pb, 2, none⟩ (.slice ao n cp)) base (.slice ao n cp) (d ++ c) → KeptX base pb W (w'.setCell ⟨pb, 2, none⟩ (.slice ao n cp)) → base ≤ (w'.setCell ⟨pb, 2, none⟩ (.slice ao n cp)).heap.size → wpList Tryz.prog ops Q rest (a.put o.dst (.slice ao n cp)) w') :
    wpList Tryz.prog ops Q (o :: rest) a W := by
  obtain ⟨g, cap, cur, fz, hv, _⟩ := id hown
  subst hv
  obtain ⟨v', w', hrun, hown2, hgrow⟩ := run_append_Gs (w := W) (c := c) o.type hown hlen hbase
  refine wpList_plain hgd fun K hK => ?_
  unfold Oper.wp execOp
  simp only [ho, resolve, invoke, builtin, Sem.run_bind, Sem.run_pure, Result.andThen_ok, List.map_toArray, List.map_cons, List.map_nil, hs, hx, hrun]
  obtain ⟨ao, cp, rfl⟩ := rowG_shape hown2
  have hbel := (Below.refl base W).grown hgrow hbase (fun k hk => by cases hk; exact (rowG_lt hown g rfl).1)
  have hpb3 := grown_block hgrow hpb (rowG_apart hown hpb (by decide))
  exact hK _ _ (h ao cp _ w' (hide rfl) (by rw [List.length_append]; omega) hpb3 (set_block hpb3 _) (rowG_setCell hown2 (rowG_apart hown2 hpb3 (by decide)) _) ((keptX_of hbel).setAt _ _) (by have := hbel.size; simp [World.setCell]; omega))

set_option maxRecDepth 20000 in
set_option maxHeartbeats 2000000 in
theorem pkplain_any (w : World) (B pb : Nat) (s l p : List UInt8) (m : Value) (hu : pkRow w B pb s m p) (hl : l.length ≤ 20000) (hp : p.length ≤ 100000) :
    Calls Tryz.prog 71 #[.pointer (some ⟨pb, 0, none⟩), .string (bs l)] w fun e w' => e = .returned (.tuple #[]) ∧ KeptX B pb w w' ∧ pkRow w' B pb s m (p ++ plainE l) := by
  obtain ⟨hB, v, hb, ho⟩ := hu
  obtain ⟨ao, cp, rfl⟩ := rowG_shape ho
  obtain ⟨c0, c1, c2, z0, z1, z2⟩ := three_cells hb
  have HB := hide hb
  have HO := hide ho
  clear hb ho
  go_enter Tryz.func71, Tryz.ntmps71
  by_cases h0 : l.length = 0
  · have e : p ++ plainE l = p := by unfold plainE; rw [if_pos h0, List.append_nil]
    obtain rfl : l = [] := List.eq_nil_of_length_eq_zero h0
    have H0 := hide e
    clear h0 e
    go_wp2
    refine bodyPost_ret (v := .tuple #[]) (by simp [results, Tryz.results71, go_sem]) rfl ?_
    exact ⟨rfl, KeptX.refl _ _ _, by rw [H0.out]; exact ⟨hB, _, HB.out, HO.out⟩⟩
  · have h0' : ((l.length : Int) == 0) = false := beq_eq_false_iff_ne.2 (by omega)
    by_cases h60 : l.length - 1 < 60
    · have h60' : (l.length : Int) - 1 < 60 := by omega
      have hbits : bits .or .i64 (((l.length : Int) - 1) * 4) 0 = (((l.length - 1) * 4 : Nat) : Int) := by
        have h6 := bits_or_i64_nat ((l.length - 1) * 4) 0 (by omega) (by omega)
        rw [Nat.or_zero] at h6
        rw [← h6]
        congr 1
        omega
      have HBits := hide hbits
      clear hbits
      have hlc : p.length + ([UInt8.ofNat ((l.length - 1) * 4)]).length ≤ 1000000 := by simp; omega
      have hE : p ++ plainE l = p ++ [UInt8.ofNat ((l.length - 1) * 4)] ++ l := by unfold plainE; rw [if_neg h0, if_pos h60]; simp
      have HE := hide hE
      have hlc2 : (p ++ [UInt8.ofNat ((l.length - 1) * 4)]).length + l.length ≤ 1000000 := by simp; omega
      clear hE h0
      go_wp2_with (first
        | (at_builtin; refine append_bytes rfl (.tmp 32) (.tmp 37) rfl B pb _ _ HB.out p [UInt8.ofNat ((l.length - 1) * 4)] _ 1 rfl rfl HO.out rfl hlc hB ?_; refine And.intro (by exact one_arr _ _ (by rw [HBits.out]; omega)) ?_; intro ao7 cp7 n7 w7 hn7 hn7l hx7 hx8 hown8 hk8 hs8; obtain ⟨k0, k1, k2, y0, y1, y2⟩ := three_cells hx7; obtain ⟨j0, j1, j2, x0, x1, x2⟩ := three_cells hx8; have HX7 := hide hx7; have HX8 := hide hx8; have HO8 := hide hown8; have HK8 := hide hk8; have HS8 := hide hs8; clear hx7 hx8 hown8 hk8 hs8)
        | (at_builtin; refine append_text rfl (.tmp 59) (.tmp 60) rfl B pb _ _ HX8.out (p ++ [UInt8.ofNat ((l.length - 1) * 4)]) l n7 hn7.out rfl HO8.out rfl hlc2 HS8.out ?_; intro ao9 cp9 n9 w9 hn9 hn9l hx9 hxa hown9 hk9 hs9; obtain ⟨g0, g1, g2, u0, u1, u2⟩ := three_cells hx9; have HXA := hide hxa; have HO9 := hide hown9; have HK9 := hide hk9; have HS9 := hide hs9; clear hxa hown9 hk9 hs9))
      go_end0
      refine ⟨rfl, HK8.out.trans HK9.out, ?_⟩
      rw [HE.out]
      exact ⟨HS9.out, .slice ao9 n9 cp9, HXA.out, HO9.out⟩
    · by_cases h256 : l.length - 1 < 256
      · have h60' : ¬ (l.length : Int) - 1 < 60 := by omega
        have h256' : (l.length : Int) - 1 < 256 := by omega
        have hlc : p.length + ([240, UInt8.ofNat (l.length - 1)]).length ≤ 1000000 := by simp; omega
        have hE : p ++ plainE l = p ++ [240, UInt8.ofNat (l.length - 1)] ++ l := by unfold plainE; rw [if_neg h0, if_neg h60, if_pos h256]; simp
        have HE := hide hE
        have hlc2 : (p ++ [240, UInt8.ofNat (l.length - 1)]).length + l.length ≤ 1000000 := by simp; omega
        clear hE h0
        go_wp2_with (first
          | (at_builtin; refine append_bytes rfl (.tmp 48) (.tmp 51) rfl B pb _ _ HB.out p [240, UInt8.ofNat (l.length - 1)] _ 2 rfl rfl HO.out rfl hlc hB ?_; refine And.intro (by exact two_arr 240 _ _ _ rfl (by omega)) ?_; intro ao7 cp7 n7 w7 hn7 hn7l hx7 hx8 hown8 hk8 hs8; obtain ⟨k0, k1, k2, y0, y1, y2⟩ := three_cells hx7; obtain ⟨j0, j1, j2, x0, x1, x2⟩ := three_cells hx8; have HX7 := hide hx7; have HX8 := hide hx8; have HO8 := hide hown8; have HK8 := hide hk8; have HS8 := hide hs8; clear hx7 hx8 hown8 hk8 hs8)
          | (at_builtin; refine append_text rfl (.tmp 59) (.tmp 60) rfl B pb _ _ HX8.out (p ++ [240, UInt8.ofNat (l.length - 1)]) l n7 hn7.out rfl HO8.out rfl hlc2 HS8.out ?_; intro ao9 cp9 n9 w9 hn9 hn9l hx9 hxa hown9 hk9 hs9; obtain ⟨g0, g1, g2, u0, u1, u2⟩ := three_cells hx9; have HXA := hide hxa; have HO9 := hide hown9; have HK9 := hide hk9; have HS9 := hide hs9; clear hxa hown9 hk9 hs9))
        go_end0
        refine ⟨rfl, HK8.out.trans HK9.out, ?_⟩
        rw [HE.out]
        exact ⟨HS9.out, .slice ao9 n9 cp9, HXA.out, HO9.out⟩
      · have h60' : ¬ (l.length : Int) - 1 < 60 := by omega
        have h256' : ¬ (l.length : Int) - 1 < 256 := by omega
        have hlc : p.length + ([244, UInt8.ofNat (l.length - 1), UInt8.ofNat ((l.length - 1) / 256)]).length ≤ 1000000 := by simp; omega
        have hE : p ++ plainE l = p ++ [244, UInt8.ofNat (l.length - 1), UInt8.ofNat ((l.length - 1) / 256)] ++ l := by unfold plainE; rw [if_neg h0, if_neg h60, if_neg h256]; simp
        have HE := hide hE
        have hlc2 : (p ++ [244, UInt8.ofNat (l.length - 1), UInt8.ofNat ((l.length - 1) / 256)]).length + l.length ≤ 1000000 := by simp; omega
        clear hE h0
        go_wp2_with (first
          | (at_builtin; refine append_bytes rfl (.tmp 15) (.tmp 21) rfl B pb _ _ HB.out p [244, UInt8.ofNat (l.length - 1), UInt8.ofNat ((l.length - 1) / 256)] _ 3 rfl rfl HO.out rfl hlc hB ?_; refine And.intro (by exact three_arr 244 _ _ _ _ _ rfl (by omega) (by omega)) ?_; intro ao7 cp7 n7 w7 hn7 hn7l hx7 hx8 hown8 hk8 hs8; obtain ⟨k0, k1, k2, y0, y1, y2⟩ := three_cells hx7; obtain ⟨j0, j1, j2, x0, x1, x2⟩ := three_cells hx8; have HX7 := hide hx7; have HX8 := hide hx8; have HO8 := hide hown8; have HK8 := hide hk8; have HS8 := hide hs8; clear hx7 hx8 hown8 hk8 hs8)
          | (at_builtin; refine append_text rfl (.tmp 59) (.tmp 60) rfl B pb _ _ HX8.out (p ++ [244, UInt8.ofNat (l.length - 1), UInt8.ofNat ((l.length - 1) / 256)]) l n7 hn7.out rfl HO8.out rfl hlc2 HS8.out ?_; intro ao9 cp9 n9 w9 hn9 hn9l hx9 hxa hown9 hk9 hs9; obtain ⟨g0, g1, g2, u0, u1, u2⟩ := three_cells hx9; have HXA := hide hxa; have HO9 := hide hown9; have HK9 := hide hk9; have HS9 := hide hs9; clear hxa hown9 hk9 hs9))
        go_end0
        refine ⟨rfl, HK8.out.trans HK9.out, ?_⟩
        rw [HE.out]
        exact ⟨HS9.out, .slice ao9 n9 cp9, HXA.out, HO9.out⟩



/-- An element of bytes that stood there already. -/
def againOne (k back : Nat) : List UInt8 :=
  if 4 ≤ k ∧ k ≤ 11 ∧ back ≤ 2047 then [UInt8.ofNat (back / 256 * 32 + (k - 4) * 4 + 1), UInt8.ofNat back] else [UInt8.ofNat ((k - 1) * 4 + 2), UInt8.ofNat back, UInt8.ofNat (back / 256)]
/-- Elements of as many as there are. -/
def againE (back : Nat) : Nat → Nat → List UInt8
  | 0, _ => []
  | f + 1, n => if n = 0 then [] else againOne (min n 64) back ++ againE back f (n - min n 64)
theorem againE_any (back : Nat) : ∀ (f f' n : Nat), n ≤ f → n ≤ f' → againE back f n = againE back f' n := by
  intro f
  induction f with
  | zero =>
    intro f' n h _
    have : n = 0 := by omega
    subst this
    cases f' <;> rfl
  | succ f ih =>
    intro f' n h h'
    cases f' with
    | zero =>
      have : n = 0 := by omega
      subst this
      rfl
    | succ f' =>
      simp only [againE]
      split
      · rfl
      · rw [ih f' (n - min n 64) (by omega) (by omega)]
def againB' (back n : Nat) : List UInt8 := againE back n n
theorem againB'_step (back n : Nat) (h : 0 < n) : againB' back n = againOne (min n 64) back ++ againB' back (n - min n 64) := by
  obtain ⟨f, rfl⟩ : ∃ f, n = f + 1 := ⟨n - 1, by omega⟩
  show againE back (f + 1) (f + 1) = _
  rw [againE, if_neg (by omega)]
  exact congrArg _ (againE_any back _ _ _ (by omega) (Nat.le_refl _))
theorem againB'_zero (back : Nat) : againB' back 0 = [] := rfl

set_option maxRecDepth 20000 in
set_option maxHeartbeats 2000000 in
theorem pkagain_any (w : World) (B pb n back : Nat) (s p : List UInt8) (m : Value) (hu : pkRow w B pb s m p) (hn : n ≤ 20000) (hback : back ≤ 20000) (hp : p.length ≤ 100000) :
    Calls Tryz.prog 72 #[.pointer (some ⟨pb, 0, none⟩), .int .i64 n, .int .i64 back] w fun e w' => e = .returned (.tuple #[]) ∧ KeptX B pb w w' ∧ pkRow w' B pb s m (p ++ againB' back n) := by
  have HU := hide hu
  have HP := hide hp
  clear hu hp
  go_enter Tryz.func72, Tryz.ntmps72
  go_wp2
  go_loopw [1] (fun i wr => ∃ (q : Nat) (p' : List UInt8), q ≤ n ∧ i = .int .i64 q ∧ KeptX B pb w wr ∧ Hid (pkRow wr B pb s m p') ∧ Hid (p ++ againB' back n = p' ++ againB' back q) ∧ p'.length ≤ 100000 + 3 * (n - q)) (fun i _ => (intOf i).toNat)
  case atStart => exact ⟨n, p, Nat.le_refl _, rfl, KeptX.refl _ _ _, HU, hide rfl, by have := HP.out; omega⟩
  case round =>
    obtain ⟨q, p', hq, rfl, hk, HR, HE, hpl⟩ := hrel
    rename World => wr
    by_cases h0 : q = 0
    · subst h0
      go_wp2
      go_end0
      exact ⟨rfl, hk, by rw [HE.out, againB'_zero, List.append_nil]; exact HR.out⟩
    · have h0' : (0 : Int) < q := by omega
      obtain ⟨hB, v, hb, ho⟩ := HR.out
      obtain ⟨ao, cp, rfl⟩ := rowG_shape ho
      obtain ⟨c0, c1, c2, z0, z1, z2⟩ := three_cells hb
      have HB := hide hb
      have HO := hide ho
      clear hb ho
      have HStep := hide (againB'_step back q (by omega))
      have hmin : min q 64 ≤ 64 := Nat.min_le_right _ _
      by_cases h64 : q ≤ 64
      · have e64 : min q 64 = q := Nat.min_eq_left h64
        have hmn : min (q : Int) 64 = q := by omega
        have h64' : (q : Int) ≤ 64 := by omega
        by_cases b4 : 4 ≤ q
        · by_cases b11 : q ≤ 11
          · by_cases bb : back ≤ 2047
            · skip
              have h4' : (4 : Int) ≤ q := by omega
              have h11' : (q : Int) ≤ 11 := by omega
              have hb' : (back : Int) ≤ 2047 := by omega
              have hbits : bits .or .i64 (bits .or .i64 ((back : Int) / 256 * 32) (((q : Int) - 4) * 4)) 1 = ((back / 256 * 32 + (q - 4) * 4 + 1 : Nat) : Int) := by
                have g1 := bits_or_i64_nat (back / 256 * 32) ((q - 4) * 4) (by omega) (by omega)
                have g2 := Nat.two_pow_add_eq_or_of_lt (i := 5) (b := (q - 4) * 4) (by omega) (back / 256)
                have e1 : back / 256 * 32 = 2 ^ 5 * (back / 256) := by omega
                rw [e1, ← g2] at g1
                have g3 := bits_or_i64_nat (2 ^ 5 * (back / 256) + (q - 4) * 4) 1 (by omega) (by omega)
                have g4 := Nat.two_pow_add_eq_or_of_lt (i := 1) (b := 1) (by omega) (back / 256 * 16 + (q - 4) * 2)
                rw [show 2 ^ 5 * (back / 256) + (q - 4) * 4 = 2 ^ 1 * (back / 256 * 16 + (q - 4) * 2) from by omega, ← g4] at g3
                rw [show (back : Int) / 256 * 32 = ((2 ^ 5 * (back / 256) : Nat) : Int) from by omega, show ((q : Int) - 4) * 4 = (((q - 4) * 4 : Nat) : Int) from by omega, g1, show 2 ^ 5 * (back / 256) + (q - 4) * 4 = 2 ^ 1 * (back / 256 * 16 + (q - 4) * 2) from by omega]
                refine g3.trans ?_
                omega
              have HBits := hide hbits
              clear hbits
              have hC : againOne (min q 64) back = [UInt8.ofNat (back / 256 * 32 + (q - 4) * 4 + 1), UInt8.ofNat back] := by rw [e64, againOne]; rw [if_pos (by omega)]
              have HC := hide hC
              clear hC
              have hlc : p'.length + ([UInt8.ofNat (back / 256 * 32 + (q - 4) * 4 + 1), UInt8.ofNat back]).length ≤ 1000000 := by simp; omega
              go_wp2_with (at_builtin; refine append_bytes rfl (.tmp 25) (.tmp 37) rfl B pb _ _ HB.out p' [UInt8.ofNat (back / 256 * 32 + (q - 4) * 4 + 1), UInt8.ofNat back] _ 2 rfl rfl HO.out rfl hlc hB ?_; refine And.intro (by exact two_arr _ _ _ _ (by rw [HBits.out]; omega) (by omega)) ?_; intro ao7 cp7 n7 w7 hn7 hn7l hx7 hx8 hown8 hk8 hs8; obtain ⟨k0, k1, k2, y0, y1, y2⟩ := three_cells hx7; have HX8 := hide hx8; have HO8 := hide hown8; have HK8 := hide hk8; have HS8 := hide hs8; clear hx7 hx8 hown8 hk8 hs8)
              go_roundw
              case rel =>
                refine ⟨q - q, p' ++ [UInt8.ofNat (back / 256 * 32 + (q - 4) * 4 + 1), UInt8.ofNat back], by omega, by go_num, hk.trans HK8.out, hide ⟨HS8.out, .slice ao7 n7 cp7, HX8.out, HO8.out⟩, ?_, by simp; omega⟩
                show _ = _
                rw [HE.out, HStep.out, HC.out, e64, List.append_assoc]
              case measure => simp [intOf]; omega
            · have h4' : (4 : Int) ≤ q := by omega
              have h11' : (q : Int) ≤ 11 := by omega
              have hb' : ¬ (back : Int) ≤ 2047 := by omega
              have hbits : bits .or .i64 (((q : Int) - 1) * 4) 2 = (((q - 1) * 4 + 2 : Nat) : Int) := by
                have g1 := bits_or_i64_nat ((q - 1) * 4) 2 (by omega) (by omega)
                have g2 := Nat.two_pow_add_eq_or_of_lt (i := 2) (b := 2) (by omega) (q - 1)
                have e1 : (q - 1) * 4 = 2 ^ 2 * (q - 1) := by omega
                rw [e1, ← g2] at g1
                rw [show ((q : Int) - 1) * 4 = ((2 ^ 2 * (q - 1) : Nat) : Int) from by omega]
                refine g1.trans ?_
                omega
              have HBits := hide hbits
              clear hbits
              have hC : againOne (min q 64) back = [UInt8.ofNat ((q - 1) * 4 + 2), UInt8.ofNat back, UInt8.ofNat (back / 256)] := by rw [e64, againOne]; rw [if_neg (by omega)]
              have HC := hide hC
              clear hC
              have hlc : p'.length + ([UInt8.ofNat ((q - 1) * 4 + 2), UInt8.ofNat back, UInt8.ofNat (back / 256)]).length ≤ 1000000 := by simp; omega
              go_wp2_with (at_builtin; refine append_bytes rfl (.tmp 45) (.tmp 56) rfl B pb _ _ HB.out p' [UInt8.ofNat ((q - 1) * 4 + 2), UInt8.ofNat back, UInt8.ofNat (back / 256)] _ 3 rfl rfl HO.out rfl hlc hB ?_; refine And.intro (by exact three_arr _ _ _ _ _ _ (by rw [HBits.out]; omega) (by omega) (by omega)) ?_; intro ao7 cp7 n7 w7 hn7 hn7l hx7 hx8 hown8 hk8 hs8; obtain ⟨k0, k1, k2, y0, y1, y2⟩ := three_cells hx7; have HX8 := hide hx8; have HO8 := hide hown8; have HK8 := hide hk8; have HS8 := hide hs8; clear hx7 hx8 hown8 hk8 hs8)
              go_roundw
              case rel =>
                refine ⟨q - q, p' ++ [UInt8.ofNat ((q - 1) * 4 + 2), UInt8.ofNat back, UInt8.ofNat (back / 256)], by omega, by go_num, hk.trans HK8.out, hide ⟨HS8.out, .slice ao7 n7 cp7, HX8.out, HO8.out⟩, ?_, by simp; omega⟩
                show _ = _
                rw [HE.out, HStep.out, HC.out, e64, List.append_assoc]
              case measure => simp [intOf]; omega
          · have h4' : (4 : Int) ≤ q := by omega
            have h11' : ¬ (q : Int) ≤ 11 := by omega
            have hbits : bits .or .i64 (((q : Int) - 1) * 4) 2 = (((q - 1) * 4 + 2 : Nat) : Int) := by
              have g1 := bits_or_i64_nat ((q - 1) * 4) 2 (by omega) (by omega)
              have g2 := Nat.two_pow_add_eq_or_of_lt (i := 2) (b := 2) (by omega) (q - 1)
              have e1 : (q - 1) * 4 = 2 ^ 2 * (q - 1) := by omega
              rw [e1, ← g2] at g1
              rw [show ((q : Int) - 1) * 4 = ((2 ^ 2 * (q - 1) : Nat) : Int) from by omega]
              refine g1.trans ?_
              omega
            have HBits := hide hbits
            clear hbits
            have hC : againOne (min q 64) back = [UInt8.ofNat ((q - 1) * 4 + 2), UInt8.ofNat back, UInt8.ofNat (back / 256)] := by rw [e64, againOne]; rw [if_neg (by omega)]
            have HC := hide hC
            clear hC
            have hlc : p'.length + ([UInt8.ofNat ((q - 1) * 4 + 2), UInt8.ofNat back, UInt8.ofNat (back / 256)]).length ≤ 1000000 := by simp; omega
            go_wp2_with (at_builtin; refine append_bytes rfl (.tmp 45) (.tmp 56) rfl B pb _ _ HB.out p' [UInt8.ofNat ((q - 1) * 4 + 2), UInt8.ofNat back, UInt8.ofNat (back / 256)] _ 3 rfl rfl HO.out rfl hlc hB ?_; refine And.intro (by exact three_arr _ _ _ _ _ _ (by rw [HBits.out]; omega) (by omega) (by omega)) ?_; intro ao7 cp7 n7 w7 hn7 hn7l hx7 hx8 hown8 hk8 hs8; obtain ⟨k0, k1, k2, y0, y1, y2⟩ := three_cells hx7; have HX8 := hide hx8; have HO8 := hide hown8; have HK8 := hide hk8; have HS8 := hide hs8; clear hx7 hx8 hown8 hk8 hs8)
            go_roundw
            case rel =>
              refine ⟨q - q, p' ++ [UInt8.ofNat ((q - 1) * 4 + 2), UInt8.ofNat back, UInt8.ofNat (back / 256)], by omega, by go_num, hk.trans HK8.out, hide ⟨HS8.out, .slice ao7 n7 cp7, HX8.out, HO8.out⟩, ?_, by simp; omega⟩
              show _ = _
              rw [HE.out, HStep.out, HC.out, e64, List.append_assoc]
            case measure => simp [intOf]; omega
        · have h4' : ¬ (4 : Int) ≤ q := by omega
          skip
          have hbits : bits .or .i64 (((q : Int) - 1) * 4) 2 = (((q - 1) * 4 + 2 : Nat) : Int) := by
            have g1 := bits_or_i64_nat ((q - 1) * 4) 2 (by omega) (by omega)
            have g2 := Nat.two_pow_add_eq_or_of_lt (i := 2) (b := 2) (by omega) (q - 1)
            have e1 : (q - 1) * 4 = 2 ^ 2 * (q - 1) := by omega
            rw [e1, ← g2] at g1
            rw [show ((q : Int) - 1) * 4 = ((2 ^ 2 * (q - 1) : Nat) : Int) from by omega]
            refine g1.trans ?_
            omega
          have HBits := hide hbits
          clear hbits
          have hC : againOne (min q 64) back = [UInt8.ofNat ((q - 1) * 4 + 2), UInt8.ofNat back, UInt8.ofNat (back / 256)] := by rw [e64, againOne]; rw [if_neg (by omega)]
          have HC := hide hC
          clear hC
          have hlc : p'.length + ([UInt8.ofNat ((q - 1) * 4 + 2), UInt8.ofNat back, UInt8.ofNat (back / 256)]).length ≤ 1000000 := by simp; omega
          go_wp2_with (at_builtin; refine append_bytes rfl (.tmp 45) (.tmp 56) rfl B pb _ _ HB.out p' [UInt8.ofNat ((q - 1) * 4 + 2), UInt8.ofNat back, UInt8.ofNat (back / 256)] _ 3 rfl rfl HO.out rfl hlc hB ?_; refine And.intro (by exact three_arr _ _ _ _ _ _ (by rw [HBits.out]; omega) (by omega) (by omega)) ?_; intro ao7 cp7 n7 w7 hn7 hn7l hx7 hx8 hown8 hk8 hs8; obtain ⟨k0, k1, k2, y0, y1, y2⟩ := three_cells hx7; have HX8 := hide hx8; have HO8 := hide hown8; have HK8 := hide hk8; have HS8 := hide hs8; clear hx7 hx8 hown8 hk8 hs8)
          go_roundw
          case rel =>
            refine ⟨q - q, p' ++ [UInt8.ofNat ((q - 1) * 4 + 2), UInt8.ofNat back, UInt8.ofNat (back / 256)], by omega, by go_num, hk.trans HK8.out, hide ⟨HS8.out, .slice ao7 n7 cp7, HX8.out, HO8.out⟩, ?_, by simp; omega⟩
            show _ = _
            rw [HE.out, HStep.out, HC.out, e64, List.append_assoc]
          case measure => simp [intOf]; omega
      · skip
        have e64 : min q 64 = 64 := Nat.min_eq_right (by omega)
        have hmn : min (q : Int) 64 = 64 := by omega
        have h64' : ¬ (q : Int) ≤ 64 := by omega
        have hbits : bits .or .i64 252 2 = 254 := by decide +kernel
        have hC : againOne (min q 64) back = [UInt8.ofNat ((64 - 1) * 4 + 2), UInt8.ofNat back, UInt8.ofNat (back / 256)] := by rw [e64, againOne]; rw [if_neg (by omega)]
        have HC := hide hC
        clear hC
        have hlc : p'.length + ([UInt8.ofNat ((64 - 1) * 4 + 2), UInt8.ofNat back, UInt8.ofNat (back / 256)]).length ≤ 1000000 := by simp; omega
        go_wp2_with (at_builtin; refine append_bytes rfl (.tmp 45) (.tmp 56) rfl B pb _ _ HB.out p' [UInt8.ofNat ((64 - 1) * 4 + 2), UInt8.ofNat back, UInt8.ofNat (back / 256)] _ 3 rfl rfl HO.out rfl hlc hB ?_; refine And.intro (by exact three_arr 254 _ _ _ _ _ rfl (by omega) (by omega)) ?_; intro ao7 cp7 n7 w7 hn7 hn7l hx7 hx8 hown8 hk8 hs8; obtain ⟨k0, k1, k2, y0, y1, y2⟩ := three_cells hx7; have HX8 := hide hx8; have HO8 := hide hown8; have HK8 := hide hk8; have HS8 := hide hs8; clear hx7 hx8 hown8 hk8 hs8)
        go_roundw
        case rel =>
          refine ⟨q - 64, p' ++ [UInt8.ofNat ((64 - 1) * 4 + 2), UInt8.ofNat back, UInt8.ofNat (back / 256)], by omega, by go_num, hk.trans HK8.out, hide ⟨HS8.out, .slice ao7 n7 cp7, HX8.out, HO8.out⟩, ?_, by simp; omega⟩
          show _ = _
          rw [HE.out, HStep.out, HC.out, e64, List.append_assoc]
        case measure => simp [intOf]; omega

end Go.Proofs.YtmdakfmecfcbhaaGreat
