/- 2 texts in one. -/
import Derived.Test.YtmdakfmecfcbhaaGreatProg
import Derived.Test.YtmdakfmecfcbhaaGreatK7e06493
import Derived.Test.YtmdakfmecfcbhaaGreatK85cc7d6
import Derived.Test.YtmdakfmecfcbhaaGreatK3e23582
import Derived.Test.YtmdakfmecfcbhaaGreatKcd6d4df
import Derived.Test.YtmdakfmecfcbhaaGreatKe26850f
set_option linter.unusedVariables false
set_option linter.unusedSimpArgs false
namespace Go.Proofs.YtmdakfmecfcbhaaGreat
open Go.RowKit
attribute [local go_sem] bs_size bs_toList bs_append bs_get bs_extract
theorem Tryz.infoF : (Tryz.prog.info? 88).map (fun i => (i.zero, i.size, i.bytes)) = some (some (.agg #[.int .i64 0, .int .i64 0, .int .u64 0, .string ⟨#[]⟩]), 4, 40) := by kernel_rfl
def rawCells : List Fld → List Value
  | [] => []
  | f :: l => .int .i64 ((f.1 : Int) / 8) :: .int .i64 ((f.1 : Int) % 8) :: .int .u64 f.2.1 :: .string (bs f.2.2) :: rawCells l
theorem rawCells_snoc (l : List Fld) (x : Fld) : rawCells (l ++ [x]) = rawCells l ++ [.int .i64 ((x.1 : Int) / 8), .int .i64 ((x.1 : Int) % 8), .int .u64 x.2.1, .string (bs x.2.2)] := by
  induction l with
  | nil => rfl
  | cons y l ih => simp [rawCells, ih]
theorem rawCells_at : ∀ (l : List Fld) (i : Nat) (h : i < l.length), (rawCells l)[i * 4]? = some (.int .i64 ((l[i].1 : Int) / 8)) ∧ (rawCells l)[i * 4 + 1]? = some (.int .i64 ((l[i].1 : Int) % 8)) ∧ (rawCells l)[i * 4 + 2]? = some (.int .u64 l[i].2.1) ∧ (rawCells l)[i * 4 + 3]? = some (.string (bs l[i].2.2))
  | [], i, h => by simp at h
  | x :: l, 0, h => ⟨rfl, rfl, rfl, rfl⟩
  | x :: l, i + 1, h => by
    have e : (i + 1) * 4 = i * 4 + 1 + 1 + 1 + 1 := by omega
    have := rawCells_at l i (by simpa using h)
    rw [e]
    simpa [rawCells] using this
def ownRaws (w : World) (B : Nat) (v : Value) (ls : List Fld) : Prop := w.ownsRow B 88 4 v ls.length (rawCells ls)
theorem numAt_facts (l : List UInt8) : (∃ key n, numAt l = (key, n, 0) ∧ 1 ≤ n ∧ n ≤ l.length ∧ key < 18446744073709551616 ∧ cutNum l = some (key, l.drop n)) ∨ (∃ e, (e = 1 ∨ e = 3) ∧ numAt l = (0, 0, e) ∧ cutNum l = none) := by
  rcases numAt_read l with ⟨h1, h2⟩ | ⟨h1, h2⟩
  · left
    have hr := readNum_le l
    rw [h2] at hr
    refine ⟨(numAt l).1, (numAt l).2.1, ?_, hr.2.1 h1, hr.1, hr.2.2, ?_⟩
    · rw [← h1]
    · rw [cutNum_at, if_pos h1]
  · right
    refine ⟨(numAt l).2.2, ?_, ?_, ?_⟩
    · unfold numAt at h1 ⊢
      split
      · exact .inl rfl
      · split
        · exact .inr rfl
        · rename_i c1 c2
          rw [if_neg c1, if_neg c2] at h1
          exact absurd rfl h1
    · unfold numAt at h1 ⊢
      split
      · rfl
      · split
        · rfl
        · rename_i c1 c2
          rw [if_neg c1, if_neg c2] at h1
          exact absurd rfl h1
    · rw [cutNum_at, if_neg h1]
theorem take_rest (l : List UInt8) (p : Nat) : (l.drop p).take (l.length - p) = l.drop p := List.take_of_length_le (by rw [List.length_drop]; exact Nat.le_refl _)
theorem four_cells {w : World} {b : Nat} {x y z u : Value} {t : TypeId} (h : w.heap[b]? = some (.cells #[x, y, z, u] t (0, 0))) : (w.cell? ⟨b, 0, none⟩ = some x ∧ w.cell? ⟨b, 1, none⟩ = some y ∧ w.cell? ⟨b, 2, none⟩ = some z ∧ w.cell? ⟨b, 3, none⟩ = some u) ∧ w.frozen? ⟨b, 0, none⟩ = false ∧ w.frozen? ⟨b, 1, none⟩ = false ∧ w.frozen? ⟨b, 2, none⟩ = false ∧ w.frozen? ⟨b, 3, none⟩ = false := by simp [World.cell?, World.frozen?, h]
/-- One field more, in the row that a call owns: as the walk has it. -/
theorem append_fld {wr : World} {ops : Array Oper} {rest : List Oper} {o : Oper} {a : Act} {Q : Exit → Act → World → Prop} (hgd : o.guard = none) (s x : Operand)
    (ho : o.op = .call { callee := .builtin .append, args := #[s, x], argTypes := #[84, 84] })
    (base : Nat) (v : Value) (d : List Fld) (f : Fld) (B : ByteArray) (hB : B = bs f.2.2) (hs : a.eval s = v) (hown : ownRaws wr base v d) (hx : a.eval x = .slice (some ⟨wr.heap.size + 1, 0, none⟩) 1 1)
    (hlen : d.length ≤ 1000000) (hbase : base ≤ wr.heap.size)
    (h : ∀ ao cp w', ownRaws w' base (.slice ao (d.length + 1) cp) (d ++ [f]) → Below base wr w' → wpList Tryz.prog ops Q rest (a.put o.dst (.slice ao (d.length + 1) cp)) w') :
    wpList Tryz.prog ops Q (o :: rest) a ((wr.alloc (.cells #[.int .i64 ((f.1 : Int) / 8), .int .i64 ((f.1 : Int) % 8), .int .u64 f.2.1, .string B] 88)).alloc (.cells #[.int .i64 ((f.1 : Int) / 8), .int .i64 ((f.1 : Int) % 8), .int .u64 f.2.1, .string B] 88)) := by
  subst hB
  obtain ⟨i0, hi0, hz0, hz1, hz2⟩ := info_parts Tryz.infoF
  obtain ⟨C, hC⟩ : ∃ C, C = (#[.int .i64 ((f.1 : Int) / 8), .int .i64 ((f.1 : Int) % 8), .int .u64 f.2.1, .string (bs f.2.2)] : Array Value) := ⟨_, rfl⟩
  rw [← hC]
  have hb2 : Below base wr ((wr.alloc (.cells C 88)).alloc (.cells C 88)) := ((Below.refl _ _).alloc hbase _).alloc (by simp; omega) _
  have hg2 : Grow wr ((wr.alloc (.cells C 88)).alloc (.cells C 88)) := ((Grow.refl _).alloc _).alloc _
  have hnew : ((wr.alloc (.cells C 88)).alloc (.cells C 88)).heap[wr.heap.size + 1]? = some (.cells C 88 (0, 0)) := by
    have := heap_alloc_new (wr.alloc (.cells C 88)) (.cells C 88)
    simpa using this
  have hsz := hb2.size
  generalize ((wr.alloc (.cells C 88)).alloc (.cells C 88)) = W at *
  subst hC
  obtain ⟨⟨c0, c1, c2, c3⟩, _⟩ := four_cells hnew
  have hown' := own_grow hown hg2
  refine wpList_append_own _ hgd s x 84 ho base 88 i0 _ 4 40 Tryz.underlying84 hi0 hz0 hz1 hz2 rfl (by omega) v d.length (rawCells d) hs hown' ⟨wr.heap.size + 1, 0, none⟩ 1 1 [.int .i64 ((f.1 : Int) / 8), .int .i64 ((f.1 : Int) % 8), .int .u64 f.2.1, .string (bs f.2.2)] hx rfl (fun j u hu => by
    rw [Addr.add_lit]
    match j, hu with
    | 0, hu => simp at hu; subst hu; simpa using c0
    | 1, hu => simp at hu; subst hu; simpa using c1
    | 2, hu => simp at hu; subst hu; simpa using c2
    | 3, hu => simp at hu; subst hu; simpa using c3) (by simp [Value.oneCell']) (by unfold maxLen; omega) (by omega) (by omega) ?_
  intro v' w' hown2 hgrow _
  obtain ⟨ao, cp, rfl⟩ := own_shape hown2
  refine h ao cp w' ?_ (hb2.grown hgrow (by omega) (fun k hk => (hown'.lt k hk).1))
  show w'.ownsRow _ _ _ _ (d ++ [f]).length (rawCells (d ++ [f]))
  rw [rawCells_snoc, List.length_append]
  exact hown2
set_option maxRecDepth 20000 in
set_option maxHeartbeats 4000000 in
theorem fieldsOf_any (w : World) (s : List UInt8) (hs : s.length ≤ 1000000) :
    Calls Tryz.prog 59 #[.string (bs s)] w fun e w' => Below w.heap.size w w' ∧
      ((∃ v, (raws s).2 = true ∧ e = .returned (.tuple #[v, .bool true]) ∧ ownRaws w' w.heap.size v (raws s).1) ∨ ((raws s).2 = false ∧ e = .returned (.tuple #[.slice none 0 0, .bool false]))) := by
  go_enter Tryz.func59, Tryz.ntmps59
  go_wp2
  go_loopw [4, 5] (fun out at' wr => ∃ (p : Nat) (d : List Fld), p ≤ s.length ∧ at' = .int .i64 p ∧ d.length ≤ p ∧ ownRaws wr w.heap.size out d ∧ Hid (raws s = (d ++ (raws (s.drop p)).1, (raws (s.drop p)).2)) ∧ Below w.heap.size w wr) (fun _ i _ => s.length - (intOf i).toNat)
  case atStart => exact ⟨0, [], by omega, rfl, by simp, World.ownsRow_nil _ _ _ _, hide (by simp), Below.refl _ _⟩
  case round =>
    obtain ⟨p, d, hp, rfl, hd, ho, HR, hb⟩ := hrel
    obtain ⟨ao, cp, rfl⟩ := own_shape ho
    by_cases hlt : p < s.length
    · have hLl : (s.drop p).length = s.length - p := List.length_drop ..
      have HNe : Hid (s.drop p ≠ []) := fun e => by rw [e] at hLl; simp at hLl; omega
      have HBad : Hid (rawField (s.drop p) = none → (raws s).2 = false) := fun h => by rw [HR.out, raws_none HNe.out h]
      have hq0 : (List.drop p s).take (s.length - p) = s.drop p := take_rest s p
      go_wp2_with fail
      refine (numberAt_any (s.drop p) _ (by omega)).mono ?_
      rintro e w2 ⟨rfl, rfl⟩
      rename World => wr
      rcases numAt_facts (s.drop p) with ⟨key, n, hn, h1, h2, h3, hc⟩ | ⟨e, he, hn, hc⟩
      · rw [hn]
        have hq : IntKind.u64.wrap ((key : Int) / 8) = (key : Int) / 8 := wrap_u64_small _ (by omega) (by omega)
        have HC := hide hc
        have HN := hide hn
        clear hc hn
        by_cases b1 : (key : Int) / 8 < 1
        · have HW : Hid (rawField (s.drop p) = none) := by show _ = _; unfold rawField; rw [HC.out]; simp only; rw [if_pos (by omega)]
          go_wp2
          go_ret2
          exact ⟨hb, .inr ⟨HBad.out HW.out, rfl⟩⟩
        · by_cases b2 : 536870911 < (key : Int) / 8
          · have HW : Hid (rawField (s.drop p) = none) := by show _ = _; unfold rawField; rw [HC.out]; simp only; rw [if_pos (by omega)]
            go_wp2
            go_ret2
            exact ⟨hb, .inr ⟨HBad.out HW.out, rfl⟩⟩
          · have hk1 : ¬ (key / 8 < 1 ∨ 536870911 < key / 8) := by omega
            have HK := hide hk1
            have hq2 : IntKind.i64.wrap ((key : Int) / 8) = (key : Int) / 8 := wrap_i64_small _ (by omega) (by omega)
            have hq3 : IntKind.i64.wrap ((key : Int) % 8) = (key : Int) % 8 := wrap_i64_small _ (by omega) (by omega)
            have hq4 : IntKind.u64.wrap ((key : Int) % 8) = (key : Int) % 8 := wrap_u64_small _ (by omega) (by omega)
            have hdd : (s.drop p).drop n = s.drop (p + n) := by rw [List.drop_drop]
            rw [hdd] at HC
            have hL2 : (s.drop (p + n)).length = s.length - (p + n) := List.length_drop ..
            have hq1 : (List.drop (p + n) s).take (s.length - (p + n)) = s.drop (p + n) := take_rest s (p + n)
            rw [hLl] at h2
            clear hk1 hdd hLl
            by_cases m0 : key % 8 = 0
            · have t0 : ((key : Int) % 8 == 0) = true := by rw [beq_iff_eq]; omega
              go_wp2_with fail
              refine (numberAt_any (s.drop (p + n)) _ (by omega)).mono ?_
              rintro e w2 ⟨rfl, rfl⟩
              rcases numAt_facts (s.drop (p + n)) with ⟨n2, sz, hn, k1, k2, k3, hc⟩ | ⟨e, he, hn, hc⟩
              · rw [hn]
                have HC2 := hide hc
                clear hc hn
                rw [hL2] at k2
                have HF : Hid (rawField (s.drop p) = some ((key, n2, []), s.drop (p + n + sz))) := by
                  show _ = _
                  unfold rawField
                  rw [HC.out]
                  simp only
                  rw [if_neg HK.out, if_pos m0, HC2.out]
                  simp only [List.drop_drop]
                have hd1 : d.length ≤ 1000000 := by omega
                have HS := hide hb.size
                go_wp2_with (at_builtin; go_must (refine append_fld rfl (.tmp 101) (.tmp 103) rfl w.heap.size (.slice ao d.length cp) d (key, n2, []) _ rfl rfl ho rfl hd1 HS.out ?_); intro ao2 cp2 w3 hown3 hb3)
                go_roundw
                case rel => exact ⟨p + n + sz, d ++ [(key, n2, [])], by omega, by go_num, by simp; omega, by simpa using hown3, by show _ = _; rw [HR.out, raws_some HNe.out HF.out]; simp, hb.trans hb3⟩
                case measure => simp [intOf]; omega
              · rw [hn]
                have HW : Hid (rawField (s.drop p) = none) := by
                  show _ = _
                  unfold rawField
                  rw [HC.out]
                  simp only
                  rw [if_neg HK.out, if_pos m0, hc]
                have hne : ((e : Int) != 0) = true := by simp; omega
                clear he hc hn
                go_wp2
                go_ret2
                exact ⟨hb.alloc hb.size _, .inr ⟨HBad.out HW.out, rfl⟩⟩
            · by_cases m1 : key % 8 = 1
              · have t0 : ((key : Int) % 8 == 0) = false := by rw [beq_eq_false_iff_ne]; omega
                have t1 : ((key : Int) % 8 == 1) = true := by rw [beq_iff_eq]; omega
                have hw : IntKind.u64.wrap ((s.length : Int) - ((p : Int) + (n : Int))) = (s.length : Int) - ((p : Int) + (n : Int)) := wrap_u64_small _ (by omega) (by omega)
                by_cases c : 8 ≤ s.length - (p + n)
                · have HF : Hid (rawField (s.drop p) = some ((key, 0, (s.drop (p + n)).take 8), s.drop (p + n + 8))) := by
                    show _ = _
                    unfold rawField
                    rw [HC.out]
                    simp only
                    rw [if_neg HK.out]
                    rw [if_neg (by omega)]
                    rw [if_pos m1, if_pos (by rw [hL2]; exact c)]
                    simp only [List.drop_drop]
                  have hd1 : d.length ≤ 1000000 := by omega
                  have HS := hide hb.size
                  have c' : ¬ (s.length : Int) - ((p : Int) + (n : Int)) < 8 := by omega
                  go_wp2_with (at_builtin; go_must (refine append_fld rfl (.tmp 101) (.tmp 103) rfl w.heap.size (.slice ao d.length cp) d (key, 0, (s.drop (p + n)).take 8) _ (by first | rfl | (congr 2; omega) | simp) rfl ho rfl hd1 HS.out ?_); intro ao2 cp2 w3 hown3 hb3)
                  go_roundw
                  case rel => exact ⟨p + n + 8, d ++ [(key, 0, (s.drop (p + n)).take 8)], by omega, by go_num, by simp; omega, by simpa using hown3, by show _ = _; rw [HR.out, raws_some HNe.out HF.out]; simp, hb.trans hb3⟩
                  case measure => simp [intOf]; omega
                · have HW : Hid (rawField (s.drop p) = none) := by
                    show _ = _
                    unfold rawField
                    rw [HC.out]
                    simp only
                    rw [if_neg HK.out]
                    rw [if_neg (by omega)]
                    rw [if_pos m1, if_neg (by rw [hL2]; exact c)]
                  have c' : (s.length : Int) - ((p : Int) + (n : Int)) < 8 := by omega
                  go_wp2
                  go_ret2
                  exact ⟨hb.alloc hb.size _, .inr ⟨HBad.out HW.out, rfl⟩⟩
              · by_cases m2 : key % 8 = 2
                · have t0 : ((key : Int) % 8 == 0) = false := by rw [beq_eq_false_iff_ne]; omega
                  have t1 : ((key : Int) % 8 == 1) = false := by rw [beq_eq_false_iff_ne]; omega
                  have t2 : ((key : Int) % 8 == 2) = true := by rw [beq_iff_eq]; omega
                  go_wp2_with fail
                  refine (numberAt_any (s.drop (p + n)) _ (by omega)).mono ?_
                  rintro e w2 ⟨rfl, rfl⟩
                  rcases numAt_facts (s.drop (p + n)) with ⟨n2, sz, hn, k1, k2, k3, hc⟩ | ⟨e, he, hn, hc⟩
                  · rw [hn]
                    have HC2 := hide hc
                    clear hc hn
                    rw [hL2] at k2
                    have hL3 : (s.drop (p + n + sz)).length = s.length - (p + n + sz) := List.length_drop ..
                    have hw : IntKind.u64.wrap ((s.length : Int) - ((p : Int) + (n : Int) + (sz : Int))) = (s.length : Int) - ((p : Int) + (n : Int) + (sz : Int)) := wrap_u64_small _ (by omega) (by omega)
                    by_cases c : n2 ≤ s.length - (p + n + sz)
                    · have HF : Hid (rawField (s.drop p) = some ((key, 0, (s.drop (p + n + sz)).take n2), s.drop (p + n + sz + n2))) := by
                        show _ = _
                        unfold rawField
                        rw [HC.out]
                        simp only
                        rw [if_neg HK.out, if_neg (by omega), if_neg (by omega), if_pos m2, HC2.out]
                        simp only
                        rw [List.drop_drop, if_pos (by rw [hL3]; exact c)]
                        simp only [List.drop_drop]
                      have hd1 : d.length ≤ 1000000 := by omega
                      have HS := hide hb.size
                      have c' : ¬ (s.length : Int) - ((p : Int) + (n : Int) + (sz : Int)) < n2 := by omega
                      have hw2 : IntKind.i64.wrap (n2 : Int) = (n2 : Int) := wrap_i64_small _ (by omega) (by omega)
                      go_wp2_with (at_builtin; go_must (refine append_fld rfl (.tmp 101) (.tmp 103) rfl w.heap.size (.slice ao d.length cp) d (key, 0, (s.drop (p + n + sz)).take n2) _ (by first | rfl | (congr 2; omega) | simp) rfl ho rfl hd1 HS.out ?_); intro ao2 cp2 w3 hown3 hb3)
                      go_roundw
                      case rel => exact ⟨p + n + sz + n2, d ++ [(key, 0, (s.drop (p + n + sz)).take n2)], by omega, by go_num, by simp; omega, by simpa using hown3, by show _ = _; rw [HR.out, raws_some HNe.out HF.out]; simp, hb.trans hb3⟩
                      case measure => simp [intOf]; omega
                    · have HW : Hid (rawField (s.drop p) = none) := by
                        show _ = _
                        unfold rawField
                        rw [HC.out]
                        simp only
                        rw [if_neg HK.out, if_neg (by omega), if_neg (by omega), if_pos m2, HC2.out]
                        simp only
                        rw [List.drop_drop, if_neg (by rw [hL3]; exact c)]
                      have c' : (s.length : Int) - ((p : Int) + (n : Int) + (sz : Int)) < n2 := by omega
                      go_wp2
                      go_ret2
                      exact ⟨hb.alloc hb.size _, .inr ⟨HBad.out HW.out, rfl⟩⟩
                  · rw [hn]
                    have HW : Hid (rawField (s.drop p) = none) := by
                      show _ = _
                      unfold rawField
                      rw [HC.out]
                      simp only
                      rw [if_neg HK.out, if_neg (by omega), if_neg (by omega), if_pos m2, hc]
                    have hne : ((e : Int) != 0) = true := by simp; omega
                    clear he hc hn
                    go_wp2
                    go_ret2
                    exact ⟨hb.alloc hb.size _, .inr ⟨HBad.out HW.out, rfl⟩⟩
                · by_cases m5 : key % 8 = 5
                  · have t0 : ((key : Int) % 8 == 0) = false := by rw [beq_eq_false_iff_ne]; omega
                    have t1 : ((key : Int) % 8 == 1) = false := by rw [beq_eq_false_iff_ne]; omega
                    have t2 : ((key : Int) % 8 == 2) = false := by rw [beq_eq_false_iff_ne]; omega
                    have t5 : ((key : Int) % 8 == 5) = true := by rw [beq_iff_eq]; omega
                    have hw : IntKind.u64.wrap ((s.length : Int) - ((p : Int) + (n : Int))) = (s.length : Int) - ((p : Int) + (n : Int)) := wrap_u64_small _ (by omega) (by omega)
                    by_cases c : 4 ≤ s.length - (p + n)
                    · have HF : Hid (rawField (s.drop p) = some ((key, 0, (s.drop (p + n)).take 4), s.drop (p + n + 4))) := by
                        show _ = _
                        unfold rawField
                        rw [HC.out]
                        simp only
                        rw [if_neg HK.out]
                        rw [if_neg (by omega)]; rw [if_neg (by omega)]; rw [if_neg (by omega)]
                        rw [if_pos m5, if_pos (by rw [hL2]; exact c)]
                        simp only [List.drop_drop]
                      have hd1 : d.length ≤ 1000000 := by omega
                      have HS := hide hb.size
                      have c' : ¬ (s.length : Int) - ((p : Int) + (n : Int)) < 4 := by omega
                      go_wp2_with (at_builtin; go_must (refine append_fld rfl (.tmp 101) (.tmp 103) rfl w.heap.size (.slice ao d.length cp) d (key, 0, (s.drop (p + n)).take 4) _ (by first | rfl | (congr 2; omega) | simp) rfl ho rfl hd1 HS.out ?_); intro ao2 cp2 w3 hown3 hb3)
                      go_roundw
                      case rel => exact ⟨p + n + 4, d ++ [(key, 0, (s.drop (p + n)).take 4)], by omega, by go_num, by simp; omega, by simpa using hown3, by show _ = _; rw [HR.out, raws_some HNe.out HF.out]; simp, hb.trans hb3⟩
                      case measure => simp [intOf]; omega
                    · have HW : Hid (rawField (s.drop p) = none) := by
                        show _ = _
                        unfold rawField
                        rw [HC.out]
                        simp only
                        rw [if_neg HK.out]
                        rw [if_neg (by omega)]; rw [if_neg (by omega)]; rw [if_neg (by omega)]
                        rw [if_pos m5, if_neg (by rw [hL2]; exact c)]
                      have c' : (s.length : Int) - ((p : Int) + (n : Int)) < 4 := by omega
                      go_wp2
                      go_ret2
                      exact ⟨hb.alloc hb.size _, .inr ⟨HBad.out HW.out, rfl⟩⟩
                  · have t0 : ((key : Int) % 8 == 0) = false := by rw [beq_eq_false_iff_ne]; omega
                    have t1 : ((key : Int) % 8 == 1) = false := by rw [beq_eq_false_iff_ne]; omega
                    have t2 : ((key : Int) % 8 == 2) = false := by rw [beq_eq_false_iff_ne]; omega
                    have t5 : ((key : Int) % 8 == 5) = false := by rw [beq_eq_false_iff_ne]; omega
                    have HW : Hid (rawField (s.drop p) = none) := by
                      show _ = _
                      unfold rawField
                      rw [HC.out]
                      simp only
                      rw [if_neg HK.out, if_neg m0, if_neg m1, if_neg m2, if_neg m5]
                    go_wp2
                    go_ret2
                    exact ⟨hb.alloc hb.size _, .inr ⟨HBad.out HW.out, rfl⟩⟩
      · rw [hn]
        have HC := hide hc
        clear hc hn
        have hne : ((e : Int) != 0) = true := by simp; omega
        clear he
        go_wp2
        go_ret2
        exact ⟨hb, .inr ⟨HBad.out (by unfold rawField; rw [HC.out]), rfl⟩⟩
    · have HE : Hid (s.drop p = []) := List.drop_eq_nil_of_le (by omega)
      have HD : Hid ((raws s).1 = d ∧ (raws s).2 = true) := by
        show _ ∧ _
        rw [HR.out, HE.out, raws_nil]
        simp
      go_wp2
      go_ret2
      exact ⟨hb, .inl ⟨_, HD.out.2, rfl, by rw [HD.out.1]; exact ho⟩⟩
/-! ### the reference's fields tell what the program's do -/
theorem rawField_in {l r : List UInt8} {f : Fld} (h : rawField l = some (f, r)) : r.length < l.length ∧ 8 ≤ f.1 ∧ f.2.1 < 18446744073709551616 ∧ f.2.2.length ≤ l.length ∧ (f.1 % 8 = 1 → f.2.2.length = 8) := by
  refine ⟨rawField_shorter h, ?_⟩
  unfold rawField at h
  split at h
  · simp at h
  · rename_i hd r0 h0
    have c0 := cutNum_some h0
    split at h
    · simp at h
    · rename_i hb
      split at h
      · split at h
        · simp at h
        · rename_i n r1 h1
          have c1 := cutNum_some h1
          simp at h
          obtain ⟨rfl, rfl⟩ := h
          exact ⟨by show 8 ≤ hd; omega, c1.1, by simp, fun h => by omega⟩
      · split at h
        · split at h
          · rename_i hle
            simp at h
            obtain ⟨rfl, rfl⟩ := h
            exact ⟨by show 8 ≤ hd; omega, by simp, by simp; omega, fun _ => by simp; omega⟩
          · simp at h
        · split at h
          · split at h
            · simp at h
            · rename_i n r1 h1
              have c1 := cutNum_some h1
              split at h
              · simp at h
                obtain ⟨rfl, rfl⟩ := h
                exact ⟨by show 8 ≤ hd; omega, by simp, by simp; omega, fun h => by omega⟩
              · simp at h
          · split at h
            · split at h
              · simp at h
                obtain ⟨rfl, rfl⟩ := h
                exact ⟨by show 8 ≤ hd; omega, by simp, by simp; omega, fun h => by omega⟩
              · simp at h
            · simp at h
def rawIn (n : Nat) (f : Fld) : Prop := 8 ≤ f.1 ∧ f.2.1 < 18446744073709551616 ∧ f.2.2.length ≤ n ∧ (f.1 % 8 = 1 → f.2.2.length = 8)
theorem rawF_in : ∀ (k : Nat) (l : List UInt8), ∀ f ∈ (rawF k l).1, rawIn l.length f
  | 0, l => by simp [rawF]
  | k + 1, l => by
    unfold rawF
    split
    · simp
    · split
      · simp
      · rename_i f r h
        have hs := rawField_in h
        have ih := rawF_in k r
        intro g hg
        rcases List.mem_cons.1 hg with rfl | hg
        · exact hs.2
        · have := ih g hg
          exact ⟨this.1, this.2.1, by have := this.2.2.1; omega, this.2.2.2⟩
theorem raws_in (l : List UInt8) : ∀ f ∈ (raws l).1, rawIn l.length f := rawF_in _ _
theorem raws_len (l : List UInt8) : (raws l).1.length ≤ l.length := by
  have h := (fields_in l).1
  rw [fields_raw] at h
  simpa using h
theorem labRead_raw (b : List UInt8) : labRead b = if (raws b).2 = true then some (labOf ((raws b).1.map asFld)) else none := by
  unfold labRead; rw [fields_raw]
theorem samRead_raw (b : List UInt8) : samRead b = if (raws b).2 = true then some (samOf ((raws b).1.map asFld)) else none := by
  unfold samRead; rw [fields_raw]
theorem fieldsOk_raw (okF : Fld → Bool) (b : List UInt8) : fieldsOk okF b = true ↔ (raws b).2 = true ∧ ∀ f ∈ (raws b).1, okF (asFld f) = true := by
  unfold fieldsOk
  rw [fields_raw]
  simp
theorem serRead_raw {b : List UInt8} (h2 : (raws b).2 = true) (h : ∀ f ∈ (raws b).1, serOk (asFld f) = true) : serRead b = some (serOf ((raws b).1.map asFld)) := by
  unfold serRead
  rw [if_pos ((fieldsOk_raw serOk b).2 ⟨h2, h⟩), fields_raw]
theorem serRead_bad {b : List UInt8} (h : (raws b).2 = false ∨ ∃ f ∈ (raws b).1, serOk (asFld f) = false) : serRead b = none := by
  unfold serRead
  rw [if_neg]
  intro hc
  have := (fieldsOk_raw serOk b).1 hc
  rcases h with h | ⟨f, hf, h⟩
  · rw [this.1] at h; simp at h
  · rw [this.2 f hf] at h; simp at h
theorem allRead_raw {b : List UInt8} (h2 : (raws b).2 = true) (h : ∀ f ∈ (raws b).1, allOk (asFld f) = true) : allRead b = some (allOf ((raws b).1.map asFld)) := by
  unfold allRead
  rw [if_pos ((fieldsOk_raw allOk b).2 ⟨h2, h⟩), fields_raw]
theorem allRead_bad {b : List UInt8} (h : (raws b).2 = false ∨ ∃ f ∈ (raws b).1, allOk (asFld f) = false) : allRead b = none := by
  unfold allRead
  rw [if_neg]
  intro hc
  have := (fieldsOk_raw allOk b).1 hc
  rcases h with h | ⟨f, hf, h⟩
  · rw [this.1] at h; simp at h
  · rw [this.2 f hf] at h; simp at h
theorem asFld_one (f : Fld) : (asFld f).1 = f.1 := by unfold asFld; split <;> (try split) <;> rfl
theorem allOk_ten (n : Nat) (b : List UInt8) : allOk (asFld (10, n, b)) = (serRead b).isSome := by simp [asFld, allOk]
theorem allOk_other {f : Fld} (h : f.1 ≠ 10) : allOk (asFld f) = true := by unfold allOk; rw [asFld_one, if_neg h]
theorem allOf_other {L : List Fld} {f : Fld} (h : f.1 ≠ 10) : allOf ((L ++ [f]).map asFld) = allOf (L.map asFld) := by
  rw [List.map_append, List.map_singleton, allOf_snoc, allStep, asFld_one, if_neg h]
theorem allOf_ten {L : List Fld} {n : Nat} {b : List UInt8} {x : Ser} (h : serRead b = some x) : allOf ((L ++ [(10, n, b)]).map asFld) = allOf (L.map asFld) ++ [x] := by
  rw [List.map_append, List.map_singleton, allOf_snoc]
  simp [asFld, allStep, h]
theorem serOk_ten (n : Nat) (b : List UInt8) : serOk (asFld (10, n, b)) = (labRead b).isSome := by simp [asFld, serOk]
theorem serOk_eighteen (n : Nat) (b : List UInt8) : serOk (asFld (18, n, b)) = (samRead b).isSome := by simp [asFld, serOk]
theorem serOk_other {f : Fld} (h : f.1 ≠ 10) (h2 : f.1 ≠ 18) : serOk (asFld f) = true := by unfold serOk; rw [asFld_one, if_neg h, if_neg h2]
theorem serOf_other {L : List Fld} {f : Fld} (h : f.1 ≠ 10) (h2 : f.1 ≠ 18) : serOf ((L ++ [f]).map asFld) = serOf (L.map asFld) := by
  rw [List.map_append, List.map_singleton, serOf_snoc, serStep, asFld_one, if_neg h, if_neg h2]
theorem serOf_ten {L : List Fld} {n : Nat} {b : List UInt8} {x : Lab} (h : labRead b = some x) : serOf ((L ++ [(10, n, b)]).map asFld) = ((serOf (L.map asFld)).1 ++ [x], (serOf (L.map asFld)).2) := by
  rw [List.map_append, List.map_singleton, serOf_snoc]
  simp [asFld, serStep, h]
theorem serOf_eighteen {L : List Fld} {n : Nat} {b : List UInt8} {x : Sam} (h : samRead b = some x) : serOf ((L ++ [(18, n, b)]).map asFld) = ((serOf (L.map asFld)).1, (serOf (L.map asFld)).2 ++ [x]) := by
  rw [List.map_append, List.map_singleton, serOf_snoc]
  simp [asFld, serStep, h]
theorem labOf_step (L : List Fld) (f : Fld) : labOf ((L ++ [f]).map asFld) = labStep (labOf (L.map asFld)) (asFld f) := by
  rw [List.map_append, List.map_singleton, labOf_snoc]
theorem samOf_step (L : List Fld) (f : Fld) : samOf ((L ++ [f]).map asFld) = samStep (samOf (L.map asFld)) (asFld f) := by
  rw [List.map_append, List.map_singleton, samOf_snoc]
theorem labStep_ten (x : Lab) (n : Nat) (b : List UInt8) : labStep x (asFld (10, n, b)) = (b, x.2) := by simp [asFld, labStep]
theorem labStep_eighteen (x : Lab) (n : Nat) (b : List UInt8) : labStep x (asFld (18, n, b)) = (x.1, b) := by simp [asFld, labStep]
theorem labStep_other (x : Lab) {f : Fld} (h : f.1 ≠ 10) (h2 : f.1 ≠ 18) : labStep x (asFld f) = x := by unfold labStep; rw [asFld_one, if_neg h, if_neg h2]
theorem samStep_nine (x : Sam) (n : Nat) (b : List UInt8) : samStep x (asFld (9, n, b)) = (x.1, lowB b) := by simp [asFld, samStep]
theorem samStep_sixteen (x : Sam) (n : Nat) (b : List UInt8) : samStep x (asFld (16, n, b)) = (sgn n, x.2) := by simp [asFld, samStep]
theorem samStep_other (x : Sam) {f : Fld} (h : f.1 ≠ 9) (h2 : f.1 ≠ 16) : samStep x (asFld f) = x := by unfold samStep; rw [asFld_one, if_neg h, if_neg h2]
theorem rdErr_check {s : List UInt8} {l : List Ser} (h : allRead s = some l) : rdErr s = checkErr l := by
  unfold rdErr checkErr
  rw [h]
theorem all_snoc {p : Fld → Prop} {L L' : List Fld} {f : Fld} (e : L' = L ++ [f]) (h : ∀ g ∈ L, p g) (hf : p f) : ∀ g ∈ L', p g := by
  intro g hg
  rw [e] at hg
  rcases List.mem_append.1 hg with hg | hg
  · exact h g hg
  · simp at hg
    rw [hg]
    exact hf
def readsRaws (w : World) (B : Nat) (v : Value) (ls : List Fld) : Prop :=
  ∃ ao cp, v = .slice ao ls.length cp ∧ ∀ i (h : i < ls.length), ∃ g, ao = some ⟨g, 0, none⟩ ∧ g < B ∧ w.cell? ⟨g, i * 4, none⟩ = some (.int .i64 ((ls[i].1 : Int) / 8)) ∧ w.cell? ⟨g, i * 4 + 1, none⟩ = some (.int .i64 ((ls[i].1 : Int) % 8)) ∧ w.cell? ⟨g, i * 4 + 2, none⟩ = some (.int .u64 ls[i].2.1) ∧ w.cell? ⟨g, i * 4 + 3, none⟩ = some (.string (bs ls[i].2.2))
theorem reads_ownRaws {w : World} {B : Nat} {v : Value} {ls : List Fld} (h : ownRaws w B v ls) : readsRaws w w.heap.size v ls := by
  obtain ⟨ao, cp, e⟩ := own_shape h
  refine ⟨ao, cp, e, fun i hi => ?_⟩
  rcases h.2 with ⟨rfl, h0⟩ | ⟨g, cap, cur, rfl, h1, h2, h3⟩
  · omega
  · simp at e
    have hc := World.ownsRow.cells h (g := g) rfl
    have ha := rawCells_at ls i hi
    refine ⟨g, e.1.symm, lt_of_block h2, ?_, ?_, ?_, ?_⟩
    · have := hc _ _ ha.1
      rw [Addr.add_lit] at this
      simpa using this
    · have := hc _ _ ha.2.1
      rw [Addr.add_lit] at this
      simpa using this
    · have := hc _ _ ha.2.2.1
      rw [Addr.add_lit] at this
      simpa using this
    · have := hc _ _ ha.2.2.2
      rw [Addr.add_lit] at this
      simpa using this
/-- A label more, in the row that a call owns: as the walk has it. -/
theorem append_lab {W : World} {ops : Array Oper} {rest : List Oper} {o : Oper} {a : Act} {Q : Exit → Act → World → Prop} (hgd : o.guard = none) (s x : Operand)
    (ho : o.op = .call { callee := .builtin .append, args := #[s, x], argTypes := #[34, 34] })
    (base : Nat) (v : Value) (d : List Lab) (f : Lab) (hs : a.eval s = v) (hown : ownLabels W base v d) (hx : a.eval x = .slice (some ⟨W.heap.size, 0, none⟩) 1 1)
    (hlen : d.length ≤ 1000000) (hbase : base ≤ W.heap.size)
    (h : ∀ ao cp w', ownLabels w' base (.slice ao (d.length + 1) cp) (d ++ [f]) → Below base W w' → (W.alloc (.cells #[.string (bs f.1), .string (bs f.2)] 62)).grownBy w' v.ownBlock → wpList Tryz.prog ops Q rest (a.put o.dst (.slice ao (d.length + 1) cp)) w') :
    wpList Tryz.prog ops Q (o :: rest) a (W.alloc (.cells #[.string (bs f.1), .string (bs f.2)] 62)) := by
  obtain ⟨i0, hi0, hz0, hz1, hz2⟩ := info_parts Tryz.infoL
  have hb2 : Below base W (W.alloc (.cells #[.string (bs f.1), .string (bs f.2)] 62)) := (Below.refl _ _).alloc hbase _
  have hg2 : Grow W (W.alloc (.cells #[.string (bs f.1), .string (bs f.2)] 62)) := (Grow.refl _).alloc _
  have hnew := heap_alloc_new W (.cells #[.string (bs f.1), .string (bs f.2)] 62)
  have hsz := hb2.size
  generalize (W.alloc (.cells #[.string (bs f.1), .string (bs f.2)] 62)) = V at *
  obtain ⟨c0, c1⟩ := two_cells hnew
  have hown' := own_grow hown hg2
  refine wpList_append_own _ hgd s x 34 ho base 62 i0 _ 2 32 Tryz.underlying34 hi0 hz0 hz1 hz2 rfl (by omega) v d.length (labCells d) hs hown' ⟨W.heap.size, 0, none⟩ 1 1 [.string (bs f.1), .string (bs f.2)] hx rfl (fun j u hu => by
    rw [Addr.add_lit]
    match j, hu with
    | 0, hu => simp at hu; subst hu; simpa using c0
    | 1, hu => simp at hu; subst hu; simpa using c1) (by simp [Value.oneCell']) (by unfold maxLen; omega) (by omega) (by omega) ?_
  intro v' w' hown2 hgrow _
  obtain ⟨ao, cp, rfl⟩ := own_shape hown2
  refine h ao cp w' ?_ (hb2.grown hgrow (by omega) (fun k hk => (hown'.lt k hk).1)) hgrow
  show w'.ownsRow _ _ _ _ (d ++ [f]).length (labCells (d ++ [f]))
  rw [labCells_snoc, List.length_append]
  exact hown2
theorem append_sam {W : World} {ops : Array Oper} {rest : List Oper} {o : Oper} {a : Act} {Q : Exit → Act → World → Prop} (hgd : o.guard = none) (s x : Operand)
    (ho : o.op = .call { callee := .builtin .append, args := #[s, x], argTypes := #[35, 35] })
    (base : Nat) (v : Value) (d : List Sam) (f : Sam) (hs : a.eval s = v) (hown : ownSamples W base v d) (hx : a.eval x = .slice (some ⟨W.heap.size, 0, none⟩) 1 1)
    (hlen : d.length ≤ 1000000) (hbase : base ≤ W.heap.size)
    (h : ∀ ao cp w', ownSamples w' base (.slice ao (d.length + 1) cp) (d ++ [f]) → Below base W w' → (W.alloc (.cells #[.int .i64 f.1, .int .u64 f.2] 48)).grownBy w' v.ownBlock → wpList Tryz.prog ops Q rest (a.put o.dst (.slice ao (d.length + 1) cp)) w') :
    wpList Tryz.prog ops Q (o :: rest) a (W.alloc (.cells #[.int .i64 f.1, .int .u64 f.2] 48)) := by
  obtain ⟨i0, hi0, hz0, hz1, hz2⟩ := info_parts Tryz.infoS
  have hb2 : Below base W (W.alloc (.cells #[.int .i64 f.1, .int .u64 f.2] 48)) := (Below.refl _ _).alloc hbase _
  have hg2 : Grow W (W.alloc (.cells #[.int .i64 f.1, .int .u64 f.2] 48)) := (Grow.refl _).alloc _
  have hnew := heap_alloc_new W (.cells #[.int .i64 f.1, .int .u64 f.2] 48)
  have hsz := hb2.size
  generalize (W.alloc (.cells #[.int .i64 f.1, .int .u64 f.2] 48)) = V at *
  obtain ⟨c0, c1⟩ := two_cells hnew
  have hown' := own_grow hown hg2
  refine wpList_append_own _ hgd s x 35 ho base 48 i0 _ 2 16 Tryz.underlying35 hi0 hz0 hz1 hz2 rfl (by omega) v d.length (samCells d) hs hown' ⟨W.heap.size, 0, none⟩ 1 1 [.int .i64 f.1, .int .u64 f.2] hx rfl (fun j u hu => by
    rw [Addr.add_lit]
    match j, hu with
    | 0, hu => simp at hu; subst hu; simpa using c0
    | 1, hu => simp at hu; subst hu; simpa using c1) (by simp [Value.oneCell']) (by unfold maxLen; omega) (by omega) (by omega) ?_
  intro v' w' hown2 hgrow _
  obtain ⟨ao, cp, rfl⟩ := own_shape hown2
  refine h ao cp w' ?_ (hb2.grown hgrow (by omega) (fun k hk => (hown'.lt k hk).1)) hgrow
  show w'.ownsRow _ _ _ _ (d ++ [f]).length (samCells (d ++ [f]))
  rw [samCells_snoc, List.length_append]
  exact hown2
theorem append_ser {W : World} {ops : Array Oper} {rest : List Oper} {o : Oper} {a : Act} {Q : Exit → Act → World → Prop} (hgd : o.guard = none) (s x : Operand)
    (ho : o.op = .call { callee := .builtin .append, args := #[s, x], argTypes := #[22, 22] })
    (base : Nat) (v : Value) (d : List Ser) (f : Ser) (y1 y2 : Value) (hs : a.eval s = v) (hown : ownSeries W base v d) (h1 : ownLabels W base y1 f.1) (h2 : ownSamples W base y2 f.2) (hx : a.eval x = .slice (some ⟨W.heap.size, 0, none⟩) 1 1)
    (hlen : d.length ≤ 1000000) (hbase : base ≤ W.heap.size)
    (h : ∀ ao cp w', ownSeries w' base (.slice ao (d.length + 1) cp) (d ++ [f]) → Below base W w' → wpList Tryz.prog ops Q rest (a.put o.dst (.slice ao (d.length + 1) cp)) w') :
    wpList Tryz.prog ops Q (o :: rest) a (W.alloc (.cells #[y1, y2] 41)) := by
  obtain ⟨i0, hi0, hz0, hz1, hz2⟩ := info_parts Tryz.infoE
  have hb2 : Below base W (W.alloc (.cells #[y1, y2] 41)) := (Below.refl _ _).alloc hbase _
  have hg2 : Grow W (W.alloc (.cells #[y1, y2] 41)) := (Grow.refl _).alloc _
  have hnew := heap_alloc_new W (.cells #[y1, y2] 41)
  have hsz := hb2.size
  generalize (W.alloc (.cells #[y1, y2] 41)) = V at *
  obtain ⟨c0, c1⟩ := two_cells hnew
  obtain ⟨vs, hvl, hrow, hall⟩ := hown
  have hrow' := own_grow hrow hg2
  obtain ⟨ao1, cp1, e1⟩ := own_shape h1
  obtain ⟨ao2, cp2, e2⟩ := own_shape h2
  refine wpList_append_own _ hgd s x 22 ho base 41 i0 _ 2 48 Tryz.underlying22 hi0 hz0 hz1 hz2 rfl (by omega) v d.length (pairCells vs) hs hrow' ⟨W.heap.size, 0, none⟩ 1 1 [y1, y2] hx rfl (fun j u hu => by
    rw [Addr.add_lit]
    match j, hu with
    | 0, hu => simp at hu; subst hu; simpa using c0
    | 1, hu => simp at hu; subst hu; simpa using c1) (by rw [e1, e2]; simp [Value.oneCell']) (by unfold maxLen; omega) (by omega) (by omega) ?_
  intro v' w' hown2 hgrow _
  obtain ⟨ao, cp, rfl⟩ := own_shape hown2
  exact h ao cp w' (ownSeries_more hvl hrow' (fun i a s h1 h2 => ⟨own_grow (hall i a s h1 h2).1 hg2, own_grow (hall i a s h1 h2).2 hg2⟩) hgrow hown2 (own_grow h1 hg2) (own_grow h2 hg2)) (hb2.grown hgrow (by omega) (fun k hk => (hrow'.lt k hk).1))
end Go.Proofs.YtmdakfmecfcbhaaGreat
