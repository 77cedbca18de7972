/- 2 texts in one. -/
import Derived.Test.YtndpjdmfkhjiiaaGreatDoorProg
import Derived.Test.YtndpjdmfkhjiiaaGreatDoorK97fdc06
import Derived.Test.YtndpjdmfkhjiiaaGreatDoorKbff346a
import Derived.Test.YtndpjdmfkhjiiaaGreatDoorK395e834
import Derived.Test.YtndpjdmfkhjiiaaGreatDoorK1f74ead
import Derived.Test.YtndpjdmfkhjiiaaGreatDoorKac5e9b6
import Derived.Test.YtndpjdmfkhjiiaaGreatDoorKd9d6983
import Derived.BigQuiet
set_option linter.unusedVariables false
set_option linter.unusedSimpArgs false
namespace Go.Proofs.YtndpjdmfkhjiiaaGreatDoor
open Go.RowKit
attribute [local go_sem] bs_size bs_toList bs_append bs_get bs_extract
theorem run_append_new {P : Program} (w : World) (base : Nat) (t ty e : TypeId) (i : TypeInfo) (z : Value) (size bytes : Nat) (ht : P.underlying t = some (.slice e)) (hi : P.info? e = some i) (hz : i.zero = some z)
    (hsize : i.size = size) (hby : i.bytes = bytes) (hzs : z.cells.size = size) (hsz : 0 < size)
    (v : Value) (n : Nat) (xs : List Value) (hown : w.ownsRow base e size v n xs)
    (a : Addr) (m c : Nat) (news : List Value) (hl : news.length = m * size) (hnews : ∀ j u, news[j]? = some u → w.cell? (a.add j) = some u) (h1 : ∀ u ∈ news, u.oneCell' = true)
    (h63 : n + m ≤ maxLen) (hbytes : (n + m) * bytes ≤ 140737488355328) (hbase : base ≤ w.heap.size) :
    ∃ v' w', (Builtin.append_ #[t, t] ty #[v, .slice (some a) m c]).run P w = .ok v' w' ∧ w'.ownsRow base e size v' (n + m) (xs ++ news) ∧ w.grownBy w' v.ownBlock ∧
      (v'.ownBlock = v.ownBlock ∨ ∃ g, v'.ownBlock = some g ∧ w.heap.size ≤ g) := by
  obtain ⟨v', w', hr, h2, h3, h4⟩ := run_append_own (P := P) w base t ty e i z size bytes ht hi hz hsize hby hzs hsz v n xs hown a m c news hl hnews h1 h63 hbytes hbase
  refine ⟨v', w', hr, h2, h3, ?_⟩
  have hsmall : n + m ≤ 9223372036854775807 := by simp only [maxLen] at h63; omega
  rcases hown.2 with ⟨rfl, rfl⟩ | ⟨g, cap, cur, rfl, hbg, hg, hnc, hcm, hcs, htake⟩
  · obtain ⟨v2, w2, hr2, k2, k3, k4⟩ := run_append_own (P := P) w w.heap.size t ty e i z size bytes ht hi hz hsize hby hzs hsz (.slice none 0 0) 0 xs ⟨hown.1, .inl ⟨rfl, rfl⟩⟩ a m c news hl hnews h1 h63 hbytes (Nat.le_refl _)
    rw [hr] at hr2
    cases hr2
    rcases k2.2 with ⟨rfl, _⟩ | ⟨g, cap, cur, rfl, hbg, _⟩
    · exact .inl rfl
    · exact .inr ⟨g, rfl, hbg⟩
  · subst hsize
    subst hby
    by_cases hroom : n + m ≤ cap
    · have hfit : n * i.size + news.length ≤ cur.size := by rw [hl, hcs, ← Nat.add_mul]; exact Nat.mul_le_mul_right _ hroom
      have hr2 := run_append_room (P := P) w t ty e i ht hi g n cap cur hg a m c news hl hnews h1 hroom hfit
      rw [hr] at hr2
      cases hr2
      exact .inl rfl
    · have holds : ∀ j u, xs[j]? = some u → w.cell? ((⟨g, 0, none⟩ : Addr).add j) = some u := hown.cells (g := g) rfl
      have hr2 := run_append_grow (P := P) w t ty e i z ht hi hz ⟨g, 0, none⟩ n cap xs hown.1 holds a m c news hl hnews (by omega) (by omega) (growslice_fits (by omega) hbytes)
      rw [hr] at hr2
      cases hr2
      exact .inr ⟨_, rfl, Nat.le_refl _⟩
theorem Grow.grown {w w' : World} {row : Option Nat} (h : Grow w w') : w.grownBy w' row := ⟨h.os, h.tape, h.output, h.size, fun k hk _ => h.block k hk⟩
theorem grown_trans {a b c : World} {row : Option Nat} (h : a.grownBy b row) (k : b.grownBy c row) : a.grownBy c row :=
  ⟨k.os.trans h.os, k.tape.trans h.tape, k.output.trans h.output, Nat.le_trans h.size k.size, fun i hi hn => (k.block i (Nat.lt_of_lt_of_le hi h.size) hn).trans (h.block i hi hn)⟩
theorem intsV_append (a b : List Nat) : intsV (a ++ b) = intsV a ++ intsV b := by simp [intsV]
theorem intsV_oneCell (l : List Nat) : ∀ u ∈ intsV l, u.oneCell' = true := by
  intro u hu
  obtain ⟨_, _, rfl⟩ := List.mem_map.1 hu
  rfl
theorem Tryz.infoI : (Tryz.prog.info? 3).map (fun i => (i.zero, i.size, i.bytes)) = some (some (.int .i64 0), 1, 8) := by kernel_rfl
theorem Tryz.infoSt : (Tryz.prog.info? 150).any (fun i => i.size == 7 && i.bytes == 72 && (match i.zero with | some z => z.cells.size == 7 | none => false)) = true := by kernel_rfl
theorem info_some {x : Option TypeInfo} {n b : Nat} (h : x.any (fun i => i.size == n && i.bytes == b && (match i.zero with | some z => z.cells.size == n | none => false)) = true) : ∃ i z, x = some i ∧ i.zero = some z ∧ i.size = n ∧ i.bytes = b ∧ z.cells.size = n := by
  cases x with
  | none => simp at h
  | some i =>
    simp only [Option.any_some, Bool.and_eq_true, beq_iff_eq] at h
    obtain ⟨⟨h1, h2⟩, h3⟩ := h
    cases hz : i.zero with
    | none => rw [hz] at h3; cases h3
    | some z => rw [hz] at h3; exact ⟨i, z, rfl, hz, h1, h2, by simpa using h3⟩
/-- What holds while a row grows by an append: ahead of it and behind it. -/
def appJ (w : World) (B e size : Nat) (v : Value) (n k : Nat) (xs news : List Value) (done : Bool) (x : Value) (w' : World) : Prop :=
  w.grownBy w' v.ownBlock ∧ (done = false → w'.ownsRow B e size v n xs) ∧ (done = true → w'.ownsRow B e size x (n + k) (xs ++ news) ∧ (x.ownBlock = v.ownBlock ∨ ∃ g, x.ownBlock = some g ∧ w.heap.size ≤ g))
theorem appJ.grow {w B e size v n k xs news d x w' w''} (h : appJ w B e size v n k xs news d x w') (g : Grow w' w'') : appJ w B e size v n k xs news d x w'' :=
  ⟨grown_trans h.1 g.grown, fun e => own_grow (h.2.1 e) g, fun e => ⟨own_grow (h.2.2 e).1 g, (h.2.2 e).2⟩⟩
/-- What a literal laid, as long as it lies. -/
def newJ (w : World) (e : Nat) (cs : Array Value) (done : Bool) (x : Value) (w' : World) : Prop :=
  done = true → ∃ b, x = .slice (some ⟨b, 0, none⟩) 1 1 ∧ w.heap.size ≤ b ∧ w'.heap[b]? = some (.cells cs e (0, 0))
theorem newJ.grow {w e cs d x w' w''} (h : newJ w e cs d x w') (g : Grow w' w'') : newJ w e cs d x w'' := fun hd => by
  obtain ⟨b, h1, h2, h3⟩ := h hd
  exact ⟨b, h1, h2, g.get h3⟩
theorem newJ.grown {w e cs d x w' w''} {row : Option Nat} (h : newJ w e cs d x w') (g : w'.grownBy w'' row) (hr : ∀ k, row = some k → k < w.heap.size) : newJ w e cs d x w'' := fun hd => by
  obtain ⟨b, h1, h2, h3⟩ := h hd
  exact ⟨b, h1, h2, grown_block g h3 (fun e => by have := hr b e; omega)⟩
set_option maxRecDepth 20000 in
set_option maxHeartbeats 4000000 in
theorem way_any (w : World) (F : Nat → Prop) (pb : Nat) (m : List UInt8) (i g fork to : Nat) (S : List St) (ws : List Nat) (hp : parserAt w F pb m i S g) (hf : S[fork]? = some (.fork ws)) (hws : ws.length ≤ 1000000) (hS : S.length ≤ 1000000) :
    Calls Tryz.prog 140 #[.pointer (some ⟨pb, 0, none⟩), .int .i64 fork, .int .i64 to] w fun e w' => e = .returned (.tuple #[]) ∧ KeptX F pb w w' ∧ parserAt w' F pb m i (S.set fork (.fork (ws ++ [to]))) g := by
  obtain ⟨sv, rs, ⟨hB, hb, hrow, hall, hap, hfs, hfw⟩, rfl⟩ := hp
  rw [List.length_map] at hS
  rw [List.getElem?_map] at hf
  obtain ⟨r, hr, hst⟩ : ∃ r, rs[fork]? = some r ∧ r.st = .fork ws := by
    cases hc : rs[fork]? with
    | none => rw [hc] at hf; cases hf
    | some r => rw [hc] at hf; exact ⟨r, rfl, by simpa using hf⟩
  have hfl : fork < rs.length := (List.getElem?_eq_some_iff.1 hr).1
  have hok := hall fork r hr
  have hown := hok.1
  rw [hst] at hown
  simp only [waysOf] at hown
  -- the row of steps is no empty one
  obtain ⟨sb, cp, rfl⟩ : ∃ sb cp, sv = .slice (some ⟨sb, 0, none⟩) rs.length cp := by
    rcases hrow.2 with ⟨_, h0⟩ | ⟨sb, cp, cur, h, _⟩
    · omega
    · exact ⟨sb, cp, h⟩
  have hcell : ∀ w' : World, w'.ownsRow 0 150 7 (.slice (some ⟨sb, 0, none⟩) rs.length cp) rs.length (rawCells rs) → w'.cell? ⟨sb, fork * 7 + 6, none⟩ = some r.wv := fun w' h => own_cell h (by rw [rawCells_at rs fork r hr 6 (by omega)]; rfl)
  have hno : r.wv.ownBlock ≠ some pb := hok.apart hb (by decide)
  have hno2 : r.wv.ownBlock ≠ some sb := by
    rcases hrow.2 with ⟨h, h0⟩ | ⟨sb', cp', cur, h, _, h2, _⟩
    · cases h
    · simp at h
      obtain ⟨rfl, rfl⟩ := h
      exact hok.apart h2 (by decide)
  obtain ⟨ao, wc, hwv⟩ := own_shape hown
  have hkeep : ∀ (w' : World) k, w.grownBy w' r.wv.ownBlock → r.wv.ownBlock ≠ some k → ∀ o, w.heap[k]? = some o → w'.heap[k]? = some o := fun w' k h hk o ho => grown_block h ho hk
  have hrow' : ∀ w' : World, w.grownBy w' r.wv.ownBlock → w'.ownsRow 0 150 7 (.slice (some ⟨sb, 0, none⟩) rs.length cp) rs.length (rawCells rs) := fun w' h =>
    World.ownsRow.kept hrow h (.inr (by rintro e; exact hno2 (e ▸ rfl)))
  obtain ⟨i0, hinf, hz0, hz1, hz2⟩ := info_parts Tryz.infoI
  have HR := hide hrow
  have HB := hide hb
  have HO := hide hown
  have HALL := hide hall
  have HAP := hide hap
  have HFS := hide hfs
  have HFW := hide hfw
  have HST := hide hst
  have HRR := hide hr
  have HW := hide hwv
  have hfl2 : (fork : Int) < rs.length := by omega
  clear hrow hb hown hall hap hfs hfw hst hr hok hf hwv
  go_enter Tryz.func140, Tryz.ntmps140
  go_wp2
  refine wp_region_state 20 26 Tryz.mixed2 rfl (by decide +kernel) (fun L vals w' => appJ w 0 3 1 r.wv ws.length 1 (intsV ws) (intsV [to]) (L 17) (vals 17) w' ∧ newJ w 3 #[.int .i64 to] (L 16) (vals 16) w')
    (fun L vals h => ?_)
    (fun j v => match j with
      | 0 => v = .pointer (some ⟨pb, 0, none⟩)
      | 1 => v = .pointer (some ⟨pb, 0, none⟩)
      | 2 => v = .pointer (some ⟨pb, 2, none⟩)
      | 3 => v = .pointer (some ⟨pb, 2, none⟩)
      | 4 => v = .slice (some ⟨sb, 0, none⟩) rs.length cp
      | 5 => v = .int .i64 fork
      | 6 => v = .pointer (some ⟨pb, 0, none⟩)
      | 7 => v = .pointer (some ⟨pb, 0, none⟩)
      | 8 => v = .pointer (some ⟨pb, 2, none⟩)
      | 9 => v = .pointer (some ⟨pb, 2, none⟩)
      | 10 => v = .slice (some ⟨sb, 0, none⟩) rs.length cp
      | 11 => v = .int .i64 fork
      | 12 => v = .pointer (some ⟨sb, fork * 7, none⟩)
      | 13 => v = .pointer (some ⟨sb, fork * 7 + 6, none⟩)
      | 14 => v = r.wv
      | 15 => v = .int .i64 to
      | 16 => True
      | 17 => ∃ ao' cp', v = .slice ao' (ws.length + 1) cp'
      | 18 => v = .pointer (some ⟨sb, fork * 7, none⟩)
      | _ => v = .pointer (some ⟨sb, fork * 7 + 6, none⟩))
    (fun _ _ => False) (fun _ _ _ _ h => h.elim) (fun j hi o ho a w2 L vals hLi hLc hLe hJ hoff hval hdep => ?_) (fun vals w2 L hL hJ hvals => ?_)
  · simp only [h]
    exact ⟨⟨⟨rfl, rfl, rfl, Nat.le_refl _, fun _ _ _ => rfl⟩, fun _ => HO.out, fun h => by cases h⟩, fun h => by cases h⟩
  · have hblk := hkeep w2 pb hJ.1.1 hno _ HB.out
    obtain ⟨c0, c1, c2, c3⟩ := four_cells hblk
    have hcw := hcell w2 (hrow' w2 hJ.1.1)
    match j, hi with
    | 0, _ =>
      obtain rfl := Option.some.inj ho
      have o0 := hoff 0 (by decide +kernel)
      simp at o0
      simp [opYields, go_sem, o0]
      exact hJ
    | 1, _ =>
      obtain rfl := Option.some.inj ho
      have d0 := hdep 0 (by decide +kernel)
      simp [slotOf, dstOf] at d0
      simp [opYields, go_sem, d0]
      exact hJ
    | 2, _ =>
      obtain rfl := Option.some.inj ho
      have d1 := hdep 1 (by decide +kernel)
      simp [slotOf, dstOf] at d1
      simp [opYields, go_sem, d1]
      exact hJ
    | 3, _ =>
      obtain rfl := Option.some.inj ho
      have d2 := hdep 2 (by decide +kernel)
      simp [slotOf, dstOf] at d2
      simp [opYields, go_sem, d2]
      exact hJ
    | 4, _ =>
      obtain rfl := Option.some.inj ho
      have d3 := hdep 3 (by decide +kernel)
      simp [slotOf, dstOf] at d3
      simp [opYields, go_sem, d3, c2]
      exact hJ
    | 5, _ =>
      obtain rfl := Option.some.inj ho
      have o1 := hoff 1 (by decide +kernel)
      simp at o1
      simp [opYields, go_sem, o1]
      exact hJ
    | 6, _ =>
      obtain rfl := Option.some.inj ho
      have o0 := hoff 0 (by decide +kernel)
      simp at o0
      simp [opYields, go_sem, o0]
      exact hJ
    | 7, _ =>
      obtain rfl := Option.some.inj ho
      have d6 := hdep 6 (by decide +kernel)
      simp [slotOf, dstOf] at d6
      simp [opYields, go_sem, d6]
      exact hJ
    | 8, _ =>
      obtain rfl := Option.some.inj ho
      have d7 := hdep 7 (by decide +kernel)
      simp [slotOf, dstOf] at d7
      simp [opYields, go_sem, d7]
      exact hJ
    | 9, _ =>
      obtain rfl := Option.some.inj ho
      have d8 := hdep 8 (by decide +kernel)
      simp [slotOf, dstOf] at d8
      simp [opYields, go_sem, d8]
      exact hJ
    | 10, _ =>
      obtain rfl := Option.some.inj ho
      have d9 := hdep 9 (by decide +kernel)
      simp [slotOf, dstOf] at d9
      simp [opYields, go_sem, d9, c2]
      exact hJ
    | 11, _ =>
      obtain rfl := Option.some.inj ho
      have o1 := hoff 1 (by decide +kernel)
      simp at o1
      simp [opYields, go_sem, o1]
      exact hJ
    | 12, _ =>
      obtain rfl := Option.some.inj ho
      have d10 := hdep 10 (by decide +kernel)
      simp [slotOf, dstOf] at d10
      have d11 := hdep 11 (by decide +kernel)
      simp [slotOf, dstOf] at d11
      simp [opYields, go_sem, d10, d11, hfl]
      exact hJ
    | 13, _ =>
      obtain rfl := Option.some.inj ho
      have d12 := hdep 12 (by decide +kernel)
      simp [slotOf, dstOf] at d12
      simp [opYields, go_sem, d12]
      exact hJ
    | 14, _ =>
      obtain rfl := Option.some.inj ho
      have d13 := hdep 13 (by decide +kernel)
      simp [slotOf, dstOf] at d13
      simp [opYields, go_sem, d13, hcw]
      exact hJ
    | 15, _ =>
      obtain rfl := Option.some.inj ho
      have o2 := hoff 2 (by decide +kernel)
      simp at o2
      simp [opYields, go_sem, o2]
      exact hJ
    | 16, _ =>
      obtain rfl := Option.some.inj ho
      have d15 := hdep 15 (by decide +kernel)
      simp [slotOf, dstOf] at d15
      simp [opYields, go_sem, d15]
      exact ⟨hJ.1.grow ((Grow.refl _).alloc _), fun _ => ⟨_, rfl, hJ.1.1.size, heap_alloc_new _ _⟩⟩
    | 17, _ =>
      obtain rfl := Option.some.inj ho
      have h16 := hLe 16 (by decide +kernel)
      have d14 := hdep 14 (by decide +kernel)
      have v16 := hval 16 (by decide +kernel)
      simp [slotOf, dstOf] at d14 v16
      have hown2 := hJ.1.2.1 hLi
      obtain ⟨nb, hx, hnb, hcell2⟩ := hJ.2 h16
      rw [hx] at v16
      obtain ⟨v', w3, hrun, hown3, hgrow, hnew⟩ := run_append_new (P := Tryz.prog) w2 0 46 46 3 i0 _ 1 8 Tryz.underlying46 hinf hz0 hz1 hz2 rfl (by omega) r.wv ws.length (intsV ws) hown2 ⟨nb, 0, none⟩ 1 1 (intsV [to]) rfl (fun q u hu => by
        match q, hu with
        | 0, hu =>
          simp [intsV] at hu
          subst hu
          rw [Addr.add_lit]
          exact cell_in hcell2 (by simp)) (intsV_oneCell _) (by unfold maxLen; omega) (by omega) (Nat.zero_le _)
      refine yields_append rfl (.tmp 20) (.tmp 22) _ _ rfl (v1 := r.wv) (v2 := .slice (some ⟨nb, 0, none⟩) 1 1) (by simpa [Act.eval] using d14) (by simpa [Act.eval] using v16) hrun ?_
      obtain ⟨ao', cp', rfl⟩ := own_shape hown3
      refine ⟨⟨⟨grown_trans hJ.1.1 hgrow, fun h => by simp at h, fun _ => ⟨hown3, ?_⟩⟩, ?_⟩, ao', cp', rfl⟩
      · rcases hnew with h | ⟨g', h, h2⟩
        · exact .inl h
        · exact .inr ⟨g', h, Nat.le_trans hJ.1.1.size h2⟩
      · exact hJ.2.grown hgrow (fun k hk => (HO.out.lt k hk).2)
    | 18, _ =>
      obtain rfl := Option.some.inj ho
      have d4 := hdep 4 (by decide +kernel)
      simp [slotOf, dstOf] at d4
      have d5 := hdep 5 (by decide +kernel)
      simp [slotOf, dstOf] at d5
      simp [opYields, go_sem, d4, d5, hfl]
      exact hJ
    | 19, _ =>
      obtain rfl := Option.some.inj ho
      have d18 := hdep 18 (by decide +kernel)
      simp [slotOf, dstOf] at d18
      simp [opYields, go_sem, d18]
      exact hJ
    | k + 20, h => exact absurd h (by omega)
  · have hblk := hkeep w2 pb hJ.1.1 hno _ HB.out
    have hrow2 := hrow' w2 hJ.1.1
    have h17 := hL 17 (by omega)
    obtain ⟨hown3, hnew⟩ := hJ.1.2.2 h17
    obtain ⟨ao', cp', v17⟩ := hvals 17 (by omega)
    have v19 := hvals 19 (by omega)
    simp only at v19
    rw [v17] at hown3 hnew
    have hcw := hcell w2 hrow2
    have hfz : w2.frozen? ⟨sb, fork * 7 + 6, none⟩ = false := own_free hrow2
    have H3 := hide hown3
    have HN := hide hnew
    have HG := hide hJ.1.1
    clear hvals hown3 hnew hJ
    simp [over, dstOf, Act.put, v17, v19]
    go_wp2
    go_end0
    have hpsb : pb ≠ sb := by
      rintro rfl
      exact own_apart hrow2 hblk (by decide) rfl
    have hsbF : ¬ F sb := HFS.out sb rfl
    obtain ⟨r', hr'⟩ : ∃ r' : Raw, r' = { r with st := .fork (ws ++ [to]), wv := .slice ao' (ws.length + 1) cp' } := ⟨_, rfl⟩
    have hset : ∀ k, k ≠ sb → (w2.setCell ⟨sb, fork * 7 + 6, none⟩ (.slice ao' (ws.length + 1) cp')).heap[k]? = w2.heap[k]? := fun k hk => Below.heap_setCell _ _ _ _ hk
    refine ⟨rfl, ⟨HG.out.os, HG.out.tape, HG.out.output, by simpa [World.setCell] using HG.out.size, fun k hk hn => ?_⟩, .slice (some ⟨sb, 0, none⟩) rs.length cp, rs.set fork r', ⟨?_, ?_, ?_, ?_, ?_, HFS.out, ?_⟩, ?_⟩
    · rw [hset k (by rintro rfl; exact hsbF hk)]
      exact HG.out.block k (hB k hk) (fun e => HFW.out fork r k HRR.out e.symm hk)
    · intro k hk
      have := hB k hk
      have := HG.out.size
      simp [World.setCell]; omega
    · rw [hset pb hpsb]; exact hblk
    · have h := own_set hrow2 (.slice ao' (ws.length + 1) cp') (i := fork * 7 + 6) (by rw [rawCells_length]; omega)
      have e := rawCells_set rs fork r r' HRR.out (by rw [hr']) (by rw [hr', HST.out]; rfl)
      rw [hr'] at e ⊢
      simp only at e
      rw [e] at h
      simpa using h
    · intro k x hx
      by_cases hk : fork = k
      · subst hk
        rw [List.getElem?_set_self hfl] at hx
        obtain rfl := Option.some.inj hx
        rw [hr']
        refine ⟨?_, trivial⟩
        have h : w2.ownsRow 0 3 1 (.slice ao' (ws.length + 1) cp') (ws ++ [to]).length (intsV (ws ++ [to])) := by rw [List.length_append, intsV_append]; exact H3.out
        exact ownsRow_setCell_other (a := ⟨sb, fork * 7 + 6, none⟩) h (by rintro e; rcases HN.out with h2 | ⟨q, h2, h3⟩; exact hno2 (h2 ▸ e); rw [e] at h2; have := (HR.out.lt sb rfl).2; simp at h2; omega) _
      · rw [List.getElem?_set_ne hk] at hx
        have hokx := HALL.out k x hx
        refine hokx.keep fun b hb => ?_
        have hb1 : b ≠ sb := by
          rintro rfl
          rcases HR.out.2 with ⟨h, _⟩ | ⟨sb', cp2, cur, h, _, h2, _⟩
          · cases h
          · simp at h
            obtain ⟨rfl, rfl⟩ := h
            exact hokx.apart h2 (by decide) hb
        rw [hset b hb1]
        exact HG.out.block b (hokx.1.lt b hb).2 (fun e => HAP.out fork k r x hk HRR.out hx b e.symm hb)
    · intro j k x y hjk hx hy b hb hb2
      by_cases h1 : fork = j
      · subst h1
        rw [List.getElem?_set_self hfl] at hx
        obtain rfl := Option.some.inj hx
        rw [List.getElem?_set_ne hjk] at hy
        have hlt := ((HALL.out k y hy).1.lt b hb2).2
        rw [hr'] at hb
        rcases HN.out with h2 | ⟨q, h2, h3⟩
        · exact HAP.out fork k r y hjk HRR.out hy b (by rw [← h2]; exact hb) hb2
        · rw [h2] at hb; cases hb; omega
      · rw [List.getElem?_set_ne h1] at hx
        by_cases h4 : fork = k
        · subst h4
          rw [List.getElem?_set_self hfl] at hy
          obtain rfl := Option.some.inj hy
          have hlt := ((HALL.out j x hx).1.lt b hb).2
          rw [hr'] at hb2
          rcases HN.out with h2 | ⟨q, h2, h3⟩
          · exact HAP.out fork j r x h1 HRR.out hx b (by rw [← h2]; exact hb2) hb
          · rw [h2] at hb2; cases hb2; omega
        · rw [List.getElem?_set_ne h4] at hy
          exact HAP.out j k x y hjk hx hy b hb hb2
    · intro j x b hx hb hf
      by_cases h1 : fork = j
      · subst h1
        rw [List.getElem?_set_self hfl] at hx
        obtain rfl := Option.some.inj hx
        rw [hr'] at hb
        rcases HN.out with h2 | ⟨q, h2, h3⟩
        · exact HFW.out fork r b HRR.out (by rw [← h2]; exact hb) hf
        · rw [h2] at hb; cases hb; have := hB b hf; omega
      · rw [List.getElem?_set_ne h1] at hx
        exact HFW.out j x b hx hb hf
    · rw [List.map_set, hr']
theorem isNu_true {c : UInt8} : isNu c = true ↔ (48 ≤ (c.toNat : Int) ∧ (c.toNat : Int) ≤ 57) := by
  simp only [isNu, Bool.and_eq_true, decide_eq_true_eq]; omega
theorem isAl_true {c : UInt8} : isAl c = true ↔ ((97 ≤ (c.toNat : Int) ∧ (c.toNat : Int) ≤ 122) ∨ (65 ≤ (c.toNat : Int) ∧ (c.toNat : Int) ≤ 90)) := by
  simp only [isAl, Bool.or_eq_true, Bool.and_eq_true, decide_eq_true_eq]; omega
theorem isNu_eq {c : UInt8} {b : Bool} (h : b = true ↔ (48 ≤ (c.toNat : Int) ∧ (c.toNat : Int) ≤ 57)) : isNu c = b := Bool.eq_iff_iff.2 (isNu_true.trans h.symm)
theorem isAl_eq {c : UInt8} {b : Bool} (h : b = true ↔ ((97 ≤ (c.toNat : Int) ∧ (c.toNat : Int) ≤ 122) ∨ (65 ≤ (c.toNat : Int) ∧ (c.toNat : Int) ≤ 90))) : isAl c = b := Bool.eq_iff_iff.2 (isAl_true.trans h.symm)
set_option maxHeartbeats 400000 in
theorem isDigit_any (c : UInt8) (w : World) : Calls Tryz.prog 115 #[.int .u8 (c.toNat : Int)] w fun e w' => e = .returned (.bool (isNu c)) ∧ w' = w := by
  have hc := c.toNat_lt
  by_cases h1 : 48 ≤ (c.toNat : Int)
  all_goals
    go_enter Tryz.func115, Tryz.ntmps115
    go_wp2
    go_ret
    exact ⟨ret_bool (Eq.symm (isNu_eq (by simp; omega))), rfl⟩
set_option maxHeartbeats 400000 in
theorem isLetter_any (c : UInt8) (w : World) : Calls Tryz.prog 172 #[.int .u8 (c.toNat : Int)] w fun e w' => e = .returned (.bool (isAl c)) ∧ w' = w := by
  have hc := c.toNat_lt
  go_enter Tryz.func172, Tryz.ntmps172
  go_wp2
  all_goals
    go_ret
    exact ⟨ret_bool (Eq.symm (isAl_eq (by simp; omega))), rfl⟩
/-- How many bytes the first piece of a template has: up to the next `$`, or what a `$` begins; 0: it is none. -/
def sizeT (l : List UInt8) : Nat :=
  if (l.getD 0 0).toNat ≠ 36 then (if 0 ≤ Lib.indexByte l 36 then (Lib.indexByte l 36).toNat else l.length)
  else if 2 ≤ l.length ∧ ((l.getD 1 0).toNat = 36 ∨ isNu (l.getD 1 0) = true) then 2
  else if 4 ≤ l.length ∧ (l.getD 1 0).toNat = 123 ∧ isNu (l.getD 2 0) = true ∧ (l.getD 3 0).toNat = 125 then 4
  else 0
set_option maxRecDepth 20000 in
set_option maxHeartbeats 8000000 in
theorem pieceSize_any (l : List UInt8) (w : World) (h0 : 0 < l.length) (hl : l.length ≤ maxLen) : Calls Tryz.prog 93 #[.string (bs l)] w fun e w' => e = .returned (.int .i64 (sizeT l)) ∧ w' = w := by
  unfold maxLen at hl
  obtain ⟨c0, hc0⟩ : ∃ c, l[0] = c := ⟨_, rfl⟩
  have g0 : l.getD 0 0 = c0 := by simp [List.getD, h0, hc0]
  by_cases hd : (c0.toNat : Int) = 36
  · have hd' : ((c0.toNat : Int) != 36) = false := by simp [hd]
    by_cases h2 : 2 ≤ l.length
    · obtain ⟨c1, hc1⟩ : ∃ c, l[1] = c := ⟨_, rfl⟩
      have g1 : l.getD 1 0 = c1 := by simp [List.getD, show 1 < l.length from h2, hc1]
      have hb1 := c1.toNat_lt
      by_cases hd1 : (c1.toNat : Int) = 36
      · have HZ : Hid (sizeT l = 2) := by
          show _ = _
          unfold sizeT
          rw [g0, g1, if_neg (by omega), if_pos ⟨h2, .inl (by omega)⟩]
        go_enter Tryz.func93, Tryz.ntmps93
        go_wp2
        go_ret
        exact ⟨ret_int (by rw [HZ.out]; rfl), rfl⟩
      · cases hn1 : isNu c1 with
        | true =>
          have HZ : Hid (sizeT l = 2) := by
            show _ = _
            unfold sizeT
            rw [g0, g1, if_neg (by omega), if_pos ⟨h2, .inr hn1⟩]
          have HN1 := hide hn1
          clear hn1
          go_enter Tryz.func93, Tryz.ntmps93
          go_wp2_with (go_at_call 115; refine (isDigit_any _ _).mono ?_; rintro e w' ⟨rfl, rfl⟩; rw [HN1.out])
          go_ret
          exact ⟨ret_int (by rw [HZ.out]; rfl), rfl⟩
        | false =>
          have HN1 := hide hn1
          have hfst : ¬ (2 ≤ l.length ∧ (c1.toNat = 36 ∨ isNu c1 = true)) := by
            rintro ⟨_, h | h⟩
            · omega
            · rw [hn1] at h; cases h
          clear hn1
          by_cases h4 : 4 ≤ l.length
          · obtain ⟨c2, hc2⟩ : ∃ c, l[2] = c := ⟨_, rfl⟩
            obtain ⟨c3, hc3⟩ : ∃ c, l[3] = c := ⟨_, rfl⟩
            have g2 : l.getD 2 0 = c2 := by simp [List.getD, show 2 < l.length from by omega, hc2]
            have g3 : l.getD 3 0 = c3 := by simp [List.getD, show 3 < l.length from by omega, hc3]
            have hb2 := c2.toNat_lt
            have hb3 := c3.toNat_lt
            by_cases h123 : (c1.toNat : Int) = 123
            · have q123 : ((c1.toNat : Int) == 123) = true := by simp [h123]
              have H123 := hide h123
              have t123 : c1.toNat = 123 := by omega
              have T123 := hide t123
              clear h123 t123
              cases hn2 : isNu c2 with
              | true =>
                have HN2 := hide hn2
                by_cases h125 : (c3.toNat : Int) = 125
                · have HZ : Hid (sizeT l = 4) := by
                    show _ = _
                    unfold sizeT
                    rw [g0, g1, g2, g3, if_neg (by omega), if_neg hfst, if_pos ⟨h4, T123.out, hn2, by omega⟩]
                  clear hn2 hfst
                  go_enter Tryz.func93, Tryz.ntmps93
                  go_wp2_with (go_at_call 115; refine (isDigit_any _ _).mono ?_; rintro e w' ⟨rfl, rfl⟩; first | rw [HN1.out] | rw [HN2.out])
                  go_ret
                  exact ⟨ret_int (by rw [HZ.out]; rfl), rfl⟩
                · have HZ : Hid (sizeT l = 0) := by
                    show _ = _
                    unfold sizeT
                    rw [g0, g1, g2, g3, if_neg (by omega), if_neg hfst, if_neg (fun h => by omega)]
                  clear hn2 hfst
                  go_enter Tryz.func93, Tryz.ntmps93
                  go_wp2_with (go_at_call 115; refine (isDigit_any _ _).mono ?_; rintro e w' ⟨rfl, rfl⟩; first | rw [HN1.out] | rw [HN2.out])
                  go_ret
                  exact ⟨ret_int (by rw [HZ.out]; rfl), rfl⟩
              | false =>
                have HN2 := hide hn2
                have HZ : Hid (sizeT l = 0) := by
                  show _ = _
                  unfold sizeT
                  rw [g0, g1, g2, g3, if_neg (by omega), if_neg hfst, if_neg (fun h => by have := h.2.2.1; rw [hn2] at this; cases this)]
                clear hn2 hfst
                go_enter Tryz.func93, Tryz.ntmps93
                go_wp2_with (go_at_call 115; refine (isDigit_any _ _).mono ?_; rintro e w' ⟨rfl, rfl⟩; first | rw [HN1.out] | rw [HN2.out])
                go_ret
                exact ⟨ret_int (by rw [HZ.out]; rfl), rfl⟩
            · have HZ : Hid (sizeT l = 0) := by
                show _ = _
                unfold sizeT
                rw [g0, g1, if_neg (by omega), if_neg hfst, if_neg (fun h => by omega)]
              clear hfst
              go_enter Tryz.func93, Tryz.ntmps93
              go_wp2_with (go_at_call 115; refine (isDigit_any _ _).mono ?_; rintro e w' ⟨rfl, rfl⟩; rw [HN1.out])
              go_ret
              exact ⟨ret_int (by rw [HZ.out]; rfl), rfl⟩
          · have HZ : Hid (sizeT l = 0) := by
              show _ = _
              unfold sizeT
              rw [g0, g1, if_neg (by omega), if_neg hfst, if_neg (fun h => h4 h.1)]
            clear hfst
            go_enter Tryz.func93, Tryz.ntmps93
            go_wp2_with (go_at_call 115; refine (isDigit_any _ _).mono ?_; rintro e w' ⟨rfl, rfl⟩; rw [HN1.out])
            go_ret
            exact ⟨ret_int (by rw [HZ.out]; rfl), rfl⟩
    · have HZ : Hid (sizeT l = 0) := by
        show _ = _
        unfold sizeT
        rw [g0, if_neg (by omega), if_neg (fun h => h2 h.1), if_neg (fun h => by omega)]
      go_enter Tryz.func93, Tryz.ntmps93
      go_wp2
      go_ret
      exact ⟨ret_int (by rw [HZ.out]; rfl), rfl⟩
  · have hd' : ((c0.toNat : Int) != 36) = true := by simp [hd]
    have HS := hide (Tryz.strings_IndexByte (bs l) 36 w)
    by_cases hi : 0 ≤ Lib.indexByte l 36
    · have HZ : Hid (sizeT l = (Lib.indexByte l 36).toNat) := by
        show _ = _
        unfold sizeT
        rw [g0, if_pos (by omega), if_pos hi]
      obtain ⟨X, hX⟩ : ∃ X, Lib.indexByte l 36 = X := ⟨_, rfl⟩
      have hX' : Lib.indexByte (bs l).data.toList (Int.toNat 36).toUInt8 = X := by rw [bs_data]; exact hX
      rw [hX'] at HS
      rw [hX] at hi HZ
      clear hX hX'
      go_enter Tryz.func93, Tryz.ntmps93
      go_wp2_with (go_at_call 114; refine HS.out.mono ?_; rintro e w' ⟨rfl, rfl⟩)
      go_ret
      exact ⟨ret_int (by rw [HZ.out]; omega), rfl⟩
    · have HZ : Hid (sizeT l = l.length) := by
        show _ = _
        unfold sizeT
        rw [g0, if_pos (by omega), if_neg hi]
      obtain ⟨X, hX⟩ : ∃ X, Lib.indexByte l 36 = X := ⟨_, rfl⟩
      have hX' : Lib.indexByte (bs l).data.toList (Int.toNat 36).toUInt8 = X := by rw [bs_data]; exact hX
      rw [hX'] at HS
      rw [hX] at hi
      clear hX hX'
      go_enter Tryz.func93, Tryz.ntmps93
      go_wp2_with (go_at_call 114; refine HS.out.mono ?_; rintro e w' ⟨rfl, rfl⟩)
      go_ret
      exact ⟨ret_int (by rw [HZ.out]), rfl⟩
end Go.Proofs.YtndpjdmfkhjiiaaGreatDoor
