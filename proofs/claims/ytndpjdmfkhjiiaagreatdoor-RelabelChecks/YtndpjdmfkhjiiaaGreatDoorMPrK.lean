/- The parser of masks: rows, and so all of it. -/
import Derived.Test.YtndpjdmfkhjiiaaGreatDoorProg
import Derived.Test.YtndpjdmfkhjiiaaGreatDoorKit
import Derived.Test.YtndpjdmfkhjiiaaGreatDoorMPar
import Derived.Test.YtndpjdmfkhjiiaaGreatDoorMLay
import Derived.Test.YtndpjdmfkhjiiaaGreatDoorMSet
import Derived.Test.YtndpjdmfkhjiiaaGreatDoorMWlk
import Derived.Test.YtndpjdmfkhjiiaaGreatDoorMPrA
import Derived.Test.YtndpjdmfkhjiiaaGreatDoorMPrB
import Derived.Test.YtndpjdmfkhjiiaaGreatDoorMPrC
import Derived.Test.YtndpjdmfkhjiiaaGreatDoorMPrD
import Derived.Test.YtndpjdmfkhjiiaaGreatDoorMPrG
import Derived.Test.YtndpjdmfkhjiiaaGreatDoorMPrH
import Derived.Test.YtndpjdmfkhjiiaaGreatDoorMPrI
import Derived.Test.YtndpjdmfkhjiiaaGreatDoorMPrJ
import Derived.BigQuiet
set_option linter.unusedVariables false
set_option linter.unusedSimpArgs false
namespace Go.Proofs.YtndpjdmfkhjiiaaGreatDoor
open Go.RowKit
attribute [local go_sem] bs_size bs_toList bs_append bs_get bs_extract

/-! ### rows, one behind the other -/
def rowsOf (rs : List Tr) (T : Tr) : Tr := rs.foldr Tr.row T
def szL : List Tr → Nat
  | [] => 0
  | r :: rs => sz r + 1 + szL rs
def startsL : List Tr → Nat → List Nat
  | [], _ => []
  | r :: rs, b => b :: startsL rs (b + sz r + 1)
def endsL : List Tr → Nat → List Nat
  | [], _ => []
  | r :: rs, b => (b + sz r) :: endsL rs (b + sz r + 1)
/-- Rows with what their ends go on at. -/
def compW (q : Nat → List Nat) : List Tr → Nat → Nat → List St
  | [], _, _ => []
  | r :: rs, k, b => comp r b 0 ++ .fork (q k) :: compW q rs (k + 1) (b + sz r + 1)

theorem szL_snoc (rs : List Tr) (r : Tr) : szL (rs ++ [r]) = szL rs + sz r + 1 := by
  induction rs with
  | nil => simp [szL]
  | cons x rs ih => simp [szL, ih]; omega
theorem compW_length (q) : ∀ rs k b, (compW q rs k b).length = szL rs
  | [], _, _ => rfl
  | r :: rs, k, b => by simp [compW, comp_length, compW_length q rs, szL]; omega
theorem startsL_snoc : ∀ (rs : List Tr) (r : Tr) (b : Nat), startsL (rs ++ [r]) b = startsL rs b ++ [b + szL rs]
  | [], r, b => by simp [startsL, szL]
  | x :: rs, r, b => by simp [startsL, szL, startsL_snoc rs]; omega
theorem startsL_length : ∀ (rs : List Tr) (b : Nat), (startsL rs b).length = rs.length
  | [], _ => rfl
  | x :: rs, b => by simp [startsL, startsL_length rs]
theorem endsL_snoc : ∀ (rs : List Tr) (r : Tr) (b : Nat), endsL (rs ++ [r]) b = endsL rs b ++ [b + szL rs + sz r]
  | [], r, b => by simp [endsL, szL]
  | x :: rs, r, b => by simp [endsL, szL, endsL_snoc rs]; omega
theorem endsL_length : ∀ (rs : List Tr) (b : Nat), (endsL rs b).length = rs.length
  | [], _ => rfl
  | x :: rs, b => by simp [endsL, endsL_length rs]
theorem compW_snoc (q) : ∀ (rs : List Tr) (r : Tr) (k b : Nat), compW q (rs ++ [r]) k b = compW q rs k b ++ (comp r (b + szL rs) 0 ++ [.fork (q (k + rs.length))])
  | [], r, k, b => by simp [compW, szL]
  | x :: rs, r, k, b => by
    simp only [List.cons_append, compW, compW_snoc q rs, szL, List.append_assoc, List.length_cons]
    rw [show b + sz x + 1 + szL rs = b + (sz x + 1 + szL rs) from by omega, show k + 1 + rs.length = k + (rs.length + 1) from by omega]
theorem compW_congr {q q' : Nat → List Nat} : ∀ (rs : List Tr) (k b : Nat), (∀ j, k ≤ j → j < k + rs.length → q j = q' j) → compW q rs k b = compW q' rs k b
  | [], _, _, _ => rfl
  | r :: rs, k, b, h => by
    rw [compW, compW, h k (by omega) (by simp), compW_congr rs (k + 1) _ (fun j h1 h2 => h j (by omega) (by simp; omega))]
theorem compW_comp (e : Nat) : ∀ (rs : List Tr) (k b : Nat), compW (fun _ => [e]) rs k b = comp (rowsOf rs .nil) b e
  | [], _, _ => rfl
  | r :: rs, k, b => by
    rw [compW, compW_comp e rs]
    rfl
theorem startsL_starts : ∀ (rs : List Tr) (b : Nat), startsL rs b = starts (rowsOf rs .nil) b
  | [], _ => rfl
  | r :: rs, b => by
    rw [startsL, startsL_starts rs]
    rfl
theorem szL_sz : ∀ rs : List Tr, szL rs = sz (rowsOf rs .nil)
  | [] => rfl
  | r :: rs => by
    rw [szL, szL_sz rs]
    rfl
theorem endsL_ge : ∀ (rs : List Tr) (b n : Nat) (x : Nat), (endsL rs b)[n]? = some x → b ≤ x
  | [], b, n, x, h => by simp [endsL] at h
  | r :: rs, b, 0, x, h => by simp [endsL] at h; omega
  | r :: rs, b, n + 1, x, h => by
    have := endsL_ge rs (b + sz r + 1) n x (by simpa [endsL] using h)
    omega
theorem compW_get (q) : ∀ (rs : List Tr) (k b n : Nat) (x : Nat), (endsL rs b)[n]? = some x → (compW q rs k b)[x - b]? = some (.fork (q (k + n)))
  | [], k, b, n, x, h => by simp [endsL] at h
  | r :: rs, k, b, 0, x, h => by
    simp [endsL] at h
    subst h
    rw [compW, show b + sz r - b = (comp r b 0).length from by rw [comp_length]; omega, List.getElem?_append_right (Nat.le_refl _)]
    simp
  | r :: rs, k, b, n + 1, x, h => by
    have h' : (endsL rs (b + sz r + 1))[n]? = some x := by simpa [endsL] using h
    have hge := endsL_ge rs _ _ _ h'
    rw [compW, show x - b = (comp r b 0).length + (1 + (x - (b + sz r + 1))) from by rw [comp_length]; omega, List.getElem?_append_right (by omega), Nat.add_sub_cancel_left, Nat.add_comm 1, List.getElem?_cons_succ, compW_get q rs _ _ _ _ h']
    rw [show k + 1 + n = k + (n + 1) from by omega]
theorem compW_set (q : Nat → List Nat) (u : List Nat) : ∀ (rs : List Tr) (k b n : Nat) (x : Nat), (endsL rs b)[n]? = some x → (compW q rs k b).set (x - b) (.fork u) = compW (fun j => if j = k + n then u else q j) rs k b
  | [], k, b, n, x, h => by simp [endsL] at h
  | r :: rs, k, b, 0, x, h => by
    simp [endsL] at h
    subst h
    rw [compW, compW, show b + sz r - b = (comp r b 0).length from by rw [comp_length]; omega, List.set_append_right _ _ (Nat.le_refl _), Nat.sub_self, List.set_cons_zero]
    rw [if_pos (by omega)]
    congr 2
    exact compW_congr rs _ _ (fun j h1 h2 => by rw [if_neg (by omega)])
  | r :: rs, k, b, n + 1, x, h => by
    have h' : (endsL rs (b + sz r + 1))[n]? = some x := by simpa [endsL] using h
    have hge := endsL_ge rs _ _ _ h'
    rw [compW, compW, show x - b = (comp r b 0).length + (1 + (x - (b + sz r + 1))) from by rw [comp_length]; omega, List.set_append_right _ _ (by omega), Nat.add_sub_cancel_left, Nat.add_comm 1, List.set_cons_succ, compW_set q u rs _ _ _ _ h']
    rw [if_neg (by omega)]
    congr 2
    exact compW_congr rs _ _ (fun j h1 h2 => by
      by_cases e : j = k + 1 + n
      · rw [if_pos e, if_pos (by omega)]
      · rw [if_neg e, if_neg (by omega)])
theorem nothing_rows : ∀ rs : List Tr, rs ≠ [] → nothing (rowsOf rs .nil) = rs.any nothing
  | [], h => absurd rfl h
  | [r], _ => by simp [rowsOf, nothing]
  | r :: x :: rs, _ => by
    have ih := nothing_rows (x :: rs) (by simp)
    have : nothing (rowsOf (r :: x :: rs) .nil) = (nothing r || nothing (rowsOf (x :: rs) .nil)) := rfl
    rw [this, ih]
    rfl

/-! ### memory -/
theorem parserAt.grown {w w' : World} {F F' : Nat → Prop} {pb : Nat} {m : List UInt8} {i g : Nat} {S : List St} {row : Option Nat} (h : parserAt w F pb m i S g) (hg : w.grownBy w' row) (hr : ∀ k, row = some k → F k) (hpb : row ≠ some pb) (hF : ∀ k, F' k → k < w'.heap.size ∧ (F k ∨ w.heap.size ≤ k)) : parserAt w' F' pb m i S g := by
  obtain ⟨sv, rs, ⟨h1, h2, h3, h4, h5, h6, h7⟩, e⟩ := h
  refine ⟨sv, rs, ⟨fun k hk => (hF k hk).1, grown_block hg h2 hpb, ?_, fun j r hj => (h4 j r hj).keep fun b hb => ?_, h5, fun b hb hf => ?_, fun j r b hj hb hf => ?_⟩, e⟩
  · refine World.ownsRow.kept h3 hg ?_
    cases hv : sv.ownBlock with
    | none => exact .inl rfl
    | some b => exact .inr (fun e => h6 b hv (hr b e.symm))
  · exact hg.block b ((h4 j r hj).1.lt b hb).2 (fun e => h7 j r b hj hb (hr b e.symm))
  · rcases (hF b hf).2 with k | k
    · exact h6 b hb k
    · have := (h3.lt b hb).2; omega
  · rcases (hF b hf).2 with k | k
    · exact h7 j r b hj hb k
    · have := ((h4 j r hj).1.lt b hb).2; omega

theorem wpList_append_new {P : Program} {w : World} {ops : Array Oper} {rest : List Oper} {o : Oper} {a : Act} {Q : Exit → Act → World → Prop} (hgd : o.guard = none) (s x : Operand) (t : TypeId)
    (ho : o.op = .call { callee := .builtin .append, args := #[s, x], argTypes := #[t, t] })
    (base : Nat) (e : TypeId) (i : TypeInfo) (z : Value) (size bytes : Nat) (ht : P.underlying t = some (.slice e)) (hi : P.info? e = some i) (hz : i.zero = some z)
    (hsize : i.size = size) (hby : i.bytes = bytes) (hzs : z.cells.size = size) (hsz : 0 < size)
    (v : Value) (n : Nat) (xs : List Value) (hs : a.eval s = v) (hown : w.ownsRow base e size v n xs)
    (ad : Addr) (m c : Nat) (news : List Value) (hx : a.eval x = .slice (some ad) m c) (hl : news.length = m * size) (hnews : ∀ j u, news[j]? = some u → w.cell? (ad.add j) = some u) (h1 : ∀ u ∈ news, u.oneCell' = true)
    (h63 : n + m ≤ maxLen) (hbytes : (n + m) * bytes ≤ 140737488355328) (hbase : base ≤ w.heap.size)
    (h : ∀ v' w', w'.ownsRow base e size v' (n + m) (xs ++ news) → w.grownBy w' v.ownBlock → (v'.ownBlock = v.ownBlock ∨ ∃ g, v'.ownBlock = some g ∧ w.heap.size ≤ g) → wpList P ops Q rest (a.put o.dst v') w') : wpList P ops Q (o :: rest) a w :=
  wpList_plain hgd fun _ hK => by
    obtain ⟨v', w', hr, h2, h3, h4⟩ := run_append_new (P := P) w base t o.type e i z size bytes ht hi hz hsize hby hzs hsz v n xs hown ad m c news hl hnews h1 h63 hbytes hbase
    unfold Oper.wp execOp
    simp only [ho, resolve, invoke, builtin, Sem.run_bind, Sem.run_pure, Result.andThen_ok, List.map_toArray, List.map_cons, List.map_nil, hs, hx, hr]
    exact hK _ _ (h v' w' h2 h3 h4)

/-- What is to stay, and a row besides. -/
def andRow (F : Nat → Prop) (v : Value) : Nat → Prop := fun k => F k ∨ v.ownBlock = some k
def boolN : Value → Nat
  | .bool true => 1
  | _ => 0
/-- Rows that are under way: more of them, or no more. -/
def goesR (m : List UInt8) (f i g : Nat) (rs : List Tr) (i' g' : Nat) (more : Bool) : Prop :=
  (more = true → ∃ f', f' ≤ f ∧ pM m f true i g = bindO (pM m f' true i' g') fun z => some (.ok (rowsOf rs z.1, z.2))) ∧
  (more = false → rs ≠ [] ∧ pM m f true i g = some (.ok (rowsOf rs .nil, i', g')))

set_option maxRecDepth 20000 in
set_option maxHeartbeats 4000000 in
theorem rows_any {m : List UInt8} {f : Nat} (hm : m.length ≤ 10000) (hf : ∀ f', f' < f → RowsOK m f') : RowsOK m f := by
  intro w F pb i g S y hp hi hg hS hy
  have HF := hide hf
  have HY := hide hy
  have HP := hide hp
  clear hf hy hp
  obtain ⟨i0, hinf, hz0, hz1, hz2⟩ := info_parts Tryz.infoI
  go_enter Tryz.func121, Tryz.ntmps121
  go_wp2_with fail
  refine (add_any w F pb m i g S ⟨.fork [], 0, 0, 0, 0, 0, .slice none 0 0⟩ HP.out rfl (fun w => ⟨World.ownsRow_nil _ _ _ _, trivial⟩) (by omega)).mono ?_
  rintro e w1 ⟨rfl, hk1, hp1⟩
  have HK1 := hide hk1
  have HP1 : Hid (parserAt w1 F pb m i (S ++ [.fork []]) g) := hide hp1
  clear hk1 hp1
  obtain ⟨b, HB⟩ : ∃ b, Hid (S.length = b) := ⟨_, hide rfl⟩
  rw [HB.out] at hS ⊢
  go_wp2_with fail
  go_loopw [4, 5, 6] (fun ve vn vm wr => ∃ rs i' g' nul more, vn = .bool nul ∧ vm = .bool more ∧ i' ≤ m.length ∧ g' ≤ 9 ∧ b + 1 + szL rs + 8 * (m.length - i') ≤ 100002 ∧ (more = true → b + 1 + szL rs + 8 * (m.length - i') ≤ 100001) ∧ rs.length ≤ 10001 ∧ (more = true → rs.length ≤ i') ∧ Hid (wr.ownsRow w.heap.size 3 1 ve rs.length (intsV (endsL rs (b + 1)))) ∧
      Hid (parserAt wr (andRow F ve) pb m i' (S ++ .fork (startsL rs (b + 1)) :: compW (fun _ => []) rs 0 (b + 1)) g') ∧ Hid (KeptX F pb w wr) ∧ Hid (nul = rs.any nothing) ∧ Hid (goesR m f i g rs i' g' more)) (fun _ _ vm wr => m.length - placeOf wr pb + boolN vm)
  case atStart =>
    refine ⟨[], i, g, false, true, rfl, rfl, hi, hg, by simp [szL]; omega, fun _ => by simp [szL]; omega, by simp, fun _ => by simp, hide (World.ownsRow_nil _ _ _ _), hide ?_, HK1, hide rfl, hide ⟨fun _ => ⟨f, Nat.le_refl _, ?_⟩, fun h => by cases h⟩⟩
    · exact HP1.out.less (fun k hk => by rcases hk with h | h; exact h; cases h)
    · rw [HY.out]
      match y with
      | .error e => rfl
      | .ok x => rfl
  case round =>
    obtain ⟨rs, i', g', nul, more, rfl, rfl, hi', hg', hbd, hbm, hrl, hrm, HO, HPr, HKr, HN, HG⟩ := hrel
    rename World => wr
    obtain ⟨ve, rfl⟩ : ∃ ve, ve = u4 := ⟨_, rfl⟩
    have hpl := HPr.out.place
    obtain ⟨vb, vc, hve⟩ := own_shape HO.out
    have HVE := hide hve
    clear hve
    obtain ⟨hpb, hroom, ao, cp, hblk⟩ := HPr.out.cells
    have hvp : ve.ownBlock ≠ some pb := own_apart HO.out hblk (by decide)
    have hFr := HP.out.room
    have hln : (S ++ .fork (startsL rs (b + 1)) :: compW (fun _ => []) rs 0 (b + 1)).length = b + 1 + szL rs := by
      rw [List.length_append, List.length_cons, compW_length, HB.out]; omega
    rw [hln] at hblk
    obtain ⟨p, HPp⟩ : ∃ p, Hid (b + 1 + szL rs = p) := ⟨_, hide rfl⟩
    rw [HPp.out] at hblk hbd hbm hln
    obtain ⟨c0, c1, c2, c3⟩ := four_cells hblk
    have HLN := hide hln
    have HHV := hide hvp
    have HFR := hide hFr
    clear hblk c0 c1 c3 hln hvp hFr hroom hpb
    cases more with
    | true =>
      obtain ⟨f', hff, hG⟩ := HG.out.1 rfl
      have hbm2 := hbm rfl
      have hrm2 := hrm rfl
      clear hbm hrm
      obtain ⟨k, rfl⟩ : ∃ k, f' = k + 1 := by
        cases f' with
        | zero => rw [HY.out, pM] at hG; cases hG
        | succ k => exact ⟨k, rfl⟩
      have HGG := hide hG
      obtain ⟨y0, hy0⟩ : ∃ y0, pM m k false i' g' = some y0 := by
        cases h : pM m k false i' g' with
        | none => rw [HY.out, pM, h] at hG; cases hG
        | some y0 => exact ⟨y0, rfl⟩
      have HY0 := hide hy0
      clear hG hy0
      go_wp2_with fail
      refine (way_any wr (andRow F ve) pb m i' g' b p _ (startsL rs (b + 1)) HPr.out (by rw [← HB.out]; exact get_at S _ _) (by rw [startsL_length]; omega) (by rw [HLN.out]; omega)).mono ?_
      rintro e w2 ⟨rfl, hk2, hp2⟩
      have HK2 := hide hk2
      have HP2 : Hid (parserAt w2 (andRow F ve) pb m i' (S ++ .fork (startsL rs (b + 1) ++ [p]) :: compW (fun _ => []) rs 0 (b + 1)) g') := by
        have := set_at S (.fork (startsL rs (b + 1))) (.fork (startsL rs (b + 1) ++ [p])) (compW (fun _ => []) rs 0 (b + 1))
        rw [HB.out] at this
        rw [this] at hp2
        exact hide hp2
      have hl2 : (S ++ .fork (startsL rs (b + 1) ++ [p]) :: compW (fun _ => []) rs 0 (b + 1)).length = p := by
        rw [← HPp.out, List.length_append, List.length_cons, compW_length, HB.out]; omega
      have HL2 := hide hl2
      clear hk2 hp2 c2 hl2
      go_wp2_with fail
      refine (row_any (f := k) (fun f'' h => HF.out f'' (by omega)) w2 (andRow F ve) pb i' g' _ y0 HP2.out hi' hg' (by rw [HL2.out]; exact hbm2) hm HY0.out).mono ?_
      rintro e w3 ⟨hk3, he⟩
      have HK3 := hide (HK2.out.trans hk3)
      match y0, he, HY0 with
      | .error x, he, HY0 =>
        simp only at he
        subst he
        have HE : Hid (y = .error x) := by
          show _ = _
          have h := HGG.out
          rw [HY.out, pM, HY0.out] at h
          exact Option.some.inj h
        exact ⟨rfl, HKr.out.trans (HK3.out.less fun k hk => .inl hk), by rw [HE.out]⟩
      | .ok (r, j, h), he, HY0 =>
        simp only at he
        obtain ⟨rfl, hp3⟩ := he
        have hjo := pM_ok HY0.out hi'
        have hjs := pM_sz HY0.out hi'
        have hjg := (pM_is HY0.out).2.2.2.1 hg'
        simp at hjo hjs hjg
        rw [HL2.out] at hp3
        have HP3 := hide hp3
        have HPG : Hid (pM m f true i g = if isAt m j 124 then bindO (pM m k true (j + 1) h) fun z => some (.ok (rowsOf (rs ++ [r]) z.1, z.2)) else some (.ok (rowsOf (rs ++ [r]) .nil, j, h))) := by
          show _ = _
          rw [HGG.out, pM, HY0.out]
          by_cases hd : isAt m j 124 = true
          · rw [if_pos hd, bindO_assoc]
            simp only [bindO]
            rw [if_pos hd]
            match pM m k true (j + 1) h with
            | none => rfl
            | some (.error e) => rfl
            | some (.ok z) => simp [rowsOf, List.foldr_append]
          · rw [if_neg hd, bindO_assoc]
            simp only [bindO]
            rw [if_neg hd]
            simp [rowsOf, List.foldr_append]
        have hsz3 : (S ++ .fork (startsL rs (b + 1) ++ [p]) :: compW (fun _ => []) rs 0 (b + 1) ++ comp r p 0).length = p + sz r := by
          rw [List.length_append, comp_length, HL2.out]
        have HS3 := hide hsz3
        clear hk3 hp3 hsz3
        obtain ⟨nr, HNR⟩ : ∃ nr, Hid (nothing r = nr) := ⟨_, hide rfl⟩
        rw [HNR.out]
        -- both ways go on alike
        obtain ⟨S3, HS3e⟩ : ∃ S3, Hid (S ++ .fork (startsL rs (b + 1) ++ [p]) :: compW (fun _ => []) rs 0 (b + 1) ++ comp r p 0 = S3) := ⟨_, hide rfl⟩
        rw [HS3e.out] at HP3 HS3
        have hjp : j ≤ m.length := hjo.2
        obtain ⟨q, HQ⟩ : ∃ q, Hid (p + sz r = q) := ⟨_, hide rfl⟩
        have hql : q ≤ 1000000 := by have := HQ.out; omega
        cases nr with
        | true =>
          go_wp2_with fail
          refine (add_any w3 (andRow F ve) pb m j h S3 ⟨.fork [], 0, 0, 0, 0, 0, .slice none 0 0⟩ HP3.out rfl (fun w => ⟨World.ownsRow_nil _ _ _ _, trivial⟩) (by rw [HS3.out]; omega)).mono ?_
          rintro e w4 ⟨rfl, hk4, hp4⟩
          have HK4 := hide (HK3.out.trans hk4)
          have HP4 : Hid (parserAt w4 (andRow F ve) pb m j (S3 ++ [.fork []]) h) := hide hp4
          clear hk4 hp4
          have ho4 : w4.ownsRow w.heap.size 3 1 ve rs.length (intsV (endsL rs (b + 1))) := own_keep HO.out (fun g hg => HK4.out.block g (.inr hg) (fun e => HHV.out (e ▸ hg)))
          have hs4 : w.heap.size ≤ w4.heap.size := Nat.le_trans HKr.out.size HK4.out.size
          rw [HS3.out, HQ.out]
          obtain ⟨W5, HW5⟩ : ∃ W5, Hid (W5 = w4.alloc (.cells #[.int .i64 (q : Int)] 3)) := ⟨_, hide rfl⟩
          have g5 : Grow w4 W5 := by rw [HW5.out]; exact (Grow.refl _).alloc _
          have ho5 := own_grow ho4 g5
          have hb5 : W5.heap[w4.heap.size]? = some (.cells #[.int .i64 (q : Int)] 3 (0, 0)) := by rw [HW5.out]; exact heap_alloc_new _ _
          have hs5 : W5.heap.size = w4.heap.size + 1 := by rw [HW5.out]; simp
          have HO5 := hide ho5
          have HB5 := hide hb5
          have HP5 := hide (HP4.out.grow g5)
          have G5 := hide g5
          have eW5 := HW5.out.symm
          clear ho4 ho5 hb5 g5
          go_wp2_with (at_builtin; refine wpList_append_new rfl _ _ 46 rfl w.heap.size 3 i0 _ 1 8 Tryz.underlying46 hinf hz0 hz1 hz2 rfl (by omega) ve rs.length (intsV (endsL rs (b + 1))) rfl HO5.out ⟨w4.heap.size, 0, none⟩ 1 1 (intsV [q]) rfl rfl (fun z u hu => by
              match z, hu with
              | 0, hu =>
                simp [intsV] at hu
                subst hu
                rw [Addr.add_lit]
                exact cell_in HB5.out (by simp)) (intsV_oneCell _) (by unfold maxLen; omega) (by omega) (by omega) ?_; intro v' w6 hown' hgrow hnew; clear eW5; rw [← intsV_append] at hown'; have HO6 := hide hown'; have HG6 := hide hgrow; have HN6 := hide hnew; clear hown' hgrow hnew)
          have hp6 : parserAt w6 (andRow F v') pb m j (S3 ++ [.fork []]) h := HP5.out.grown HG6.out (fun k hk => .inr hk) HHV.out (fun k hk => by
            rcases hk with hk | hk
            · have := HFR.out k hk
              have := HG6.out.size
              exact ⟨by omega, .inl (.inl hk)⟩
            · refine ⟨(HO6.out.lt k hk).2, ?_⟩
              rcases HN6.out with h | ⟨z, h, h2⟩
              · exact .inl (.inr (h ▸ hk))
              · rw [h] at hk; cases hk; exact .inr h2)
          have HP6 := hide hp6
          have HK6 : Hid (KeptX F pb w w6) := hide (HKr.out.trans ((HK4.out.less fun k hk => .inl hk).trans ⟨HG6.out.os.trans G5.out.os, HG6.out.tape.trans G5.out.tape, HG6.out.output.trans G5.out.output, Nat.le_trans G5.out.size HG6.out.size, fun k hk hn => (HG6.out.block k (by have := HFR.out k hk; omega) (fun e => by have := (HO5.out.lt k e.symm).1; have := HFR.out k hk; omega)).trans (G5.out.block k (by have := HFR.out k hk; omega))⟩))
          clear hp6
          go_wp2_with fail
          refine (skip_any w6 (andRow F v') pb m [124] j h _ HP6.out (by omega) hjp).mono ?_
          rintro e w7 ⟨rfl, hk7, hp7⟩
          rw [comesB_nat _ _ 124 124 rfl] at hp7 ⊢
          have hv6 : v'.ownBlock ≠ some pb := by
            obtain ⟨_, _, _, _, hb⟩ := HP6.out.cells
            exact own_apart HO6.out hb (by decide)
          have ho7 : w7.ownsRow w.heap.size 3 1 v' (rs ++ [r]).length (intsV (endsL (rs ++ [r]) (b + 1))) := by
            rw [endsL_snoc, HPp.out, HQ.out, List.length_append]
            exact own_keep HO6.out (fun z hz => hk7.block z (HO6.out.lt z hz).2 (fun e => hv6 (e ▸ hz)) (fun e => hv6 (e ▸ hz)))
          have HO7 := hide ho7
          have HK7 := hide (HK6.out.trans (keptX_two hk7 (fun k hk => by have := HFR.out k hk; have := HK6.out.size; omega)))
          have heq : S3 ++ [St.fork []] = S ++ .fork (startsL (rs ++ [r]) (b + 1)) :: compW (fun _ => []) (rs ++ [r]) 0 (b + 1) := by
            rw [← HS3e.out, startsL_snoc, compW_snoc, HPp.out]
            simp
          rw [heq] at hp7
          have HN7 : Hid (true = (rs ++ [r]).any nothing) := by
            show _ = _
            rw [List.any_append, ← HN.out]
            simp [HNR.out]
          clear ho7 hk7 heq
          have hszl : szL (rs ++ [r]) = szL rs + sz r + 1 := szL_snoc rs r
          cases hd : isAt m j 124 with
          | true =>
            have hlt := isAt_lt hd
            rw [hd] at hp7
            have hpl7 : placeOf w7 pb = j + 1 := hp7.place
            have HP7 := hide hp7
            have HGR : Hid (goesR m f i g (rs ++ [r]) (j + 1) h true) := hide ⟨fun _ => ⟨k, by omega, by rw [HPG.out, if_pos hd]⟩, fun h => by cases h⟩
            clear hd hp7
            go_wp2
            go_roundw
            case rel => exact ⟨rs ++ [r], j + 1, h, true, true, rfl, rfl, hlt, hjg, by rw [hszl]; have := HPp.out; omega, fun _ => by rw [hszl]; have := HPp.out; omega, by simp; omega, fun _ => by simp; omega, HO7, HP7, HK7, HN7, HGR⟩
            case measure => rw [hpl7, hpl]; simp [boolN]; omega
          | false =>
            rw [hd] at hp7
            have hpl7 : placeOf w7 pb = j := hp7.place
            have HP7 := hide hp7
            have HGR : Hid (goesR m f i g (rs ++ [r]) j h false) := hide ⟨fun h => (by cases h), fun _ => ⟨by simp, by rw [HPG.out, if_neg (by simp [hd])]⟩⟩
            clear hd hp7
            go_wp2
            go_roundw
            case rel => exact ⟨rs ++ [r], j, h, true, false, rfl, rfl, hjp, hjg, by rw [hszl]; have := HPp.out; omega, fun h => (by cases h), by simp; omega, fun h => (by cases h), HO7, HP7, HK7, HN7, HGR⟩
            case measure => rw [hpl7, hpl]; simp [boolN]; omega
        | false =>
          go_wp2_with fail
          refine (add_any w3 (andRow F ve) pb m j h S3 ⟨.fork [], 0, 0, 0, 0, 0, .slice none 0 0⟩ HP3.out rfl (fun w => ⟨World.ownsRow_nil _ _ _ _, trivial⟩) (by rw [HS3.out]; omega)).mono ?_
          rintro e w4 ⟨rfl, hk4, hp4⟩
          have HK4 := hide (HK3.out.trans hk4)
          have HP4 : Hid (parserAt w4 (andRow F ve) pb m j (S3 ++ [.fork []]) h) := hide hp4
          clear hk4 hp4
          have ho4 : w4.ownsRow w.heap.size 3 1 ve rs.length (intsV (endsL rs (b + 1))) := own_keep HO.out (fun g hg => HK4.out.block g (.inr hg) (fun e => HHV.out (e ▸ hg)))
          have hs4 : w.heap.size ≤ w4.heap.size := Nat.le_trans HKr.out.size HK4.out.size
          rw [HS3.out, HQ.out]
          obtain ⟨W5, HW5⟩ : ∃ W5, Hid (W5 = w4.alloc (.cells #[.int .i64 (q : Int)] 3)) := ⟨_, hide rfl⟩
          have g5 : Grow w4 W5 := by rw [HW5.out]; exact (Grow.refl _).alloc _
          have ho5 := own_grow ho4 g5
          have hb5 : W5.heap[w4.heap.size]? = some (.cells #[.int .i64 (q : Int)] 3 (0, 0)) := by rw [HW5.out]; exact heap_alloc_new _ _
          have hs5 : W5.heap.size = w4.heap.size + 1 := by rw [HW5.out]; simp
          have HO5 := hide ho5
          have HB5 := hide hb5
          have HP5 := hide (HP4.out.grow g5)
          have G5 := hide g5
          have eW5 := HW5.out.symm
          clear ho4 ho5 hb5 g5
          go_wp2_with (at_builtin; refine wpList_append_new rfl _ _ 46 rfl w.heap.size 3 i0 _ 1 8 Tryz.underlying46 hinf hz0 hz1 hz2 rfl (by omega) ve rs.length (intsV (endsL rs (b + 1))) rfl HO5.out ⟨w4.heap.size, 0, none⟩ 1 1 (intsV [q]) rfl rfl (fun z u hu => by
              match z, hu with
              | 0, hu =>
                simp [intsV] at hu
                subst hu
                rw [Addr.add_lit]
                exact cell_in HB5.out (by simp)) (intsV_oneCell _) (by unfold maxLen; omega) (by omega) (by omega) ?_; intro v' w6 hown' hgrow hnew; clear eW5; rw [← intsV_append] at hown'; have HO6 := hide hown'; have HG6 := hide hgrow; have HN6 := hide hnew; clear hown' hgrow hnew)
          have hp6 : parserAt w6 (andRow F v') pb m j (S3 ++ [.fork []]) h := HP5.out.grown HG6.out (fun k hk => .inr hk) HHV.out (fun k hk => by
            rcases hk with hk | hk
            · have := HFR.out k hk
              have := HG6.out.size
              exact ⟨by omega, .inl (.inl hk)⟩
            · refine ⟨(HO6.out.lt k hk).2, ?_⟩
              rcases HN6.out with h | ⟨z, h, h2⟩
              · exact .inl (.inr (h ▸ hk))
              · rw [h] at hk; cases hk; exact .inr h2)
          have HP6 := hide hp6
          have HK6 : Hid (KeptX F pb w w6) := hide (HKr.out.trans ((HK4.out.less fun k hk => .inl hk).trans ⟨HG6.out.os.trans G5.out.os, HG6.out.tape.trans G5.out.tape, HG6.out.output.trans G5.out.output, Nat.le_trans G5.out.size HG6.out.size, fun k hk hn => (HG6.out.block k (by have := HFR.out k hk; omega) (fun e => by have := (HO5.out.lt k e.symm).1; have := HFR.out k hk; omega)).trans (G5.out.block k (by have := HFR.out k hk; omega))⟩))
          clear hp6
          go_wp2_with fail
          refine (skip_any w6 (andRow F v') pb m [124] j h _ HP6.out (by omega) hjp).mono ?_
          rintro e w7 ⟨rfl, hk7, hp7⟩
          rw [comesB_nat _ _ 124 124 rfl] at hp7 ⊢
          have hv6 : v'.ownBlock ≠ some pb := by
            obtain ⟨_, _, _, _, hb⟩ := HP6.out.cells
            exact own_apart HO6.out hb (by decide)
          have ho7 : w7.ownsRow w.heap.size 3 1 v' (rs ++ [r]).length (intsV (endsL (rs ++ [r]) (b + 1))) := by
            rw [endsL_snoc, HPp.out, HQ.out, List.length_append]
            exact own_keep HO6.out (fun z hz => hk7.block z (HO6.out.lt z hz).2 (fun e => hv6 (e ▸ hz)) (fun e => hv6 (e ▸ hz)))
          have HO7 := hide ho7
          have HK7 := hide (HK6.out.trans (keptX_two hk7 (fun k hk => by have := HFR.out k hk; have := HK6.out.size; omega)))
          have heq : S3 ++ [St.fork []] = S ++ .fork (startsL (rs ++ [r]) (b + 1)) :: compW (fun _ => []) (rs ++ [r]) 0 (b + 1) := by
            rw [← HS3e.out, startsL_snoc, compW_snoc, HPp.out]
            simp
          rw [heq] at hp7
          have HN7 : Hid (nul = (rs ++ [r]).any nothing) := by
            show _ = _
            rw [List.any_append, ← HN.out]
            simp [HNR.out]
          clear ho7 hk7 heq
          have hszl : szL (rs ++ [r]) = szL rs + sz r + 1 := szL_snoc rs r
          cases hd : isAt m j 124 with
          | true =>
            have hlt := isAt_lt hd
            rw [hd] at hp7
            have hpl7 : placeOf w7 pb = j + 1 := hp7.place
            have HP7 := hide hp7
            have HGR : Hid (goesR m f i g (rs ++ [r]) (j + 1) h true) := hide ⟨fun _ => ⟨k, by omega, by rw [HPG.out, if_pos hd]⟩, fun h => by cases h⟩
            clear hd hp7
            go_wp2
            go_roundw
            case rel => exact ⟨rs ++ [r], j + 1, h, nul, true, rfl, rfl, hlt, hjg, by rw [hszl]; have := HPp.out; omega, fun _ => by rw [hszl]; have := HPp.out; omega, by simp; omega, fun _ => by simp; omega, HO7, HP7, HK7, HN7, HGR⟩
            case measure => rw [hpl7, hpl]; simp [boolN]; omega
          | false =>
            rw [hd] at hp7
            have hpl7 : placeOf w7 pb = j := hp7.place
            have HP7 := hide hp7
            have HGR : Hid (goesR m f i g (rs ++ [r]) j h false) := hide ⟨fun h => (by cases h), fun _ => ⟨by simp, by rw [HPG.out, if_neg (by simp [hd])]⟩⟩
            clear hd hp7
            go_wp2
            go_roundw
            case rel => exact ⟨rs ++ [r], j, h, nul, false, rfl, rfl, hjp, hjg, by rw [hszl]; have := HPp.out; omega, fun h => (by cases h), by simp; omega, fun h => (by cases h), HO7, HP7, HK7, HN7, HGR⟩
            case measure => rw [hpl7, hpl]; simp [boolN]; omega
    | false =>
      obtain ⟨hne, hG⟩ := HG.out.2 rfl
      have HE : Hid (y = .ok (rowsOf rs .nil, i', g')) := by show _ = _; rw [HY.out] at hG; exact Option.some.inj hG
      have HNE := hide hne
      have hve := HVE.out
      subst hve
      have HKn := hide (nothing_rows rs hne)
      clear hG hne hbm hrm c2
      go_wp2_with fail
      go_loopw [34] (fun vi w2 => ∃ n : Nat, vi = .int .i64 n ∧ n ≤ rs.length ∧ Hid (w2.ownsRow w.heap.size 3 1 (.slice vb rs.length vc) rs.length (intsV (endsL rs (b + 1)))) ∧
          Hid (parserAt w2 (andRow F (.slice vb rs.length vc)) pb m i' (S ++ .fork (startsL rs (b + 1)) :: compW (fun j => if j < n then [p] else []) rs 0 (b + 1)) g') ∧ Hid (KeptX F pb w w2)) (fun vi _ => rs.length - (intOf vi).toNat)
      case atStart => exact ⟨0, rfl, Nat.zero_le _, HO, by simpa using HPr, HKr⟩
      case round =>
        obtain ⟨n, rfl, hn, HO2, HP2, HK2⟩ := hrel
        rename World => wr2
        by_cases hlt : n < rs.length
        · have hnl : (n : Int) < rs.length := by omega
          obtain ⟨x, hx⟩ : ∃ x, (endsL rs (b + 1))[n]? = some x := ⟨_, List.getElem?_eq_getElem (by rw [endsL_length]; exact hlt)⟩
          have hge := endsL_ge rs _ _ _ hx
          obtain ⟨gb, rfl⟩ : ∃ gb, vb = some ⟨gb, 0, none⟩ := by
            rcases HO2.out.2 with ⟨_, h0⟩ | ⟨gb, cp2, cur, h, _⟩
            · omega
            · simp at h; exact ⟨gb, h.1⟩
          have hce : wr2.cell? ⟨gb, n, none⟩ = some (.int .i64 (x : Int)) := own_cell HO2.out (by simp [intsV, hx])
          obtain ⟨_, _, ao2, cp2, hblk⟩ := HP2.out.cells
          have hl2 : (S ++ .fork (startsL rs (b + 1)) :: compW (fun j => if j < n then [p] else []) rs 0 (b + 1)).length = p := by
            rw [← HPp.out, List.length_append, List.length_cons, compW_length, HB.out]; omega
          rw [hl2] at hblk
          obtain ⟨c0, c1, c2, c3⟩ := four_cells hblk
          have hgt : (S ++ St.fork (startsL rs (b + 1)) :: compW (fun j => if j < n then [p] else []) rs 0 (b + 1))[x]? = some (.fork []) := by
            rw [List.getElem?_append_right (by rw [HB.out]; omega), HB.out, show x - b = (x - (b + 1)) + 1 from by omega, List.getElem?_cons_succ, compW_get _ rs 0 _ n x hx]
            simp
          have hst : (S ++ St.fork (startsL rs (b + 1)) :: compW (fun j => if j < n then [p] else []) rs 0 (b + 1)).set x (.fork ([] ++ [p])) = S ++ .fork (startsL rs (b + 1)) :: compW (fun j => if j < n + 1 then [p] else []) rs 0 (b + 1) := by
            rw [List.set_append_right _ _ (by rw [HB.out]; omega), HB.out, show x - b = (x - (b + 1)) + 1 from by omega, List.set_cons_succ, compW_set _ _ rs 0 _ n x hx]
            congr 2
            exact compW_congr rs _ _ (fun j h1 h2 => by
              by_cases e : j = n
              · subst e; simp
              · by_cases h3 : j < n
                · simp [e, h3, show j < n + 1 from by omega]
                · simp [e, h3, show ¬ j < n + 1 from by omega])
          have HST := hide hst
          have HGT := hide hgt
          have HL2 := hide hl2
          have hvp2 : (Value.slice (some ⟨gb, 0, none⟩) rs.length vc).ownBlock ≠ some pb := HHV.out
          clear hblk c0 c1 c3 hst hgt hx hl2
          go_wp2_with fail
          refine (way_any wr2 _ pb m i' g' x p _ [] HP2.out HGT.out (by simp) (by rw [HL2.out]; omega)).mono ?_
          rintro e w3 ⟨rfl, hk3, hp3⟩
          rw [HST.out] at hp3
          have HP3 := hide hp3
          have HK3 := hide (HK2.out.trans (hk3.less fun k hk => .inl hk))
          have HO3 : Hid (w3.ownsRow w.heap.size 3 1 (.slice (some ⟨gb, 0, none⟩) rs.length vc) rs.length (intsV (endsL rs (b + 1)))) := hide (own_keep HO2.out (fun z hz => hk3.block z (.inr hz) (fun e => hvp2 (e ▸ hz))))
          clear hp3 hk3
          go_wp2
          go_roundw
          case rel => exact ⟨n + 1, by go_num, by omega, HO3, HP3, HK3⟩
          case measure => simp [intOf]; omega
        · obtain rfl : n = rs.length := by omega
          have hfin : compW (fun j => if j < rs.length then [p] else []) rs 0 (b + 1) = comp (rowsOf rs .nil) (b + 1) p := by
            rw [← compW_comp]
            exact compW_congr rs _ _ (fun j h1 h2 => by rw [if_pos (by omega)])
          have hall : S ++ St.fork (startsL rs (b + 1)) :: compW (fun j => if j < rs.length then [p] else []) rs 0 (b + 1) = rowsSteps S (rowsOf rs .nil) := by
            rw [hfin, rowsSteps, HB.out, startsL_starts, ← szL_sz, HPp.out]
          have hp3 := HP2.out
          rw [hall] at hp3
          have HP3 := hide (hp3.less (F' := F) (fun k hk => .inl hk))
          clear hp3 hall hfin
          go_wp2
          go_ret
          rw [HE.out]
          exact ⟨HK2.out, by rw [HKn.out, ← HN.out]; rfl, HP3.out⟩

/-- SO ALL ROWS ARE LAID OUT. -/
theorem rows_ok {m : List UInt8} (hm : m.length ≤ 10000) (f : Nat) : RowsOK m f := by
  induction f using Nat.strongRecOn with
  | _ f ih => exact rows_any hm ih

end Go.Proofs.YtndpjdmfkhjiiaaGreatDoor
