/- 1 texts in one. -/
import Derived.Laws.OwnMore
import Derived.Deep.AppendLies
import Derived.Test.YtndpjdmfkhjiiaaGreatDoorProg
import Derived.Test.YtndpjdmfkhjiiaaGreatDoorK06d19db
import Derived.Test.YtndpjdmfkhjiiaaGreatDoorKb583056
import Derived.Test.YtndpjdmfkhjiiaaGreatDoorKf25e925
import Derived.Test.YtndpjdmfkhjiiaaGreatDoorKab9fbe2
import Derived.Test.YtndpjdmfkhjiiaaGreatDoorKb639f27
import Derived.Test.YtndpjdmfkhjiiaaGreatDoorK777559e
import Derived.Test.YtndpjdmfkhjiiaaGreatDoorK2fdbf70
import Derived.Test.YtndpjdmfkhjiiaaGreatDoorK34decd3
import Derived.Lib.AppendZeros
import Derived.BigQuiet
set_option linter.unusedVariables false
set_option linter.unusedSimpArgs false
namespace Go.Proofs.YtndpjdmfkhjiiaaGreatDoor
open Go.RowKit
attribute [local go_sem] bs_size bs_toList bs_append bs_get bs_extract
def numsV (L : List Int) : List Value := L.map fun x => .int .i64 x
theorem numsV_snoc (L : List Int) (x : Int) : numsV (L ++ [x]) = numsV L ++ [.int .i64 x] := by simp [numsV]
theorem numsV_oneCell (l : List Int) : ∀ u ∈ numsV l, u.oneCell' = true := by
 intro u hu
 obtain ⟨_, _, rfl⟩ := List.mem_map.1 hu
 rfl
theorem strsV_oneCell (l : List (List UInt8)) : ∀ u ∈ strsV l, u.oneCell' = true := by
 intro u hu
 obtain ⟨_, _, rfl⟩ := List.mem_map.1 hu
 rfl
abbrev ownNums (w : World) (B : Nat) (v : Value) (L : List Int) : Prop := w.ownsRow B 3 1 v L.length (numsV L)
theorem own_kept_apart {w w' : World} {B1 e1 s1 n1 B2 e2 s2 n2 : Nat} {v1 v2 : Value} {xs1 xs2 : List Value} (h2 : w.ownsRow B2 e2 s2 v2 n2 xs2) (h1 : w.ownsRow B1 e1 s1 v1 n1 xs1) (he : e2 ≠ e1) (g : w.grownBy w' v1.ownBlock) : w'.ownsRow B2 e2 s2 v2 n2 xs2 := by
 refine World.ownsRow.kept h2 g ?_
 rcases h1.2 with ⟨rfl, _⟩ | ⟨b, cap, cur, rfl, _, hb, _⟩
 ·
  cases hv : v2.ownBlock with
  | none => exact .inl rfl
  | some k => exact .inr (by simp [Value.ownBlock])
 ·
  exact .inr (own_apart h2 hb he)
structure TwoJ (w W : World) (v1 v2 : Value) (L1 : List (List UInt8)) (L2 : List Int) (s : List UInt8) (x : Int) (n1 b1 n2 b2 : Bool) (u1 y1 u2 y2 : Value) (w' : World) : Prop where
 grow : Grow w w'
 size : W.heap.size ≤ w'.heap.size
 first : b1 = false → ownStrs w' w.heap.size v1 L1
 firstD : b1 = true → ownStrs w' w.heap.size y1 (L1 ++ [s])
 second : b2 = false → ownNums w' w.heap.size v2 L2
 secondD : b2 = true → ownNums w' w.heap.size y2 (L2 ++ [x])
 new1 : newJ W 9 #[.string (bs s)] n1 u1 w'
 new2 : newJ W 3 #[.int .i64 x] n2 u2 w'
theorem TwoJ.more {w W : World} {v1 v2 : Value} {L1 : List (List UInt8)} {L2 : List Int} {s : List UInt8} {x : Int} {n1 b1 n2 b2 : Bool} {u1 y1 u2 y2 : Value} {w' w'' : World} (h : TwoJ w W v1 v2 L1 L2 s x n1 b1 n2 b2 u1 y1 u2 y2 w') (g : Grow w' w'') : TwoJ w W v1 v2 L1 L2 s x n1 b1 n2 b2 u1 y1 u2 y2 w'' :=
 ⟨h.grow.trans g, Nat.le_trans h.size g.size, fun e => own_grow (h.first e) g, fun e => own_grow (h.firstD e) g, fun e => own_grow (h.second e) g, fun e => own_grow (h.secondD e) g, h.new1.grow g, h.new2.grow g⟩
section
variable {w W : World} {v1 v2 : Value} {L1 : List (List UInt8)} {L2 : List Int} {s : List UInt8} {x : Int} {n1 b1 n2 b2 : Bool} {u1 y1 u2 y2 : Value} {w' : World}
theorem TwoJ.lay1 (h : TwoJ w W v1 v2 L1 L2 s x n1 b1 n2 b2 u1 y1 u2 y2 w') : TwoJ w W v1 v2 L1 L2 s x true b1 n2 b2 (.slice (some ⟨w'.heap.size, 0, none⟩) 1 1) y1 u2 y2 (w'.alloc (.cells #[.string (bs s)] 9)) := by
 have h2 := h.more ((Grow.refl _).alloc (.cells #[.string (bs s)] 9))
 exact ⟨h2.grow, h2.size, h2.first, h2.firstD, h2.second, h2.secondD, fun _ => ⟨_, rfl, h.size, heap_alloc_new _ _⟩, h2.new2⟩
theorem TwoJ.lay2 (h : TwoJ w W v1 v2 L1 L2 s x n1 b1 n2 b2 u1 y1 u2 y2 w') : TwoJ w W v1 v2 L1 L2 s x n1 b1 true b2 u1 y1 (.slice (some ⟨w'.heap.size, 0, none⟩) 1 1) y2 (w'.alloc (.cells #[.int .i64 x] 3)) := by
 have h2 := h.more ((Grow.refl _).alloc (.cells #[.int .i64 x] 3))
 exact ⟨h2.grow, h2.size, h2.first, h2.firstD, h2.second, h2.secondD, h2.new1, fun _ => ⟨_, rfl, h.size, heap_alloc_new _ _⟩⟩
theorem TwoJ.app1 (h : TwoJ w W v1 v2 L1 L2 s x true false n2 b2 u1 y1 u2 y2 w') (hn : L1.length ≤ 4000000) (hW : ∀ k, v1.ownBlock = some k → k < W.heap.size) (t : TypeId) :
  ∃ v' w'', (Builtin.append_ #[22, 22] t #[v1, u1]).run Tryz.prog w' = .ok v' w'' ∧ TwoJ w W v1 v2 L1 L2 s x true true n2 b2 u1 v' u2 y2 w'' := by
 obtain ⟨i0, hinf, hz0, hz1, hz2⟩ := info_parts Tryz.infoStr
 obtain ⟨b, rfl, hb, hc⟩ := h.new1 rfl
 have ho := h.first rfl
 obtain ⟨v', w3, hrun, hown3, hgrow, _⟩ := run_append_new (P := Tryz.prog) w' w.heap.size 22 t 9 i0 (.string ByteArray.empty) 1 16 Tryz.underlying22 hinf hz0 hz1 hz2 rfl (by omega) v1 L1.length (strsV L1) ho ⟨b, 0, none⟩ 1 1 (strsV [s]) rfl (fun q u hu => by
  match q, hu with
  | 0, hu =>
   simp [strsV] at hu
   subst hu
   rw [Addr.add_lit]
   exact cell_in hc (by simp)) (strsV_oneCell _) (by unfold maxLen; omega) (by omega) h.grow.size
 refine ⟨v', w3, hrun, ?_, Nat.le_trans h.size hgrow.size, fun e => (nomatch e), fun _ => ?_, fun e => own_kept_apart (h.second e) ho (by decide) hgrow, fun e => own_kept_apart (h.secondD e) ho (by decide) hgrow, h.new1.grown hgrow hW, h.new2.grown hgrow hW⟩
 ·
  exact Below.grown h.grow hgrow h.grow.size (fun j hj => (ho.lt j hj).1)
 ·
  show World.ownsRow _ _ _ _ _ _ _
  rw [List.length_append, strsV_snoc]
  exact hown3
theorem TwoJ.app2 (h : TwoJ w W v1 v2 L1 L2 s x n1 b1 true false u1 y1 u2 y2 w') (hn : L2.length ≤ 4000000) (hW : ∀ k, v2.ownBlock = some k → k < W.heap.size) (t : TypeId) :
  ∃ v' w'', (Builtin.append_ #[46, 46] t #[v2, u2]).run Tryz.prog w' = .ok v' w'' ∧ TwoJ w W v1 v2 L1 L2 s x n1 b1 true true u1 y1 u2 v' w'' := by
 obtain ⟨i0, hinf, hz0, hz1, hz2⟩ := info_parts Tryz.infoI
 obtain ⟨b, rfl, hb, hc⟩ := h.new2 rfl
 have ho := h.second rfl
 obtain ⟨v', w3, hrun, hown3, hgrow, _⟩ := run_append_new (P := Tryz.prog) w' w.heap.size 46 t 3 i0 (.int .i64 0) 1 8 Tryz.underlying46 hinf hz0 hz1 hz2 rfl (by omega) v2 L2.length (numsV L2) ho ⟨b, 0, none⟩ 1 1 (numsV [x]) rfl (fun q u hu => by
  match q, hu with
  | 0, hu =>
   simp [numsV] at hu
   subst hu
   rw [Addr.add_lit]
   exact cell_in hc (by simp)) (numsV_oneCell _) (by unfold maxLen; omega) (by omega) h.grow.size
 refine ⟨v', w3, hrun, ?_, Nat.le_trans h.size hgrow.size, fun e => own_kept_apart (h.first e) ho (by decide) hgrow, fun e => own_kept_apart (h.firstD e) ho (by decide) hgrow, fun e => (nomatch e), fun _ => ?_, h.new1.grown hgrow hW, h.new2.grown hgrow hW⟩
 ·
  exact Below.grown h.grow hgrow h.grow.size (fun j hj => (ho.lt j hj).1)
 ·
  show World.ownsRow _ _ _ _ _ _ _
  rw [List.length_append, numsV_snoc]
  exact hown3
end
theorem map_snoc {α : Type} (o : Option (List α)) (acc : List α) (x : α) : (o.map (x :: ·)).map (acc ++ ·) = o.map ((acc ++ [x]) ++ ·) := by
 cases o <;> simp
theorem TwoJ.start {w W : World} {v1 v2 : Value} {L1 : List (List UInt8)} {L2 : List Int} (s : List UInt8) (x : Int) (u1 y1 u2 y2 : Value) (g : Grow w W) (h1 : ownStrs W w.heap.size v1 L1) (h2 : ownNums W w.heap.size v2 L2) : TwoJ w W v1 v2 L1 L2 s x false false false false u1 y1 u2 y2 W :=
 ⟨g, Nat.le_refl _, fun _ => h1, fun e => (nomatch e), fun _ => h2, fun e => (nomatch e), fun e => (nomatch e), fun e => (nomatch e)⟩
theorem TwoJ.drew {w W : World} {v1 v2 : Value} {L1 : List (List UInt8)} {L2 : List Int} {s : List UInt8} {x : Int} {n1 b1 n2 b2 : Bool} {u1 y1 u2 y2 : Value} {w' : World} (h : TwoJ w W v1 v2 L1 L2 s x n1 b1 n2 b2 u1 y1 u2 y2 w') : TwoJ w W v1 v2 L1 L2 s x n1 b1 n2 b2 u1 y1 u2 y2 w'.drew := h.more ⟨rfl, rfl, rfl, Nat.le_refl _, fun _ _ => rfl⟩
def tpost (w : World) (N : Option (List (List UInt8 × Int))) (e : Ending) (w' : World) : Prop :=
 ∃ v1 v2 b, e = .returned (.tuple #[v1, v2, .bool b]) ∧ Grow w w' ∧ match N with
  | none => b = false
  | some l => b = true ∧ ownStrs w' w.heap.size v1 (l.map (·.1)) ∧ ownNums w' w.heap.size v2 (l.map (·.2))
set_option maxRecDepth 20000 in
set_option maxHeartbeats 8000000 in
theorem template_any (t : List UInt8) (w : World) (hl : t.length ≤ 2000000) :
  Calls Tryz.prog 34 #[.string (bs t)] w (tpost w (tmAt t 0)) := by
 obtain ⟨N, HN⟩ : ∃ N, Hid (tmAt t 0 = N) := ⟨_, hide rfl⟩
 rw [HN.out]
 go_enter Tryz.func34, Tryz.ntmps34
 go_wp2
 go_loopw [5, 6, 7] (fun tv gv iv wr => ∃ (acc : List (List UInt8 × Int)) (k : Nat), k ≤ t.length ∧ acc.length ≤ k ∧ iv = .int .i64 k ∧ Hid (N = (tmAt t k).map (acc ++ ·)) ∧ Hid (Grow w wr) ∧ Hid (ownStrs wr w.heap.size tv (acc.map (·.1))) ∧ Hid (ownNums wr w.heap.size gv (acc.map (·.2)))) (fun _ _ iv _ => t.length + 1 - (intOf iv).toNat)
 case atStart =>
  refine ⟨[], 0, by omega, by simp, rfl, ?_, hide (Grow.refl _), hide (World.ownsRow_nil _ _ _ _), hide (World.ownsRow_nil _ _ _ _)⟩
  rw [HN.out]
  exact hide (by cases N <;> simp)
 case round =>
  obtain ⟨acc, k, hk, hak, rfl, HE, HG, HT, HI⟩ := hrel
  obtain ⟨L1, hL1⟩ : ∃ L1, acc.map (·.1) = L1 := ⟨_, rfl⟩
  obtain ⟨L2, hL2⟩ : ∃ L2, acc.map (·.2) = L2 := ⟨_, rfl⟩
  have hn1 : L1.length ≤ 4000000 := by rw [← hL1, List.length_map]; omega
  have hn2 : L2.length ≤ 4000000 := by rw [← hL2, List.length_map]; omega
  have HL1 := hide hL1
  have HL2 := hide hL2
  rw [hL1] at HT
  rw [hL2] at HI
  clear hL1 hL2
  obtain ⟨to, tc, rfl⟩ := own_shape HT.out
  obtain ⟨go, gc, rfl⟩ := own_shape HI.out
  by_cases hlt : k < t.length
  ·
   have hlt2 : (k : Int) < (t.length : Int) := by omega
   obtain ⟨c, hcc⟩ : ∃ c, t[k] = c := ⟨_, rfl⟩
   have hgc : t[k]? = some c := by rw [List.getElem?_eq_getElem hlt, hcc]
   have HS := hide (tmAt_step hgc)
   have HK1 : Hid (∀ q, (Value.slice to L1.length tc).ownBlock = some q → q < wr.heap.size) := hide fun q hq => (HT.out.lt q hq).2
   have HK2 : Hid (∀ q, (Value.slice go L2.length gc).ownBlock = some q → q < wr.heap.size) := hide fun q hq => (HI.out.lt q hq).2
   clear hgc
   by_cases h36 : c.toNat = 36
   ·
    have hne : ((c.toNat : Int) != 36) = false := by simp; omega
    have HE3 := hide HE.out
    rw [HS.out, if_neg (by omega)] at HE3
    have H36 := hide h36
    clear h36 HE HS
    have none_ends : Hid (N = none) → True := fun _ => trivial
    by_cases hk1 : k + 1 < t.length
    ·
     obtain ⟨d, hdd⟩ : ∃ d, t[k + 1] = d := ⟨_, rfl⟩
     obtain ⟨q, hq⟩ : ∃ q : Nat, k + 1 = q := ⟨_, rfl⟩
     have hgd : t.getD (k + 1) 0 = d := by simp [List.getD, hk1, hdd]
     rw [hgd] at HE3
     have hqi : (k : Int) + 1 = (q : Int) := by omega
     have hk1i : (k : Int) + 1 < (t.length : Int) := by omega
     have hqlt : q < t.length := by omega
     have hqd : t[q]'hqlt = d := by subst hq; exact hdd
     have hk1d : decide ((k : Int) + 1 < (t.length : Int)) = true := by simpa using hk1i
     have hwq : IntKind.i64.wrap ((k : Int) + 1) = (k : Int) + 1 := wrap_i64_small _ (by omega) (by omega)
     by_cases hd36 : d.toNat = 36
     ·
      have HE4 : Hid (N = (tmAt t (k + 2)).map ((acc ++ [([36], -1)]) ++ ·)) := by
       have h := HE3.out
       rw [if_pos hd36, map_snoc] at h
       exact hide h
      have hne2 : ((d.toNat : Int) == 36) = true := by simp [hd36]
      have T1 := (TwoJ.start [36] (-1) undef undef undef undef HG.out HT.out HI.out).lay1
      obtain ⟨y1, W2, hr1, T2⟩ := T1.app1 hn1 HK1.out 22
      obtain ⟨yo, yc, rfl⟩ := own_shape (T2.firstD rfl)
      have T3 := T2.lay2
      obtain ⟨y2, W4, hr2, T4⟩ := T3.app2 hn2 HK2.out 46
      obtain ⟨zo, zc, rfl⟩ := own_shape (T4.secondD rfl)
      have HT4 := hide T4
      have HR1 := hide hr1
      have HR2 := hide hr2
      clear T1 T2 T3 T4 hr1 hr2 hd36 HE3 hgd
      go_wp2_with (first | (at_builtin; refine Lib.wpList_append_run _ rfl _ _ _ _ rfl _ _ rfl rfl _ _ HR1.out ?_) | (at_builtin; refine Lib.wpList_append_run _ rfl _ _ _ _ rfl _ _ rfl rfl _ _ HR2.out ?_))
      refine ⟨⟨acc ++ [([36], -1)], k + 2, by omega, by simp; omega, by go_num, HE4, hide HT4.out.grow, ?_, ?_⟩, ?_⟩
      ·
       rw [List.map_append, HL1.out]
       have h := HT4.out.firstD rfl
       rw [show (L1 ++ [(([36] : List UInt8), (-1 : Int))].map (·.1)) = L1 ++ [[36]] from rfl]
       exact hide (by simpa using h)
      ·
       rw [List.map_append, HL2.out]
       have h := HT4.out.secondD rfl
       rw [show (L2 ++ [(([36] : List UInt8), (-1 : Int))].map (·.2)) = L2 ++ [-1] from rfl]
       exact hide (by simpa using h)
      ·
       simp [intOf]; omega
     ·
      have hne2 : ((d.toNat : Int) == 36) = false := by simp; omega
      have HE4 := hide HE3.out
      rw [if_neg hd36] at HE4
      have H362 := hide hd36
      clear HE3 hd36
      cases hnu : isNu d with
      | true =>
       have HNU := hide hnu
       obtain ⟨x, HX⟩ : ∃ x : Int, Hid ((d.toNat : Int) - 48 = x) := ⟨_, hide rfl⟩
       have HE5 : Hid (N = (tmAt t (k + 2)).map ((acc ++ [([], x)]) ++ ·)) := by
        have h := HE4.out
        rw [if_pos hnu, map_snoc, HX.out] at h
        exact hide h
       have hd9 := isNu_true.1 hnu
       have hwx : IntKind.i64.wrap ((d.toNat : Int) - 48) = x := by rw [wrap_i64_small _ (by omega) (by omega), HX.out]
       clear hnu HE4 hgd
       go_wp2_with (go_at_call 20; refine (rIsNumeral_any _ _).mono ?_; rintro e w' ⟨rfl, hw⟩; obtain rfl := hw.symm; rw [HNU.out])
       try rw [hqi]
       refine wp_region_state 11 112 Tryz.mixed2 rfl (by decide +kernel) (fun L vals w' => TwoJ w wr (.slice to L1.length tc) (.slice go L2.length gc) L1 L2 [] x (L 1) (L 2) (L 9) (L 10) (vals 1) (vals 2) (vals 9) (vals 10) w')
        (fun L vals h => ?_)
        (fun i v => match i with
         | 0 => v = .slice to L1.length tc
         | 1 => True
         | 2 => ∃ ao cp, v = .slice ao (L1.length + 1) cp
         | 3 => v = .slice go L2.length gc
         | 4 => v = .string (bs t)
         | 5 => v = .int .i64 (q : Int)
         | 6 => v = .int .u8 (d.toNat : Int)
         | 7 => v = .int .i64 (d.toNat : Int)
         | 8 => v = .int .i64 x
         | 9 => True
         | _ => ∃ ao cp, v = .slice ao (L2.length + 1) cp)
        (fun _ _ => False) (fun _ _ _ _ h => h.elim) (fun i hi o ho a w2 L vals hLi hLc hLe hJ hoff hval hdep => ?_) (fun vals w2 L hL hJ hvals => ?_)
       ·
        rw [h, h, h, h]
        exact (TwoJ.start [] x _ _ _ _ HG.out HT.out HI.out).drew
       ·
        match i, hi with
        | 0, _ =>
         obtain rfl := Option.some.inj ho
         have o5 := hoff 5 (by decide +kernel)
         simp at o5
         simp [opYields, go_sem, o5]
         exact hJ
        | 1, _ =>
         obtain rfl := Option.some.inj ho
         simp [opYields, go_sem]
         first|exact hJ.lay1|exact ⟨hJ.lay1, trivial⟩
        | 2, _ =>
         obtain rfl := Option.some.inj ho
         have e1 := hLe 1 (by decide +kernel)
         have d0 := hdep 0 (by decide +kernel)
         have v1 := hval 1 (by decide +kernel)
         simp [slotOf, dstOf] at d0 v1
         have hJ2 := hJ
         rw [e1, hLi] at hJ2
         obtain ⟨v', w3, hrun, T⟩ := hJ2.app1 hn1 HK1.out 22
         refine yields_append rfl (.tmp 59) (.tmp 60) _ _ rfl (v1 := .slice to L1.length tc) (v2 := vals 1) (by simpa [Act.eval] using d0) (by simpa [Act.eval] using v1) hrun ⟨by simpa [e1] using T, ?_⟩
         have h := own_shape (T.firstD rfl); rw [List.length_append] at h; exact h
        | 3, _ =>
         obtain rfl := Option.some.inj ho
         have o6 := hoff 6 (by decide +kernel)
         simp at o6
         simp [opYields, go_sem, o6]
         exact hJ
        | 4, _ =>
         obtain rfl := Option.some.inj ho
         have o0 := hoff 0 (by decide +kernel)
         simp at o0
         simp [opYields, go_sem, o0]
         exact hJ
        | 5, _ =>
         obtain rfl := Option.some.inj ho
         have o7 := hoff 7 (by decide +kernel)
         simp at o7
         simp [opYields, go_sem, o7]
         exact hJ
        | 6, _ =>
         obtain rfl := Option.some.inj ho
         have d4 := hdep 4 (by decide +kernel)
         simp [slotOf, dstOf] at d4
         have d5 := hdep 5 (by decide +kernel)
         simp [slotOf, dstOf] at d5
         simp [opYields, go_sem, d4, d5, hqlt, hqd]
         exact hJ
        | 7, _ =>
         obtain rfl := Option.some.inj ho
         have d6 := hdep 6 (by decide +kernel)
         simp [slotOf, dstOf] at d6
         simp [opYields, go_sem, d6]
         exact ⟨hJ, wrap_i64_small _ (by omega) (by omega)⟩
        | 8, _ =>
         obtain rfl := Option.some.inj ho
         have d7 := hdep 7 (by decide +kernel)
         simp [slotOf, dstOf] at d7
         simp [opYields, go_sem, d7, hwx]
         exact hJ
        | 9, _ =>
         obtain rfl := Option.some.inj ho
         have d8 := hdep 8 (by decide +kernel)
         simp [slotOf, dstOf] at d8
         simp [opYields, go_sem, d8]
         first|exact hJ.lay2|exact ⟨hJ.lay2, trivial⟩
        | 10, _ =>
         obtain rfl := Option.some.inj ho
         have e9 := hLe 9 (by decide +kernel)
         have d3 := hdep 3 (by decide +kernel)
         have v9 := hval 9 (by decide +kernel)
         simp [slotOf, dstOf] at d3 v9
         have hJ2 := hJ
         rw [e9, hLi] at hJ2
         obtain ⟨v', w3, hrun, T⟩ := hJ2.app2 hn2 HK2.out 46
         refine yields_append rfl (.tmp 62) (.tmp 68) _ _ rfl (v1 := .slice go L2.length gc) (v2 := vals 9) (by simpa [Act.eval] using d3) (by simpa [Act.eval] using v9) hrun ⟨by simpa [e9] using T, ?_⟩
         have h := own_shape (T.secondD rfl); rw [List.length_append] at h; exact h
        | k + 11, h => exact absurd h (by omega)
       ·
        rw [hL 1 (by omega), hL 2 (by omega), hL 9 (by omega), hL 10 (by omega)] at hJ
        obtain ⟨ao, cp, v2⟩ := hvals 2 (by omega)
        obtain ⟨ao2, cp2, v10⟩ := hvals 10 (by omega)
        rw [v2, v10] at hJ
        have HT4 := hide hJ
        clear hvals hJ
        simp [over, dstOf, Act.put, v2, v10]
        go_wp2
        refine ⟨⟨acc ++ [([], x)], k + 2, by omega, by simp; omega, by go_num, HE5, hide HT4.out.grow, ?_, ?_⟩, ?_⟩
        ·
         rw [List.map_append, HL1.out]
         have h := HT4.out.firstD rfl
         rw [show (L1 ++ [(([] : List UInt8), x)].map (·.1)) = L1 ++ [[]] from rfl]
         exact hide (by simpa using h)
        ·
         rw [List.map_append, HL2.out]
         have h := HT4.out.secondD rfl
         rw [show (L2 ++ [(([] : List UInt8), x)].map (·.2)) = L2 ++ [x] from rfl]
         exact hide (by simpa using h)
        ·
         simp [intOf]; omega
      | false =>
       have HNU := hide hnu
       rw [hnu, if_neg (by decide)] at HE4
       clear hnu
       by_cases hk3 : k + 3 < t.length
       ·
        obtain ⟨d2, hd2⟩ : ∃ d, t[k + 2] = d := ⟨_, rfl⟩
        obtain ⟨d3, hd3⟩ : ∃ d, t[k + 3] = d := ⟨_, rfl⟩
        have hg2 : t.getD (k + 2) 0 = d2 := by simp [List.getD, show k + 2 < t.length by omega, hd2]
        have hg3 : t.getD (k + 3) 0 = d3 := by simp [List.getD, hk3, hd3]
        rw [hg2, hg3] at HE4
        obtain ⟨r, hr⟩ : ∃ r : Nat, k + 2 = r := ⟨_, rfl⟩
        obtain ⟨u, hu⟩ : ∃ u : Nat, k + 3 = u := ⟨_, rfl⟩
        have hqr : (q : Int) + 1 = (r : Int) := by omega
        have hqu : (q : Int) + 2 = (u : Int) := by omega
        have hwr : IntKind.i64.wrap ((q : Int) + 1) = (r : Int) := by rw [wrap_i64_small _ (by omega) (by omega), hqr]
        have hwr2 : IntKind.i64.wrap (r : Int) = (r : Int) := wrap_i64_small _ (by omega) (by omega)
        have hrlt : r < t.length := by omega
        have hult : u < t.length := by omega
        have huli : (u : Int) < (t.length : Int) := by omega
        have huld : decide ((u : Int) < (t.length : Int)) = true := by simpa using huli
        have hrd : t[r]'hrlt = d2 := by subst hr; exact hd2
        have hud : t[u]'hult = d3 := by subst hu; exact hd3
        clear hgd hg2 hg3 hd2 hd3
        by_cases h123 : d.toNat = 123
        ·
         have e123 : ((d.toNat : Int) == 123) = true := by simp [h123]
         have H123 := hide h123
         clear h123
         cases hn2 : isNu d2 with
         | true =>
          have HN2 := hide hn2
          by_cases h125 : d3.toNat = 125
          ·
           have e125 : ((d3.toNat : Int) == 125) = true := by simp [h125]
           obtain ⟨x, HX⟩ : ∃ x : Int, Hid ((d2.toNat : Int) - 48 = x) := ⟨_, hide rfl⟩
           have HE5 : Hid (N = (tmAt t (k + 4)).map ((acc ++ [([], x)]) ++ ·)) := by
            have h := HE4.out
            rw [if_pos ⟨H123.out, hn2, h125⟩, map_snoc, HX.out] at h
            exact hide h
           have hd9 := isNu_true.1 hn2
           have hwx : IntKind.i64.wrap ((d2.toNat : Int) - 48) = x := by rw [wrap_i64_small _ (by omega) (by omega), HX.out]
           clear hn2 HE4 h125
           go_wp2_with (go_at_call 20; refine (rIsNumeral_any _ _).mono ?_; rintro e w' ⟨rfl, hw⟩; obtain rfl := hw.symm; first | rw [HNU.out] | rw [HN2.out])
           refine wp_region_state 12 112 Tryz.mixed2 rfl (by decide +kernel) (fun L vals w' => TwoJ w wr (.slice to L1.length tc) (.slice go L2.length gc) L1 L2 [] x (L 1) (L 2) (L 10) (L 11) (vals 1) (vals 2) (vals 10) (vals 11) w')
            (fun L vals h => ?_)
            (fun i v => match i with
             | 0 => v = .slice to L1.length tc
             | 1 => True
             | 2 => ∃ ao cp, v = .slice ao (L1.length + 1) cp
             | 3 => v = .slice go L2.length gc
             | 4 => v = .string (bs t)
             | 5 => v = .int .i64 (q : Int)
             | 6 => v = .int .i64 (r : Int)
             | 7 => v = .int .u8 (d2.toNat : Int)
             | 8 => v = .int .i64 (d2.toNat : Int)
             | 9 => v = .int .i64 x
             | 10 => True
             | _ => ∃ ao cp, v = .slice ao (L2.length + 1) cp)
            (fun _ _ => False) (fun _ _ _ _ h => h.elim) (fun i hi o ho a w2 L vals hLi hLc hLe hJ hoff hval hdep => ?_) (fun vals w2 L hL hJ hvals => ?_)
           ·
            rw [h, h, h, h]
            exact (TwoJ.start [] x _ _ _ _ HG.out HT.out HI.out).drew
           ·
            match i, hi with
            | 0, _ =>
             obtain rfl := Option.some.inj ho
             have o5 := hoff 5 (by decide +kernel)
             simp at o5
             simp [opYields, go_sem, o5]
             exact hJ
            | 1, _ =>
             obtain rfl := Option.some.inj ho
             simp [opYields, go_sem]
             first|exact hJ.lay1|exact ⟨hJ.lay1, trivial⟩
            | 2, _ =>
             obtain rfl := Option.some.inj ho
             have e1 := hLe 1 (by decide +kernel)
             have d0 := hdep 0 (by decide +kernel)
             have v1 := hval 1 (by decide +kernel)
             simp [slotOf, dstOf] at d0 v1
             have hJ2 := hJ
             rw [e1, hLi] at hJ2
             obtain ⟨v', w3, hrun, T⟩ := hJ2.app1 hn1 HK1.out 22
             refine yields_append rfl (.tmp 96) (.tmp 97) _ _ rfl (v1 := .slice to L1.length tc) (v2 := vals 1) (by simpa [Act.eval] using d0) (by simpa [Act.eval] using v1) hrun ⟨by simpa [e1] using T, ?_⟩
             have h := own_shape (T.firstD rfl); rw [List.length_append] at h; exact h
            | 3, _ =>
             obtain rfl := Option.some.inj ho
             have o6 := hoff 6 (by decide +kernel)
             simp at o6
             simp [opYields, go_sem, o6]
             exact hJ
            | 4, _ =>
             obtain rfl := Option.some.inj ho
             have o0 := hoff 0 (by decide +kernel)
             simp at o0
             simp [opYields, go_sem, o0]
             exact hJ
            | 5, _ =>
             obtain rfl := Option.some.inj ho
             have o7 := hoff 7 (by decide +kernel)
             simp at o7
             simp [opYields, go_sem, o7]
             exact hJ
            | 6, _ =>
             obtain rfl := Option.some.inj ho
             have d5 := hdep 5 (by decide +kernel)
             simp [slotOf, dstOf] at d5
             simp [opYields, go_sem, d5, hqr, hwr]
             exact ⟨hJ, hwr2⟩
            | 7, _ =>
             obtain rfl := Option.some.inj ho
             have d4 := hdep 4 (by decide +kernel)
             simp [slotOf, dstOf] at d4
             have d6 := hdep 6 (by decide +kernel)
             simp [slotOf, dstOf] at d6
             simp [opYields, go_sem, d4, d6, hrlt, hrd]
             exact hJ
            | 8, _ =>
             obtain rfl := Option.some.inj ho
             have d7 := hdep 7 (by decide +kernel)
             simp [slotOf, dstOf] at d7
             simp [opYields, go_sem, d7]
             exact ⟨hJ, wrap_i64_small _ (by omega) (by omega)⟩
            | 9, _ =>
             obtain rfl := Option.some.inj ho
             have d8 := hdep 8 (by decide +kernel)
             simp [slotOf, dstOf] at d8
             simp [opYields, go_sem, d8, hwx]
             exact hJ
            | 10, _ =>
             obtain rfl := Option.some.inj ho
             have d9 := hdep 9 (by decide +kernel)
             simp [slotOf, dstOf] at d9
             simp [opYields, go_sem, d9]
             first|exact hJ.lay2|exact ⟨hJ.lay2, trivial⟩
            | 11, _ =>
             obtain rfl := Option.some.inj ho
             have e10 := hLe 10 (by decide +kernel)
             have d3 := hdep 3 (by decide +kernel)
             have v10 := hval 10 (by decide +kernel)
             simp [slotOf, dstOf] at d3 v10
             have hJ2 := hJ
             rw [e10, hLi] at hJ2
             obtain ⟨v', w3, hrun, T⟩ := hJ2.app2 hn2 HK2.out 46
             refine yields_append rfl (.tmp 99) (.tmp 106) _ _ rfl (v1 := .slice go L2.length gc) (v2 := vals 10) (by simpa [Act.eval] using d3) (by simpa [Act.eval] using v10) hrun ⟨by simpa [e10] using T, ?_⟩
             have h := own_shape (T.secondD rfl); rw [List.length_append] at h; exact h
            | k + 12, h => exact absurd h (by omega)
           ·
            rw [hL 1 (by omega), hL 2 (by omega), hL 10 (by omega), hL 11 (by omega)] at hJ
            obtain ⟨ao, cp, v2⟩ := hvals 2 (by omega)
            obtain ⟨ao2, cp2, v10⟩ := hvals 11 (by omega)
            rw [v2, v10] at hJ
            have HT4 := hide hJ
            clear hvals hJ
            simp [over, dstOf, Act.put, v2, v10]
            go_wp2
            refine ⟨⟨acc ++ [([], x)], k + 4, by omega, by simp; omega, by go_num, HE5, hide HT4.out.grow, ?_, ?_⟩, ?_⟩
            ·
             rw [List.map_append, HL1.out]
             have h := HT4.out.firstD rfl
             rw [show (L1 ++ [(([] : List UInt8), x)].map (·.1)) = L1 ++ [[]] from rfl]
             exact hide (by simpa using h)
            ·
             rw [List.map_append, HL2.out]
             have h := HT4.out.secondD rfl
             rw [show (L2 ++ [(([] : List UInt8), x)].map (·.2)) = L2 ++ [x] from rfl]
             exact hide (by simpa using h)
            ·
             simp [intOf]; omega
          ·
           have e125 : ((d3.toNat : Int) == 125) = false := by simp; omega
           have HA : Hid (N = none) := by
            have h := HE4.out
            rw [if_neg (fun h => h125 h.2.2)] at h
            exact hide h
           clear hn2 HE4 h125
           go_wp2_with (go_at_call 20; refine (rIsNumeral_any _ _).mono ?_; rintro e w' ⟨rfl, hw⟩; obtain rfl := hw.symm; first | rw [HNU.out] | rw [HN2.out])
           go_ret3
           refine ⟨_, _, false, rfl, HG.out, ?_⟩
           rw [HA.out]
         | false =>
          have HN2 := hide hn2
          have HA : Hid (N = none) := by
           have h := HE4.out
           rw [if_neg (fun h => by rw [hn2] at h; cases h.2.1)] at h
           exact hide h
          clear hn2 HE4
          go_wp2_with (go_at_call 20; refine (rIsNumeral_any _ _).mono ?_; rintro e w' ⟨rfl, hw⟩; obtain rfl := hw.symm; first | rw [HNU.out] | rw [HN2.out])
          go_ret3
          refine ⟨_, _, false, rfl, HG.out, ?_⟩
          rw [HA.out]
        ·
         have e123 : ((d.toNat : Int) == 123) = false := by simp; omega
         have HA : Hid (N = none) := by
          have h := HE4.out
          rw [if_neg (fun h => h123 h.1)] at h
          exact hide h
         clear h123 HE4
         go_wp2_with (go_at_call 20; refine (rIsNumeral_any _ _).mono ?_; rintro e w' ⟨rfl, hw⟩; obtain rfl := hw.symm; rw [HNU.out])
         go_ret3
         refine ⟨_, _, false, rfl, HG.out, ?_⟩
         rw [HA.out]
       ·
        have hz : t.getD (k + 3) 0 = 0 := by rw [List.getD_eq_getElem?_getD, List.getElem?_eq_none_iff.2 (by omega)]; rfl
        have HA : Hid (N = none) := by
         have h := HE4.out
         rw [hz, if_neg (by rintro ⟨_, _, h⟩; exact absurd h (by decide))] at h
         exact hide h
        have hqd3 : decide ((q : Int) + 2 < (t.length : Int)) = false := by simp; omega
        clear HE4 hgd
        go_wp2_with (go_at_call 20; refine (rIsNumeral_any _ _).mono ?_; rintro e w' ⟨rfl, hw⟩; obtain rfl := hw.symm; rw [HNU.out])
        go_ret3
        refine ⟨_, _, false, rfl, HG.out, ?_⟩
        rw [HA.out]
    ·
     have hz : t.getD (k + 1) 0 = 0 := by rw [List.getD_eq_getElem?_getD, List.getElem?_eq_none_iff.2 (by omega)]; rfl
     have HA : Hid (N = none) := by
      have h := HE3.out
      rw [hz, if_neg (by decide), if_neg (by decide), if_neg (by rintro ⟨h, _⟩; exact absurd h (by decide))] at h
      exact hide h
     have hk1d : decide ((k : Int) + 1 < (t.length : Int)) = false := by simp; omega
     have hk3d : decide ((k : Int) + 1 + 2 < (t.length : Int)) = false := by simp; omega
     clear HE3
     go_wp2
     go_ret3
     refine ⟨_, _, false, rfl, HG.out, ?_⟩
     rw [HA.out]
   ·
    have hne : ((c.toNat : Int) != 36) = true := by simp; omega
    have HE2 : Hid (N = (tmAt t (k + 1)).map ((acc ++ [([c], -1)]) ++ ·)) := by
     have h := HE.out
     rw [HS.out, if_pos h36, map_snoc] at h
     exact hide h
    have HTK : Hid (List.take 1 (List.drop k t) = [c]) := by
     show _ = _
     rw [List.drop_eq_getElem_cons hlt, hcc]
     rfl
    have T1 := (TwoJ.start [c] (-1) undef undef undef undef HG.out HT.out HI.out).lay1
    obtain ⟨y1, W2, hr1, T2⟩ := T1.app1 hn1 HK1.out 22
    obtain ⟨yo, yc, rfl⟩ := own_shape (T2.firstD rfl)
    have T3 := T2.lay2
    obtain ⟨y2, W4, hr2, T4⟩ := T3.app2 hn2 HK2.out 46
    obtain ⟨zo, zc, rfl⟩ := own_shape (T4.secondD rfl)
    have HT4 := hide T4
    have HR1 := hide hr1
    have HR2 := hide hr2
    clear T1 T2 T3 T4 hr1 hr2 h36 HS
    go_wp2_with (first | (at_builtin; go_loud (rw [HTK.out]); refine Lib.wpList_append_run _ rfl _ _ _ _ rfl _ _ rfl rfl _ _ HR1.out ?_) | (at_builtin; refine Lib.wpList_append_run _ rfl _ _ _ _ rfl _ _ rfl rfl _ _ HR2.out ?_))
    refine ⟨⟨acc ++ [([c], -1)], k + 1, by omega, by simp; omega, by go_num, HE2, hide HT4.out.grow, ?_, ?_⟩, ?_⟩
    ·
     rw [List.map_append, HL1.out]
     have h := HT4.out.firstD rfl
     rw [show (L1 ++ [([c], (-1 : Int))].map (·.1)) = L1 ++ [[c]] from rfl]
     exact hide (by simpa using h)
    ·
     rw [List.map_append, HL2.out]
     have h := HT4.out.secondD rfl
     rw [show (L2 ++ [([c], (-1 : Int))].map (·.2)) = L2 ++ [-1] from rfl]
     exact hide (by simpa using h)
    ·
     simp [intOf]; omega
  ·
   obtain rfl : k = t.length := by omega
   have HA : Hid (N = some acc) := by
    have h := HE.out
    rw [tmAt_end (Nat.le_refl _)] at h
    simpa using hide h
   have hlt2 : ¬ (t.length : Int) < (t.length : Int) := by omega
   go_wp2
   go_ret3
   refine ⟨_, _, true, rfl, HG.out, ?_⟩
   rw [HA.out]
   simp only [HL1.out, HL2.out]
   exact ⟨trivial, HT.out, HI.out⟩
end Go.Proofs.YtndpjdmfkhjiiaaGreatDoor
