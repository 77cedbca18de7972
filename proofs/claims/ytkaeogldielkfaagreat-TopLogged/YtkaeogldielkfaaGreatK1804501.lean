/- 1 texts in one. -/
import Derived.Laws.OwnMore
import Derived.Test.YtkaeogldielkfaaGreatProg
import Derived.Test.YtkaeogldielkfaaGreatK5674b3b
import Derived.Test.YtkaeogldielkfaaGreatK7aebb14
import Derived.Test.YtkaeogldielkfaaGreatKe92268d
import Derived.Test.YtkaeogldielkfaaGreatKb13b050
import Derived.Test.YtkaeogldielkfaaGreatK9055bc8
import Derived.Test.YtkaeogldielkfaaGreatK23c4926
import Derived.Test.YtkaeogldielkfaaGreatK93e8acf
import Derived.Test.YtkaeogldielkfaaGreatKe6b8975
import Derived.Test.YtkaeogldielkfaaGreatK8de6aec
import Derived.Test.YtkaeogldielkfaaGreatK410f598
import Derived.Test.YtkaeogldielkfaaGreatKce332e4
import Derived.Test.YtkaeogldielkfaaGreatK493c4c1
import Derived.Test.YtkaeogldielkfaaGreatK8f38214
import Derived.BigQuiet
set_option linter.unusedVariables false
set_option linter.unusedSimpArgs false
namespace Go.Proofs.YtkaeogldielkfaaGreat.Rc
open Go.RowKit Lb
attribute [local go_sem] bs_size bs_toList bs_append bs_get bs_extract
/-- Last times that may be. -/
def okT (K : List Kp) : Prop := ∀ y ∈ K, timeErr y.2.1 = 0 ∧ (y.2.2 = false → y.2.1 = 0)
theorem okT_kps {k : Knw} (h : knwErr k = 0) : okT (kpsOf k k.refs.length) := fun y hy => by
  obtain ⟨i, hi, rfl⟩ := kpsOf_mem hy
  have h1 := (knwErr_zero h).2.2.2.1 i hi
  unfold oneErr at h1
  split at h1
  · rename_i h0; exact absurd h1 h0
  · split at h1
    · cases h1
    · rename_i h2
      split at h1
      · cases h1
      · rename_i h3
        refine ⟨by show timeErr (k.lasts.getD i 0) = 0; omega, fun e => ?_⟩
        by_cases hz : k.lasts.getD i 0 = 0
        · exact hz
        · exact absurd ⟨e, hz⟩ h3
theorem okT_upd {K : List Kp} {p : Pnt} (h : okT K) (hp : timeErr p.2.1 = 0) : okT (updP K p) := fun y hy => by
  obtain ⟨z, hz, rfl⟩ := List.mem_map.1 hy
  split
  · exact ⟨hp, fun e => by cases e⟩
  · exact h z hz
theorem okT_all : ∀ {ps : List Pnt} {K : List Kp}, okT K → (∀ p ∈ ps, timeErr p.2.1 = 0) → okT (ps.foldl updP K)
  | [], K, h, _ => h
  | p :: ps, K, h, hp => okT_all (ps := ps) (okT_upd h (hp p (by simp))) fun q hq => hp q (List.mem_cons_of_mem _ hq)
theorem seriesGo_fresh {M : List Kp} : ∀ {l : List RefL} {C C' : List Kp}, seriesGo M C l = some C' → (∀ y ∈ C, y.2 = (0, false)) → (∀ y ∈ C', y.2 = (0, false)) ∧ (∀ x ∈ C.map (·.1), x ∈ C'.map (·.1)) ∧ ∀ x ∈ l, x ∈ M.map (·.1) ∨ x ∈ C'.map (·.1)
  | [], C, C', h, hc => by
    obtain rfl : C = C' := by simpa [seriesGo] using h
    exact ⟨hc, fun x hx => hx, fun x hx => by simp at hx⟩
  | x :: l, C, C', h, hc => by
    unfold seriesGo at h
    split at h
    · cases h
    · split at h
      · rename_i h1
        obtain ⟨a, b, c⟩ := seriesGo_fresh h hc
        refine ⟨a, b, fun y hy => ?_⟩
        rcases List.mem_cons.1 hy with rfl | hy
        · exact .inl (knowsR_mem.1 h1)
        · exact c y hy
      · split at h
        · cases h
        · split at h
          · rename_i h1
            obtain ⟨a, b, c⟩ := seriesGo_fresh h hc
            refine ⟨a, b, fun y hy => ?_⟩
            rcases List.mem_cons.1 hy with rfl | hy
            · exact .inr (b _ (knowsR_mem.1 h1))
            · exact c y hy
          · obtain ⟨a, b, c⟩ := seriesGo_fresh h (fun y hy => by
              rcases List.mem_append.1 hy with hy | hy
              · exact hc y hy
              · simp at hy; subst hy; rfl)
            refine ⟨a, fun y hy => b y (by rw [List.map_append]; exact List.mem_append_left _ hy), fun y hy => ?_⟩
            rcases List.mem_cons.1 hy with rfl | hy
            · exact .inr (b _ (by rw [List.map_append]; exact List.mem_append_right _ (by simp)))
            · exact c y hy
/-- A point that is known to be no news. -/
def old (K : List Kp) (p : Pnt) : Prop := ∀ y ∈ K, y.1.1 = p.1 → y.2.2 = true ∧ p.2.1 ≤ y.2.1
/-! ### what is known of a row of refs that rise -/
theorem kpAt_of {D : List Kp} {i : Nat} (hi : i < D.length) : kpAt (knwOf D) i = D[i] := by unfold kpAt knwOf; simp [hi]
theorem kps_knwOf (D : List Kp) : kpsOf (knwOf D) D.length = D := by
  apply List.ext_getElem
  · rw [kpsOf_length]
  · intro i h1 h2
    have : (kpsOf (knwOf D) D.length)[i] = kpAt (knwOf D) i := by simp [kpsOf]
    rw [this, kpAt_of h2]
theorem knwOf_right {D : List Kp} (hd : Dist D) (hr : rightM D) (hs : D.Pairwise fun a b => a.1.1 ≤ b.1.1) (ht : okT D) (hl : D.length ≤ 1000) : knwErr (knwOf D) = 0 := by
  have hlen : (knwOf D).refs.length = D.length := by simp [knwOf]
  have h1 : ∀ i, i < D.length → oneErr (knwOf D) i = 0 := fun i hi => by
    have e1 : (knwOf D).refs.getD i (0, []) = D[i].1 := by simp [knwOf, hi]
    have e2 : (knwOf D).lasts.getD i 0 = D[i].2.1 := by simp [knwOf, hi]
    have e3 : (knwOf D).has.getD i false = D[i].2.2 := by simp [knwOf, hi]
    obtain ⟨t1, t2⟩ := ht _ (List.getElem_mem hi)
    unfold oneErr
    rw [e1, e2, e3, if_neg (by have := hr _ (List.getElem_mem hi); omega), if_neg (by omega), if_neg (fun h => h.2 (t2 h.1)), if_neg]
    rintro ⟨h0, h2⟩
    have hi1 : i - 1 < D.length := by omega
    have e4 : (knwOf D).refs.getD (i - 1) (0, []) = D[i - 1].1 := by simp [knwOf, hi1]
    rw [e4] at h2
    have h3 := List.pairwise_iff_getElem.1 hs (i - 1) i hi1 hi (by omega)
    have := hd.numEq hi1 hi (by omega)
    omega
  unfold knwErr
  rw [hlen, if_neg (by simp [knwOf]), if_neg (by omega), firstErr_none h1, if_neg (by simp), if_neg]
  rw [Bool.not_eq_true]
  unfold dupB
  rw [Bool.not_eq_false', decide_eq_true_iff]
  have : (knwOf D).refs.map (·.2) = D.map (·.1.2) := by show (D.map (·.1)).map (·.2) = _; rw [List.map_map]; rfl
  rw [this]
  exact hd.lab
theorem learn_okT {k : Knw} {r : Rcd} (h : learnE k r = 0) : okT (learnK k r) := by
  obtain ⟨h1, h2, h3⟩ := learnE_zero h
  obtain ⟨_, _, _, hre, hpe⟩ := recErr_zero h2
  have h0 := okT_kps h1
  have h4 := h3
  unfold learnR at h4
  split at h4
  · unfold learnS at h4
    split at h4
    · cases h4
    · rename_i C hC
      split at h4
      · cases h4
      · have e : learnK k r = kpsOf k k.refs.length ++ C := (congrArg Prod.snd h4).symm
        rw [e]
        obtain ⟨hf, _⟩ := seriesGo_fresh hC (fun y hy => by simp at hy)
        intro y hy
        rcases List.mem_append.1 hy with hy | hy
        · exact h0 y hy
        · rw [hf y hy]; exact ⟨by decide, fun _ => rfl⟩
  · unfold learnP at h4
    split at h4
    · cases h4
    · have e : learnK k r = r.points.foldl updP (kpsOf k k.refs.length) := (congrArg Prod.snd h4).symm
      rw [e]
      refine okT_all h0 fun p hp => ?_
      have := hpe p hp
      unfold pointErr at this
      split at this
      · rename_i h9; exact absurd this h9
      · exact this
/-! ### rows of numbers, of bools -/
theorem reads_ownInts {w : World} {Z : Nat} {v : Value} {l : List Int} (h : w.ownsRow Z 3 1 v l.length (intsV l)) : readsInt w w.heap.size v l := by
  obtain ⟨ao, cp, e⟩ := own_shape h
  refine ⟨ao, cp, e, fun i hi => ?_⟩
  rcases id h.2 with ⟨_, h0⟩ | ⟨g, cap, cur, r1, r2, r3, _⟩
  · omega
  · rw [e] at r1
    obtain ⟨rfl, rfl⟩ : ao = some ⟨g, 0, none⟩ ∧ cp = cap := by simpa using r1
    have hc := World.ownsRow.cells h (g := g) (by rw [e]; rfl) i (.int .i64 l[i]) (by simp [intsV, hi])
    rw [Addr.add_lit] at hc
    exact ⟨g, 0, rfl, lt_of_block r3, by simpa using hc⟩
theorem reads_ownBools {w : World} {Z : Nat} {v : Value} {l : List Bool} (h : w.ownsRow Z 4 1 v l.length (boolsV l)) : readsBool w w.heap.size v l := by
  obtain ⟨ao, cp, e⟩ := own_shape h
  refine ⟨ao, cp, e, fun i hi => ?_⟩
  rcases id h.2 with ⟨_, h0⟩ | ⟨g, cap, cur, r1, r2, r3, _⟩
  · omega
  · rw [e] at r1
    obtain ⟨rfl, rfl⟩ : ao = some ⟨g, 0, none⟩ ∧ cp = cap := by simpa using r1
    have hc := World.ownsRow.cells h (g := g) (by rw [e]; rfl) i (.bool l[i]) (by simp [boolsV, hi])
    rw [Addr.add_lit] at hc
    exact ⟨g, 0, rfl, lt_of_block r3, by simpa using hc⟩
theorem ownKnw.reads {w : World} {Z : Nat} {vr vl vh : Value} {k : Knw} (h : ownKnw w Z vr vl vh k) : readsKnw w w.heap.size vr vl vh k := ⟨reads_ownRefs h.r, reads_ownInts h.l, reads_ownBools h.h⟩
theorem okKnw_of {k : Knw} (h : knwErr k = 0) : okKnw k := by
  obtain ⟨h1, h2, h3, h4, _⟩ := knwErr_zero h
  refine ⟨by omega, by omega, by omega, fun x hx => ?_, fun t ht => ?_⟩
  · obtain ⟨i, hi, rfl⟩ := List.getElem_of_mem hx
    have := oneErr_ref (h4 i hi)
    have e : k.refs.getD i (0, []) = k.refs[i] := by simp [hi]
    rw [e] at this
    exact okRef_of this
  · obtain ⟨i, hi, rfl⟩ := List.getElem_of_mem ht
    have ht := (okT_kps h (kpAt k i) (List.mem_map.2 ⟨i, List.mem_range.2 (by omega), rfl⟩)).1
    have e : (kpAt k i).2.1 = k.lasts[i] := by simp [kpAt, hi]
    rw [e] at ht
    unfold timeErr at ht
    by_cases hc : -9007199254740991 ≤ k.lasts[i] ∧ k.lasts[i] ≤ 9007199254740991
    · omega
    · rw [if_neg hc] at ht; cases ht
set_option maxRecDepth 20000 in
set_option maxHeartbeats 8000000 in
/-- R.SameKnown of what is the same. -/
theorem sameKnw_yes (w : World) (ar al ah br bl bh : Value) (k : Knw) (ha : readsKnw w w.heap.size ar al ah k) (hb : readsKnw w w.heap.size br bl bh k) (hl : k.refs.length ≤ 1000000) (hll : ∀ x ∈ k.refs, x.2.length ≤ 1000000) (h2 : k.lasts.length ≤ 1000000) (h3 : k.has.length ≤ 1000000) :
    Calls Tryz.prog 12 #[.agg #[ar, al, ah], .agg #[br, bl, bh]] w fun e w' => e = .returned (.bool true) ∧ Grow w w' := by
  obtain ⟨rs, ls, hs⟩ := k
  simp only at ha hb hl hll h2 h3
  have HA := hide ha
  have HB := hide hb
  obtain ⟨⟨aro, arc, rfl, _⟩, ⟨alo, alc, rfl, _⟩, ⟨aho, ahc, rfl, _⟩⟩ := ha
  obtain ⟨⟨bro, brc, rfl, _⟩, ⟨blo, blc, rfl, _⟩, ⟨bho, bhc, rfl, _⟩⟩ := hb
  obtain ⟨V1, e1, g1, b1⟩ := laid_at w #[.slice aro rs.length arc, .slice alo ls.length alc, .slice aho hs.length ahc] 26
  obtain ⟨V2, e2, g2, b2⟩ := laid_at V1 #[.slice bro rs.length brc, .slice blo ls.length blc, .slice bho hs.length bhc] 26
  have s1 : V1.heap.size = w.heap.size + 1 := by rw [← e1]; simp
  rw [s1] at b2
  have HB1 := hide (g2.get b1)
  have HB2 := hide b2
  have HG := hide (g1.trans g2)
  have HSR := hide (sameRefs_yes V2 _ _ rs ((HA.out.1.keep HG.out).more HG.out.size) ((HB.out.1.keep HG.out).more HG.out.size) hl hll)
  obtain ⟨c0, c1, c2⟩ := three_of HB1.out
  obtain ⟨d0, d1, d2⟩ := three_of HB2.out
  have hn1 : ((ls.length : Int) != (ls.length : Int)) = false := by simp
  have hn2 : ((hs.length : Int) != (hs.length : Int)) = false := by simp
  clear g1 g2 b1 b2 hll
  go_enter Tryz.func12, Tryz.ntmps12
  go_wp2_with fail
  refine HSR.out.mono ?_
  rintro e w3 ⟨rfl, hg3⟩
  have HG3 : Hid (Grow V2 w3) := hide (by obtain ⟨n, rfl⟩ := hg3; exact ⟨rfl, rfl, rfl, Nat.le_refl _, fun _ _ => rfl⟩)
  clear hg3 HSR c0 c1 c2 d0 d1 d2 e1 e2 s1
  obtain ⟨c0, c1, c2⟩ := three_of (HG3.out.get HB1.out)
  obtain ⟨d0, d1, d2⟩ := three_of (HG3.out.get HB2.out)
  go_wp2
  clear c0 c1 c2 d0 d1 d2
  go_loopw [5] (fun iv wr => ∃ i : Nat, i ≤ ls.length ∧ iv = .int .i64 i ∧ Hid (Grow w3 wr)) (fun iv _ => ls.length - (intOf iv).toNat)
  case atStart => exact ⟨0, by omega, rfl, hide (Grow.refl _)⟩
  case round =>
    obtain ⟨i, hi, rfl, HGr⟩ := hrel
    obtain ⟨c0, c1, c2⟩ := three_of ((HG3.out.trans HGr.out).get HB1.out)
    obtain ⟨d0, d1, d2⟩ := three_of ((HG3.out.trans HGr.out).get HB2.out)
    by_cases hlt : i < ls.length
    · have hlti : (i : Int) < (ls.length : Int) := by omega
      have hgw : Grow w wr := HG.out.trans (HG3.out.trans HGr.out)
      obtain ⟨ab, af, rfl, _, q0⟩ : ∃ b' o, alo = some ⟨b', o, none⟩ ∧ b' < w.heap.size ∧ wr.cell? ⟨b', o + i, none⟩ = some (.int .i64 ls[i]) := by
        obtain ⟨ao', cp', e, h⟩ := HA.out.2.1.keep hgw
        cases e
        exact h i hlt
      obtain ⟨bb, bf, rfl, _, q1⟩ : ∃ b' o, blo = some ⟨b', o, none⟩ ∧ b' < w.heap.size ∧ wr.cell? ⟨b', o + i, none⟩ = some (.int .i64 ls[i]) := by
        obtain ⟨ao', cp', e, h⟩ := HB.out.2.1.keep hgw
        cases e
        exact h i hlt
      obtain ⟨t, HT⟩ : ∃ t : Int, Hid (ls[i] = t) := ⟨_, hide rfl⟩
      rw [HT.out] at q0 q1
      have hne : (t != t) = false := by simp
      clear hgw
      go_wp2
      go_quiet (fail)
      go_wp2
      go_roundw
      case rel => exact ⟨i + 1, by omega, by go_num, hide (HGr.out.trans (grow_drewR _ _))⟩
      case measure => simp [intOf]; omega
    · obtain rfl : i = ls.length := by omega
      go_wp2
      clear c0 c1 c2 d0 d1 d2
      go_loopw [6] (fun iv w5 => ∃ i : Nat, i ≤ hs.length ∧ iv = .int .i64 i ∧ Hid (Grow w3 w5)) (fun iv _ => hs.length - (intOf iv).toNat)
      case atStart => exact ⟨0, by omega, rfl, HGr⟩
      case round =>
        obtain ⟨i, hi, rfl, HG5⟩ := hrel
        rename World => w5
        obtain ⟨c0, c1, c2⟩ := three_of ((HG3.out.trans HG5.out).get HB1.out)
        obtain ⟨d0, d1, d2⟩ := three_of ((HG3.out.trans HG5.out).get HB2.out)
        by_cases hlt2 : i < hs.length
        · have hlti : (i : Int) < (hs.length : Int) := by omega
          have hgw : Grow w w5 := HG.out.trans (HG3.out.trans HG5.out)
          obtain ⟨ab, af, rfl, _, q0⟩ : ∃ b' o, aho = some ⟨b', o, none⟩ ∧ b' < w.heap.size ∧ w5.cell? ⟨b', o + i, none⟩ = some (.bool hs[i]) := by
            obtain ⟨ao', cp', e, h⟩ := HA.out.2.2.keep hgw
            cases e
            exact h i hlt2
          obtain ⟨bb, bf, rfl, _, q1⟩ : ∃ b' o, bho = some ⟨b', o, none⟩ ∧ b' < w.heap.size ∧ w5.cell? ⟨b', o + i, none⟩ = some (.bool hs[i]) := by
            obtain ⟨ao', cp', e, h⟩ := HB.out.2.2.keep hgw
            cases e
            exact h i hlt2
          obtain ⟨t, HT⟩ : ∃ t : Bool, Hid (hs[i] = t) := ⟨_, hide rfl⟩
          rw [HT.out] at q0 q1
          have hne : (t != t) = false := by simp
          clear hgw
          go_wp2
          go_quiet (fail)
          go_wp2
          go_roundw
          case rel => exact ⟨i + 1, by omega, by go_num, hide (HG5.out.trans (grow_drewR _ _))⟩
          case measure => simp [intOf]; omega
        · obtain rfl : i = hs.length := by omega
          go_wp2
          go_ret
          exact ⟨rfl, HG.out.trans (HG3.out.trans HG5.out)⟩
end Go.Proofs.YtkaeogldielkfaaGreat.Rc
