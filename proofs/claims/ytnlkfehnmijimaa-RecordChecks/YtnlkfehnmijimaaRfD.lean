/- record: the reader's refs. -/
import Derived.Laws.OwnMore
import Derived.Test.YtnlkfehnmijimaaProg
import Derived.Test.YtnlkfehnmijimaaKit
import Derived.Test.YtnlkfehnmijimaaSpec
import Derived.Test.YtnlkfehnmijimaaReg
import Derived.Test.YtnlkfehnmijimaaLRow
import Derived.Test.YtnlkfehnmijimaaRcA
import Derived.Test.YtnlkfehnmijimaaRcM
import Derived.Test.YtnlkfehnmijimaaRcN
import Derived.Test.YtnlkfehnmijimaaRcS
import Derived.Test.YtnlkfehnmijimaaRcT
import Derived.Test.YtnlkfehnmijimaaRcU
import Derived.Test.YtnlkfehnmijimaaRcY
import Derived.Test.YtnlkfehnmijimaaRfA
import Derived.Test.YtnlkfehnmijimaaRfB
import Derived.Test.YtnlkfehnmijimaaRfC
import Derived.BigQuiet
set_option linter.unusedVariables false
set_option linter.unusedSimpArgs false
namespace Go.Proofs.Ytnlkfehnmijimaa.Rc
open Go.RowKit Lb
attribute [local go_sem] bs_size bs_toList bs_append bs_get bs_extract

/-- Labels, as they are read, and a ref. -/
def cutLs (s : List UInt8) : Option (List Lab × List UInt8) := eachO stepL 20 (fun st => st.2) (fun st r => (st.1, r)) ([], s)
def cutR (s : List UInt8) : Option (RefL × List UInt8) := bindO (mapO numI (cutN s)) fun n s1 => mapO (fun ls => (n, ls)) (cutLs s1)
/-- What the reader's ref answers: a value whose labels the call owns. -/
def refAns (Z b : Nat) (o : Option (RefL × List UInt8)) (w : World) (e : Ending) (w' : World) : Prop :=
  KI b w w' ∧ match o with
    | some x => ∃ v, e = .returned (.agg #[.int .i64 x.1.1, v]) ∧ ownLabels w' Z v x.1.2 ∧ InAt w' b x.2
    | none => ∃ E : Nat, E ≠ 0 ∧ e = gaveUp E
theorem infoRef : (Try.prog.info? 53).map (·.size) = some 2 := by kernel_rfl

theorem kz_back {Z b : Nat} {a c d : World} (h : KI b a c) (k : KZ Z b c d) (hZ : a.heap.size ≤ Z := by first | omega | (simp at *; omega)) : KI b a d :=
  ⟨k.1.trans h.os, k.2.1.trans h.tape, k.2.2.1.trans h.output, Nat.le_trans h.size k.2.2.2.1, fun i hi hn => (k.2.2.2.2 i (Nat.lt_of_lt_of_le hi hZ) hn).trans (h.block i hi hn)⟩
set_option maxRecDepth 20000 in
set_option maxHeartbeats 4000000 in
theorem ref_any (w : World) (b : Nat) (s : List UInt8) (h : InAt w b s) (hs : s.length ≤ 140737488355328) :
    Calls Try.prog 46 #[.pointer (some ⟨b, 0, none⟩)] w (refAns w.heap.size b (cutR s) w) := by
  have hcf : ∀ (args : Array Value) (w : World), (callFunc 59 args).run Try.prog w = .ok (.enter 59 args) w := fun args w => by simp [go_sem]
  obtain ⟨O, HO⟩ : ∃ O, Hid (cutR s = O) := ⟨_, hide rfl⟩
  rw [HO.out]
  have HO1 : Hid ((mapO numI (cutN s)).bind (fun x => mapO (fun ls => (x.1, ls)) (cutLs x.2)) = O) := HO
  clear HO
  have hbl := lt_of_block h
  obtain ⟨V1, e1, g1, b1⟩ := laid_at w #[.pointer (some ⟨b, 0, none⟩)] 88
  obtain ⟨V2, e2, g2, b2⟩ := laid_at V1 #[.int .i64 0, .slice none 0 0] 53
  have s1 : V1.heap.size = w.heap.size + 1 := by rw [← e1]; simp
  have s2 : V2.heap.size = w.heap.size + 2 := by rw [← e2]; simp [s1]
  have b1' := g2.get b1
  have h02 : Grow w V2 := g1.trans g2
  have HN := hide (refNumber_r V2 b s (h.grow h02) hs)
  have c1 := cell_of_one b1'
  have HB1 := hide b1'
  have HB2 := hide b2
  have H02 := hide h02
  unfold readAs at HN
  cases hc : mapO numI (cutN s) with
  | none =>
    rw [hc] at HN HO1
    simp only [Option.bind_none] at HN HO1
    clear hc b1 b2 b1' g1 g2 h02 h s2
    go_enter Try.func46, Try.ntmps46
    go_wp2_with fail
    refine HN.out.mono ?_
    rintro e w1 ⟨hk, E, hE, rfl⟩
    refine ⟨rfl, ?_⟩
    unfold refAns
    rw [← HO1.out]
    exact ⟨(KI.grow H02.out).trans hk, E, hE, rfl⟩
  | some x =>
    obtain ⟨n, r⟩ := x
    obtain ⟨n1, hn1, -⟩ := mapO_some hc
    have hrl := cutN_len hn1
    rw [hc] at HN HO1
    simp only [Option.bind_some] at HN HO1
    have HEA : Hid (∀ W xb, InAt W b r → W.heap[w.heap.size]? = some (.cells #[.pointer (some ⟨b, 0, none⟩)] 88 (0, 0)) → W.heap[xb]? = some (.cells #[.int .i64 n, .slice none 0 0] 53 (0, 0)) → w.heap.size < xb → xb ≤ W.heap.size →
        Calls Try.prog 44 #[.pointer (some ⟨b, 0, none⟩), .int .u64 20, .func (.func 59) #[] #[.pointer (some ⟨xb, 0, none⟩), .pointer (some ⟨w.heap.size, 0, none⟩)]] W (turned (fun st w' => ∃ k, k ≤ 20 ∧ KZ xb b W w' ∧ inRef xb b xb w.heap.size n k st w') (fun w' => KZ xb b W w') (cutLs r))) := hide fun W xb hi hp hx hlx hW => by
      unfold cutLs
      refine each_any W b 20 59 _ (fun st => st.2) (fun st r => (st.1, r)) (fun k st w' => KZ xb b W w' ∧ inRef xb b xb w.heap.size n k st w') (fun w' => KZ xb b W w') stepL ([], r) hcf (by omega) hi (by show r.length ≤ _; omega) (fun q w' hk hq hql => ?_) (fun w' hk => hk.kz hW) (fun k st w' h => h.1) (fun k st W' hk20 hI => ?_)
      · have hql' : q.length ≤ r.length := hql
        exact ⟨hk.kz hW, by have := hk.size; omega, by show q.length ≤ _; omega, Nat.zero_le _, hq, hk.get hp (by omega), .slice none 0 0, hk.get hx (by omega), World.ownsRow_nil _ _ _ _⟩
      · refine (ref1_any W' xb b xb w.heap.size n k st hk20 (by omega) (Nat.le_refl _) (by omega) (by omega) hI.2).mono fun e w' ht => ?_
        unfold turned at ht ⊢
        cases hst : stepL st with
        | none => rw [hst] at ht; exact ⟨ht.1, hI.1.trans ht.2⟩
        | some st' => rw [hst] at ht; exact ⟨ht.1, hI.1.trans ht.2.1, ht.2.2⟩
    clear hc hn1 b1 b2 b1' g1 g2 h02 h hcf
    go_enter Try.func46, Try.ntmps46
    go_wp2_with fail
    refine HN.out.mono ?_
    rintro e w1 ⟨hk1, rfl, hi1⟩
    have HK1 := hide hk1
    have HI1 := hide hi1
    have HP1 := hide (hk1.get HB1.out (by omega))
    have c1' := cell_of_one HP1.out
    have hs1 := hk1.size
    obtain ⟨W3, e3, g3, b3⟩ := laid_at w1 #[.int .i64 n, .slice none 0 0] 53
    have HG3 := hide g3
    have HB3 := hide b3
    have c1W := cell_of_one (g3.get HP1.out)
    have HE := hide (HEA.out W3 w1.heap.size (HI1.out.grow g3) (g3.get HP1.out) b3 (by omega) (by have := g3.size; omega))
    unfold turned at HE
    rw [← e3] at HE c1W HG3 HB3
    clear e3
    clear hk1 hi1 HN g3 b3 c1 e1 e2 HEA
    cases hc : cutLs r with
    | none =>
      rw [hc] at HE
      simp only at HE
      rw [hc] at HO1
      clear hc
      go_wp2_with fail
      refine HE.out.mono ?_
      rintro e w4 ⟨⟨E, hE, rfl⟩, hk4⟩
      refine ⟨rfl, ?_⟩
      unfold refAns
      rw [← HO1.out]
      exact ⟨(KI.grow H02.out).trans (HK1.out.trans (kz_back (KI.grow HG3.out) hk4)), E, hE, rfl⟩
    | some x =>
      obtain ⟨ls, q⟩ := x
      rw [hc] at HE
      simp only at HE
      rw [hc] at HO1
      clear hc
      go_wp2_with fail
      refine HE.out.mono ?_
      rintro e w4 ⟨rfl, k, hk20, hk4, hZ4, hq4, hl4, hi4, hp4, v, hx4, ho4⟩
      simp only at hi4 ho4
      have HK4 := hide ((KI.grow H02.out).trans (HK1.out.trans (kz_back (KI.grow HG3.out) hk4)))
      have hb2 : w4.heap[w.heap.size + 1]? = some (.cells #[.int .i64 0, .slice none 0 0] 53 (0, 0)) := by
        have h1 := HB2.out
        rw [s1] at h1
        have h2 := HG3.out.get (HK1.out.get h1 (by omega))
        exact (hk4.2.2.2.2 _ (by omega) (by omega)).trans h2
      have HI4 := hide hi4
      have HO4 := hide ho4
      have HB4 := hide hb2
      obtain ⟨cx0, cx1⟩ := two_of hx4
      obtain ⟨cr0, cr1⟩ := two_of hb2
      have z0 : w4.frozen? ⟨w.heap.size + 1, 0, none⟩ = false := by simp only [World.frozen?, hb2]; rfl
      have z1 : w4.frozen? ⟨w.heap.size + 1, 1, none⟩ = false := by simp only [World.frozen?, hb2]; rfl
      obtain ⟨vo, vc, hv⟩ := own_shape ho4
      subst hv
      clear hk4 hZ4 hq4 hl4 hi4 hp4 hx4 ho4 hb2 HE HB2 HB3 HG3 HK1
      go_wp2
      have HF := set3 (set3 HB4.out 0 (.int .i64 n)) 1 (.slice vo ls.length vc)
      refine bodyPost_ret (v := .agg #[.int .i64 n, .slice vo ls.length vc]) (results_cell_row (p := 2) (ty := 53) rfl _ _ (w.heap.size + 1) _ _ _ _ rfl HF Try.underlying53 rfl infoRef) rfl ?_
      unfold refAns
      rw [← HO1.out]
      refine ⟨(HK4.out.setNew (g := w.heap.size + 1) (by omega) _ _).setNew (g := w.heap.size + 1) (by omega) _ _, ?_⟩
      refine ⟨.slice vo ls.length vc, rfl, ?_, (HI4.out.other (g := w.heap.size + 1) (by omega) _ _).other (g := w.heap.size + 1) (by omega) _ _⟩
      have h1 := ownsRow_setCell_other (a := ⟨w.heap.size + 1, 0, none⟩) (own_le HO4.out (Nat.le_of_lt (by omega : w.heap.size < w1.heap.size))) (own_apart HO4.out HB4.out (by decide)) (.int .i64 n)
      exact ownsRow_setCell_other (a := ⟨w.heap.size + 1, 1, none⟩) h1 (own_apart h1 (set3 HB4.out 0 _) (by decide)) _
end Go.Proofs.Ytnlkfehnmijimaa.Rc
