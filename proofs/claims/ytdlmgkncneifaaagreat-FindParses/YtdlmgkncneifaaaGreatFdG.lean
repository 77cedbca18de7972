/- find: parted, the walk. -/
import Derived.Laws.OwnMore
import Derived.Laws.AppendOwnNone
import Derived.Deep.AppendLies
import Derived.Maps.AppendAt
import Derived.Test.YtdlmgkncneifaaaGreatProg
import Derived.Test.YtdlmgkncneifaaaGreatKit
import Derived.Test.YtdlmgkncneifaaaGreatReg
import Derived.Test.YtdlmgkncneifaaaGreatLSpec
import Derived.Test.YtdlmgkncneifaaaGreatLRow
import Derived.Test.YtdlmgkncneifaaaGreatFdA
import Derived.Test.YtdlmgkncneifaaaGreatFdD
import Derived.Test.YtdlmgkncneifaaaGreatFdF
import Derived.BigQuiet
set_option linter.unusedVariables false
set_option linter.unusedSimpArgs false
namespace Go.Proofs.YtdlmgkncneifaaaGreat.Fd
open Go.RowKit Lb
attribute [local go_sem] bs_size bs_toList bs_append bs_get bs_extract

theorem part_end {a b : List Tgt} (h : a = [] ∨ b = []) : partT a b = (a, [], b) := by
  rcases h with rfl | rfl
  · rw [partT]
  · exact part_nil a
theorem restT.news {w : World} {B : Nat} {ad : Addr} {n c : Nat} {ps : List TP} (h : restT w B (.slice (some ad) n c) ps) : ∀ j u, (vals ps)[j]? = some u → w.cell? (ad.add j) = some u := by
  rcases h with ⟨h, _⟩ | ⟨b, o, cp, hv, _, _, h⟩
  · cases h
  · intro j u hu
    simp only [Value.slice.injEq, Option.some.injEq] at hv
    obtain ⟨rfl, -, -⟩ := hv
    unfold vals at hu
    rw [List.getElem?_map] at hu
    obtain ⟨q, hq, rfl⟩ := Option.map_eq_some_iff.1 hu
    obtain ⟨hj, rfl⟩ := List.getElem?_eq_some_iff.1 hq
    rw [Addr.add_lit]
    exact h j hj
theorem PartJ.done {w : World} {pa pb : List TP} {va vb v1 v2 v3 : Value} {a b p1 p2 p3 : List TP} {wr W : World} {f1 f3 : Value} (h : PartJ w pa pb va vb v1 v2 v3 a b p1 p2 p3 wr) (hab : a = [] ∨ b = []) (hW : Grow w W) (r1 : rowT W w.heap.size f1 (p1 ++ a)) (r2 : rowT W w.heap.size v2 p2) (r3 : rowT W w.heap.size f3 (p3 ++ b)) (hla : ∀ p ∈ pa, readsLabels w w.heap.size p.2 p.1 ∧ checkB p.1 = 0) (hlb : ∀ p ∈ pb, readsLabels w w.heap.size p.2 p.1 ∧ checkB p.1 = 0) : readsTgts W W.heap.size f1 (partT (tgts pa) (tgts pb)).1 ∧ readsTgts W W.heap.size v2 (partT (tgts pa) (tgts pb)).2.1 ∧ readsTgts W W.heap.size f3 (partT (tgts pa) (tgts pb)).2.2 ∧ Grow w W := by
  have e := h.eq
  have e2 : partT (tgts a) (tgts b) = (tgts a, [], tgts b) := part_end (by rcases hab with rfl | rfl; exact .inl rfl; exact .inr rfl)
  rw [e2] at e
  rw [e]
  simp only [List.append_nil, ← tgts_append]
  obtain ⟨i1, i2, i3, i4, i5⟩ := h.ins
  have up : ∀ {p : TP}, readsLabels w w.heap.size p.2 p.1 → readsLabels W W.heap.size p.2 p.1 := fun hp => readsLabels_mono (readsLabels_below hp hW) hW.size
  refine ⟨r1.reads fun p hp => ?_, r2.reads fun p hp => up (hla p (i4 p hp)).1, r3.reads fun p hp => ?_, hW⟩
  · rcases List.mem_append.1 hp with hp | hp
    · exact up (hla p (i3 p hp)).1
    · exact up (hla p (i1 p hp)).1
  · rcases List.mem_append.1 hp with hp | hp
    · exact up (hlb p (i5 p hp)).1
    · exact up (hlb p (i2 p hp)).1
theorem rowT.plus {w : World} {B : Nat} {v : Value} {p a : List TP} (h : w.ownsRow B 36 1 v (p.length + a.length) (vals p ++ vals a)) : rowT w B v (p ++ a) := by
  unfold rowT
  rw [List.length_append, vals_append]
  exact h
set_option maxRecDepth 20000 in
set_option maxHeartbeats 1200000 in
theorem parted_any (w : World) (va vb : Value) (pa pb : List TP) (ha : restT w w.heap.size va pa) (hb : restT w w.heap.size vb pb) (hla : ∀ p ∈ pa, readsLabels w w.heap.size p.2 p.1 ∧ checkB p.1 = 0) (hlb : ∀ p ∈ pb, readsLabels w w.heap.size p.2 p.1 ∧ checkB p.1 = 0) (la : pa.length ≤ 1000) (lb : pb.length ≤ 1000) :
    Calls Tryz.prog 32 #[va, vb] w fun e w' => ∃ v1 v2 v3, e = .returned (.tuple #[v1, v2, v3]) ∧ readsTgts w' w'.heap.size v1 (partT (tgts pa) (tgts pb)).1 ∧ readsTgts w' w'.heap.size v2 (partT (tgts pa) (tgts pb)).2.1 ∧ readsTgts w' w'.heap.size v3 (partT (tgts pa) (tgts pb)).2.2 ∧ Grow w w' := by
  obtain ⟨i0, hi0, hz0, hz1, hz2⟩ := info_parts infoTgt
  obtain ⟨ao, ac, hva⟩ := ha.shape
  obtain ⟨bo, bc, hvb⟩ := hb.shape
  have HLA := hide hla
  have HLB := hide hlb
  have HJ0 : Hid (PartJ w pa pb va vb (.slice none 0 0) (.slice none 0 0) (.slice none 0 0) pa pb [] [] [] w) := hide ⟨ha, hb, World.ownsRow_nil _ _ _ _, World.ownsRow_nil _ _ _ _, World.ownsRow_nil _ _ _ _, apartV.nil, apartV.nil, apartV.nil, ⟨fun p h => h, fun p h => h, fun p h => absurd h (by simp), fun p h => absurd h (by simp), fun p h => absurd h (by simp)⟩, by simp [tgts], Grow.refl _⟩
  have mixed : Tryz.prog.follows .mixedOrders = true := by kernel_rfl
  clear ha hb hla hlb
  subst hva hvb
  go_enter Tryz.func32, Tryz.ntmps32
  go_wp2
  go_loopw [0, 1, 4, 5, 6] (fun xa xb v1 v2 v3 wr => ∃ a b p1 p2 p3 : List TP, Hid (PartJ w pa pb xa xb v1 v2 v3 a b p1 p2 p3 wr)) (fun xa xb _ _ _ _ => slLen xa + slLen xb)
  case atStart => exact ⟨_, _, _, _, _, HJ0⟩
  case round =>
    obtain ⟨a, b, p1, p2, p3, HJ⟩ := hrel
    obtain ⟨xo, xc, rfl⟩ := HJ.out.ra.shape
    obtain ⟨yo, yc, rfl⟩ := HJ.out.rb.shape
    obtain ⟨o1, c1, hv1⟩ := own_shape HJ.out.r1
    obtain ⟨o2, c2, hv2⟩ := own_shape HJ.out.r2
    obtain ⟨o3, c3, hv3⟩ := own_shape HJ.out.r3
    subst hv1 hv2 hv3
    obtain ⟨l1, l2⟩ := HJ.out.lens
    cases a with
    | nil =>
      obtain ⟨nb, HNB⟩ : ∃ nb, Hid (b.length = nb) := ⟨_, hide rfl⟩
      have HLb : Hid (∀ p ∈ b, p ∈ pb) := hide HJ.out.ins.2.1
      have HOB1 : Hid (∀ u ∈ Fd.vals b, u.oneCell' = true) := hide (one_vals (w := w) (B := w.heap.size) fun p hp => (HLB.out p (HLb.out p hp)).1)
      have HOA1 : Hid (∀ u ∈ Fd.vals [], u.oneCell' = true) := hide (fun u hu => absurd hu (by simp [Fd.vals]))
      have HJ' := HJ.out
      rw [HNB.out, List.length_nil] at HJ'
      rw [HNB.out] at l2 ⊢
      rw [List.length_nil] at l1 ⊢
      replace HJ := hide HJ'
      clear HJ'
      rcases HJ.out.ra with ⟨hx0, -⟩ | ⟨xb, xf, xc', hx0, -, -, -⟩
      · simp only [Value.slice.injEq, true_and] at hx0
        obtain ⟨rfl, rfl⟩ := hx0
        rcases HJ.out.rb with ⟨hy0, hb0⟩ | ⟨yb, yf, yc', hy0, -, -, -⟩
        · simp only [Value.slice.injEq] at hy0
          obtain ⟨rfl, rfl, rfl⟩ := hy0
          subst hb0
          go_wp2_with (first | (at_builtin; refine wpList_append_own_none rfl _ _ 22 rfl w.heap.size 36 i0 1 Tryz.underlying22 hi0 (.slice o1 p1.length c1) p1.length (Fd.vals p1) rfl HJ.out.r1 rfl ?_) | (at_builtin; refine wpList_append_own_none rfl _ _ 22 rfl w.heap.size 36 i0 1 Tryz.underlying22 hi0 (.slice o3 p3.length c3) p3.length (Fd.vals p3) rfl HJ.out.r3 rfl ?_))
          go_ret3
          exact ⟨_, _, _, rfl, HJ.out.done (by simp) HJ.out.gr (by simpa using HJ.out.r1) HJ.out.r2 (by simpa using HJ.out.r3) HLA.out HLB.out⟩
        · rw [HNB.out] at hy0
          simp only [Value.slice.injEq, true_and] at hy0
          obtain ⟨rfl, rfl⟩ := hy0
          have HNB1 := hide HJ.out.rb.news
          go_wp2_with (first | (at_builtin; refine wpList_append_own_none rfl _ _ 22 rfl w.heap.size 36 i0 1 Tryz.underlying22 hi0 (.slice o1 p1.length c1) p1.length (Fd.vals p1) rfl HJ.out.r1 rfl ?_) | (at_builtin; refine wpList_append_own_at _ rfl _ _ 22 rfl w.heap.size 36 i0 _ 1 24 Tryz.underlying22 hi0 hz0 hz1 hz2 rfl (by omega) (.slice o3 p3.length c3) p3.length (Fd.vals p3) rfl HJ.out.r3 ⟨yb, yf, none⟩ nb yc (Fd.vals b) rfl (by rw [vals_length, HNB.out, Nat.mul_one]) HNB1.out HOB1.out (by unfold maxLen; omega) (by omega) HJ.out.gr.size ?_; intro v3' w6 hown6 hgrow6 _ hat6; have HO6 := hide hown6; have HG6 := hide hgrow6; have HA6 := hide hat6; obtain ⟨o3', c3', hv3'⟩ := own_shape hown6; clear hown6 hgrow6 hat6; subst hv3'))
          go_ret3
          exact ⟨_, _, _, rfl, HJ.out.done (by simp) (Below.trans HJ.out.gr ((Below.refl _ _).grown HG6.out HJ.out.gr.size (fun k hk => (HJ.out.r3.lt k hk).1))) (by simpa using (HJ.out.r1.grown HG6.out HJ.out.a13)) (HJ.out.r2.grown HG6.out HJ.out.a23) (rowT.plus (by rw [HNB.out]; exact HO6.out)) HLA.out HLB.out⟩
      · simp only [Value.slice.injEq, List.length_nil, true_and] at hx0
        obtain ⟨rfl, rfl⟩ := hx0
        have HNA1 := hide HJ.out.ra.news
        rcases HJ.out.rb with ⟨hy0, hb0⟩ | ⟨yb, yf, yc', hy0, -, -, -⟩
        · simp only [Value.slice.injEq] at hy0
          obtain ⟨rfl, rfl, rfl⟩ := hy0
          subst hb0
          go_wp2_with (first | (at_builtin; refine wpList_append_own_at _ rfl _ _ 22 rfl w.heap.size 36 i0 _ 1 24 Tryz.underlying22 hi0 hz0 hz1 hz2 rfl (by omega) (.slice o1 p1.length c1) p1.length (Fd.vals p1) rfl HJ.out.r1 ⟨xb, xf, none⟩ 0 xc (Fd.vals []) rfl (by rw [vals_length, List.length_nil]) HNA1.out HOA1.out (by unfold maxLen; omega) (by omega) HJ.out.gr.size ?_; intro v1' w5 hown5 hgrow5 _ hat5; have HO5 := hide hown5; have HG5 := hide hgrow5; have HA5 := hide hat5; obtain ⟨o1', c1', hv1'⟩ := own_shape hown5; clear hown5 hgrow5 hat5; subst hv1'; have hB5 : Below w.heap.size wr w5 := (Below.refl _ _).grown HG5.out HJ.out.gr.size (fun k hk => (HJ.out.r1.lt k hk).1)) | (at_builtin; refine wpList_append_own_none rfl _ _ 22 rfl w.heap.size 36 i0 1 Tryz.underlying22 hi0 (.slice o3 p3.length c3) p3.length (Fd.vals p3) rfl (HJ.out.r3.grown HG5.out HJ.out.a13.symm) rfl ?_))
          go_ret3
          exact ⟨_, _, _, rfl, HJ.out.done (by simp) (Below.trans HJ.out.gr hB5) (rowT.plus (by rw [List.length_nil]; exact HO5.out)) (HJ.out.r2.grown HG5.out HJ.out.a12.symm) (by simpa using (HJ.out.r3.grown HG5.out HJ.out.a13.symm)) HLA.out HLB.out⟩
        · rw [HNB.out] at hy0
          simp only [Value.slice.injEq, true_and] at hy0
          obtain ⟨rfl, rfl⟩ := hy0
          have HNB1 := hide HJ.out.rb.news
          go_wp2_with (first | (at_builtin; refine wpList_append_own_at _ rfl _ _ 22 rfl w.heap.size 36 i0 _ 1 24 Tryz.underlying22 hi0 hz0 hz1 hz2 rfl (by omega) (.slice o1 p1.length c1) p1.length (Fd.vals p1) rfl HJ.out.r1 ⟨xb, xf, none⟩ 0 xc (Fd.vals []) rfl (by rw [vals_length, List.length_nil]) HNA1.out HOA1.out (by unfold maxLen; omega) (by omega) HJ.out.gr.size ?_; intro v1' w5 hown5 hgrow5 _ hat5; have HO5 := hide hown5; have HG5 := hide hgrow5; have HA5 := hide hat5; obtain ⟨o1', c1', hv1'⟩ := own_shape hown5; clear hown5 hgrow5 hat5; subst hv1'; have hB5 : Below w.heap.size wr w5 := (Below.refl _ _).grown HG5.out HJ.out.gr.size (fun k hk => (HJ.out.r1.lt k hk).1)) | (at_builtin; refine wpList_append_own_at _ rfl _ _ 22 rfl w.heap.size 36 i0 _ 1 24 Tryz.underlying22 hi0 hz0 hz1 hz2 rfl (by omega) (.slice o3 p3.length c3) p3.length (Fd.vals p3) rfl (HJ.out.r3.grown HG5.out HJ.out.a13.symm) ⟨yb, yf, none⟩ nb yc (Fd.vals b) rfl (by rw [vals_length, HNB.out, Nat.mul_one]) (((HJ.out.rb.keep hB5)).news) HOB1.out (by unfold maxLen; omega) (by omega) (Nat.le_trans HJ.out.gr.size hB5.size) ?_; intro v3' w6 hown6 hgrow6 _ hat6; have HO6 := hide hown6; have HG6 := hide hgrow6; have HA6 := hide hat6; obtain ⟨o3', c3', hv3'⟩ := own_shape hown6; clear hown6 hgrow6 hat6; subst hv3'))
          go_ret3
          exact ⟨_, _, _, rfl, HJ.out.done (by simp) (Below.trans (Below.trans HJ.out.gr hB5) ((Below.refl _ _).grown HG6.out (Nat.le_trans HJ.out.gr.size hB5.size) (fun k hk => (HJ.out.r3.lt k hk).1))) ((rowT.plus (by rw [List.length_nil]; exact HO5.out) : rowT w5 _ _ (p1 ++ [])).grown HG6.out (apartV.moved HJ.out.r3 HJ.out.a13.symm (Nat.le_refl _) HA5.out).symm) ((HJ.out.r2.grown HG5.out HJ.out.a12.symm).grown HG6.out HJ.out.a23) (rowT.plus (by rw [HNB.out]; exact HO6.out)) HLA.out HLB.out⟩
    | cons x a =>
      cases b with
      | nil =>
        obtain ⟨na, HNA⟩ : ∃ na, Hid (a.length = na) := ⟨_, hide rfl⟩
        have HLa : Hid (∀ p ∈ x :: a, p ∈ pa) := hide HJ.out.ins.1
        have HOA1 : Hid (∀ u ∈ Fd.vals (x :: a), u.oneCell' = true) := hide (one_vals (w := w) (B := w.heap.size) fun p hp => (HLA.out p (HLa.out p hp)).1)
        have HOB1 : Hid (∀ u ∈ Fd.vals [], u.oneCell' = true) := hide (fun u hu => absurd hu (by simp [Fd.vals]))
        obtain ⟨xb, xf, xc', hx0, -, -, -, -, -⟩ := HJ.out.ra.cons
        rw [List.length_cons] at hx0
        have HJ' := HJ.out
        rw [List.length_cons, HNA.out, List.length_nil] at HJ'
        rw [List.length_cons, HNA.out] at l1 ⊢
        rw [HNA.out] at hx0
        rw [List.length_nil] at l2 ⊢
        replace HJ := hide HJ'
        clear HJ'
        simp only [Value.slice.injEq, true_and] at hx0
        obtain ⟨rfl, rfl⟩ := hx0
        have HNA1 := hide HJ.out.ra.news
        rcases HJ.out.rb with ⟨hy0, -⟩ | ⟨yb, yf, yc', hy0, -, -, -⟩
        · simp only [Value.slice.injEq, true_and] at hy0
          obtain ⟨rfl, rfl⟩ := hy0
          go_wp2_with (first | (at_builtin; refine wpList_append_own_at _ rfl _ _ 22 rfl w.heap.size 36 i0 _ 1 24 Tryz.underlying22 hi0 hz0 hz1 hz2 rfl (by omega) (.slice o1 p1.length c1) p1.length (Fd.vals p1) rfl HJ.out.r1 ⟨xb, xf, none⟩ (na + 1) xc (Fd.vals (x :: a)) rfl (by rw [vals_length, List.length_cons, HNA.out, Nat.mul_one]) HNA1.out HOA1.out (by unfold maxLen; omega) (by omega) HJ.out.gr.size ?_; intro v1' w5 hown5 hgrow5 _ hat5; have HO5 := hide hown5; have HG5 := hide hgrow5; have HA5 := hide hat5; obtain ⟨o1', c1', hv1'⟩ := own_shape hown5; clear hown5 hgrow5 hat5; subst hv1'; have hB5 : Below w.heap.size wr w5 := (Below.refl _ _).grown HG5.out HJ.out.gr.size (fun k hk => (HJ.out.r1.lt k hk).1)) | (at_builtin; refine wpList_append_own_none rfl _ _ 22 rfl w.heap.size 36 i0 1 Tryz.underlying22 hi0 (.slice o3 p3.length c3) p3.length (Fd.vals p3) rfl (HJ.out.r3.grown HG5.out HJ.out.a13.symm) rfl ?_))
          go_ret3
          exact ⟨_, _, _, rfl, HJ.out.done (by simp) (Below.trans HJ.out.gr hB5) (rowT.plus (by rw [List.length_cons, HNA.out]; exact HO5.out)) (HJ.out.r2.grown HG5.out HJ.out.a12.symm) (by simpa using (HJ.out.r3.grown HG5.out HJ.out.a13.symm)) HLA.out HLB.out⟩
        · simp only [Value.slice.injEq, List.length_nil, true_and] at hy0
          obtain ⟨rfl, rfl⟩ := hy0
          have HNB1 := hide HJ.out.rb.news
          go_wp2_with (first | (at_builtin; refine wpList_append_own_at _ rfl _ _ 22 rfl w.heap.size 36 i0 _ 1 24 Tryz.underlying22 hi0 hz0 hz1 hz2 rfl (by omega) (.slice o1 p1.length c1) p1.length (Fd.vals p1) rfl HJ.out.r1 ⟨xb, xf, none⟩ (na + 1) xc (Fd.vals (x :: a)) rfl (by rw [vals_length, List.length_cons, HNA.out, Nat.mul_one]) HNA1.out HOA1.out (by unfold maxLen; omega) (by omega) HJ.out.gr.size ?_; intro v1' w5 hown5 hgrow5 _ hat5; have HO5 := hide hown5; have HG5 := hide hgrow5; have HA5 := hide hat5; obtain ⟨o1', c1', hv1'⟩ := own_shape hown5; clear hown5 hgrow5 hat5; subst hv1'; have hB5 : Below w.heap.size wr w5 := (Below.refl _ _).grown HG5.out HJ.out.gr.size (fun k hk => (HJ.out.r1.lt k hk).1)) | (at_builtin; refine wpList_append_own_at _ rfl _ _ 22 rfl w.heap.size 36 i0 _ 1 24 Tryz.underlying22 hi0 hz0 hz1 hz2 rfl (by omega) (.slice o3 p3.length c3) p3.length (Fd.vals p3) rfl (HJ.out.r3.grown HG5.out HJ.out.a13.symm) ⟨yb, yf, none⟩ 0 yc (Fd.vals []) rfl (by rw [vals_length, List.length_nil]) (((HJ.out.rb.keep hB5)).news) HOB1.out (by unfold maxLen; omega) (by omega) (Nat.le_trans HJ.out.gr.size hB5.size) ?_; intro v3' w6 hown6 hgrow6 _ hat6; have HO6 := hide hown6; have HG6 := hide hgrow6; have HA6 := hide hat6; obtain ⟨o3', c3', hv3'⟩ := own_shape hown6; clear hown6 hgrow6 hat6; subst hv3'))
          go_ret3
          exact ⟨_, _, _, rfl, HJ.out.done (by simp) (Below.trans (Below.trans HJ.out.gr hB5) ((Below.refl _ _).grown HG6.out (Nat.le_trans HJ.out.gr.size hB5.size) (fun k hk => (HJ.out.r3.lt k hk).1))) ((rowT.plus (by rw [List.length_cons, HNA.out]; exact HO5.out) : rowT w5 _ _ (p1 ++ (x :: a))).grown HG6.out (apartV.moved HJ.out.r3 HJ.out.a13.symm (Nat.le_refl _) HA5.out).symm) ((HJ.out.r2.grown HG5.out HJ.out.a12.symm).grown HG6.out HJ.out.a23) (rowT.plus (by rw [List.length_nil]; exact HO6.out)) HLA.out HLB.out⟩
      | cons y b =>
        obtain ⟨xb, xf, xcp, hxv, hxc, hxB, cx, hxr, hxn⟩ := HJ.out.ra.cons
        obtain ⟨yb, yf, ycp, hyv, hyc, hyB, cy, hyr, hyn⟩ := HJ.out.rb.cons
        rw [List.length_cons] at hxv hyv
        simp only [Value.slice.injEq, true_and] at hxv hyv
        obtain ⟨rfl, rfl⟩ := hxv
        obtain ⟨rfl, rfl⟩ := hyv
        have HRX := hide hxr
        have HNX := hide hxn
        have HRY := hide hyr
        have HNY := hide hyn
        have hlx := HLA.out x (HJ.out.ins.1 x (by simp))
        have hly := HLB.out y (HJ.out.ins.2.1 y (by simp))
        obtain ⟨O, HO⟩ : ∃ O, Hid (ordB x.1 y.1 = O) := ⟨_, hide rfl⟩
        have HK : Hid (∀ W, Grow wr W → Calls Tryz.prog 50 #[.agg #[x.2], .agg #[y.2]] W fun e w' => e = .returned (.int .i64 O) ∧ Grow W w') := hide fun W g => by
          have gw : Grow w W := HJ.out.gr.trans g
          have := fcmp_any W x.2 y.2 _ _ (readsLabels_mono (readsLabels_below hlx.1 gw) gw.size) (readsLabels_mono (readsLabels_below hly.1 gw) gw.size) hlx.2 hly.2
          rw [HO.out] at this
          exact this
        obtain ⟨uo, uc, hxa⟩ := readsLabels_len hlx.1
        obtain ⟨zo, zc, hxb⟩ := readsLabels_len hly.1
        have HXO : Hid (∀ u ∈ [x.2], u.oneCell' = true) := hide (by intro u hu; rw [List.mem_singleton] at hu; rw [hu, hxa]; rfl)
        have HYO : Hid (∀ u ∈ [y.2], u.oneCell' = true) := hide (by intro u hu; rw [List.mem_singleton] at hu; rw [hu, hxb]; rfl)
        have hvals3 := ordB_vals x.1 y.1
        rw [HO.out] at hvals3
        have HV3 := hide hvals3
        have HCX := hide cx
        have HCY := hide cy
        rw [hxa] at HCX HK
        rw [hxb] at HCY HK
        generalize x.1.length = n1 at hxa HCX HK
        generalize y.1.length = n2 at hxb HCY HK
        have HXA := hide hxa
        have HXB := hide hxb
        have HJ' := HJ.out
        simp only [List.length_cons] at l1 l2 HJ' ⊢
        replace HJ := hide HJ'
        clear HJ'
        generalize hna : a.length = na at *
        generalize hnb : b.length = nb at *
        have HNA := hide hna
        have HNB := hide hnb
        clear cx cy hxr hxn hyr hyn hlx hly hxa hxb hvals3 hna hnb
        go_wp2
        refine wp_region_free 8 62 mixed rfl (by decide +kernel) Grow (fun _ _ _ => Grow.trans) (Grow.refl _)
          (fun q v w' => match q with
            | 0 => v = .slice (some ⟨xb, xf, none⟩) (na + 1) xc
            | 1 => v = .pointer (some ⟨xb, xf, none⟩)
            | 2 => v = .agg #[.slice uo n1 uc]
            | 3 => v = .slice (some ⟨yb, yf, none⟩) (nb + 1) yc
            | 4 => v = .pointer (some ⟨yb, yf, none⟩)
            | 5 => v = .agg #[.slice zo n2 zc]
            | _ => v = .int .i64 O)
          (fun q v w' w'' h hg => h)
          (fun _ _ => False) (fun _ _ _ _ h => h.elim) (fun q hq o ho a w4 hG hoff hdep => ?_) (fun vals w4 hG hvals => ?_)
        · have hgw : Grow wr w4 := hG.undrew
          have e0 := (hgw.cell (p := ⟨xb, xf, none⟩) (show xb < wr.heap.size by have := HJ.out.gr.size; omega)).trans HCX.out
          have e1 := (hgw.cell (p := ⟨yb, yf, none⟩) (show yb < wr.heap.size by have := HJ.out.gr.size; omega)).trans HCY.out
          match q, hq with
          | 0, _ =>
            obtain rfl := Option.some.inj ho
            have o0 := hoff 0 (by decide +kernel)
            simp at o0
            simp [opYields, go_sem, o0]
            exact Grow.refl _
          | 1, _ =>
            obtain rfl := Option.some.inj ho
            have d0 := hdep 0 (by decide +kernel)
            simp [slotOf, dstOf] at d0
            simp [opYields, go_sem, d0]
            exact Grow.refl _
          | 2, _ =>
            obtain rfl := Option.some.inj ho
            have d1 := hdep 1 (by decide +kernel)
            simp [slotOf, dstOf] at d1
            simp [opYields, go_sem, d1, e0]
            exact Grow.refl _
          | 3, _ =>
            obtain rfl := Option.some.inj ho
            have o1 := hoff 1 (by decide +kernel)
            simp at o1
            simp [opYields, go_sem, o1]
            exact Grow.refl _
          | 4, _ =>
            obtain rfl := Option.some.inj ho
            have d3 := hdep 3 (by decide +kernel)
            simp [slotOf, dstOf] at d3
            simp [opYields, go_sem, d3]
            exact Grow.refl _
          | 5, _ =>
            obtain rfl := Option.some.inj ho
            have d4 := hdep 4 (by decide +kernel)
            simp [slotOf, dstOf] at d4
            simp [opYields, go_sem, d4, e1]
            exact Grow.refl _
          | 6, _ =>
            obtain rfl := Option.some.inj ho
            have d2 := hdep 2 (by decide +kernel)
            simp [slotOf, dstOf] at d2
            have d5 := hdep 5 (by decide +kernel)
            simp [slotOf, dstOf] at d5
            simp [opYields, go_sem, d2, d5]
            refine (HK.out w4 hgw).mono ?_
            rintro e w5 ⟨rfl, h3⟩
            exact ⟨h3, rfl⟩
          | 7, _ =>
            obtain rfl := Option.some.inj ho
            have d6 := hdep 6 (by decide +kernel)
            simp [slotOf, dstOf] at d6
            simp [opYields, go_sem, d6]
            exact Grow.refl _
          | q + 8, h => exact absurd h (by omega)
        · have v7 := hvals 7 (by omega)
          simp only at v7
          have HG4 : Hid (Grow wr w4) := hide hG.undrew
          have HJ4 := hide (HJ.out.keep HG4.out)
          have hsz4 : w.heap.size ≤ w4.heap.size := HJ4.out.gr.size
          have e0 := (HG4.out.cell (p := ⟨xb, xf, none⟩) (show xb < wr.heap.size by have := HJ.out.gr.size; omega)).trans HCX.out
          have e1 := (HG4.out.cell (p := ⟨yb, yf, none⟩) (show yb < wr.heap.size by have := HJ.out.gr.size; omega)).trans HCY.out
          clear hvals hG
          rcases HV3.out with hO | hO | hO
          · subst hO
            simp [over, dstOf, Act.put, v7]
            go_wp2_with (at_builtin; refine wpList_append_own_at _ rfl _ _ 22 rfl w.heap.size 36 i0 _ 1 24 Tryz.underlying22 hi0 hz0 hz1 hz2 rfl (by omega) (.slice o1 p1.length c1) p1.length (Fd.vals p1) rfl (own_grow HJ4.out.r1 ((Grow.refl w4).alloc _)) ⟨w4.heap.size, 0, none⟩ 1 1 [.slice uo n1 uc] rfl rfl (cell_one_new _ _ _) (by rw [← HXA.out]; exact HXO.out) (by unfold maxLen; omega) (by omega) (by simp; omega) ?_; intro v1' w5 hown5 hgrow5 _ hat5)
            rw [← HXA.out] at hown5
            have HO5 := hide hown5
            have HG5 := hide hgrow5
            have HA5 := hide hat5
            obtain ⟨o1', c1', hv1'⟩ := own_shape hown5
            clear hown5 hgrow5 hat5 e0 e1
            subst hv1'
            by_cases hc1 : xc = 1
            · have hna0 : na = 0 := by omega
              have hae : a = [] := List.eq_nil_of_length_eq_zero (HNA.out.trans hna0)
              subst hc1 hna0
              go_wp2
              go_roundw
              case rel => exact ⟨a, y :: b, p1 ++ [x], p2, p3, hide (HJ.out.less (by rw [HO.out]; omega) (HG4.out.alloc _) (HNX.out _ _ hae) HO5.out HG5.out HA5.out)⟩
              case measure => simp [slLen]
            · go_wp2
              go_roundw
              case rel => exact ⟨a, y :: b, p1 ++ [x], p2, p3, hide (HJ.out.less (by rw [HO.out]; omega) (HG4.out.alloc _) HRX.out HO5.out HG5.out HA5.out)⟩
              case measure => simp [slLen]
          · subst hO
            simp [over, dstOf, Act.put, v7]
            go_wp2_with (at_builtin; refine wpList_append_own_at _ rfl _ _ 22 rfl w.heap.size 36 i0 _ 1 24 Tryz.underlying22 hi0 hz0 hz1 hz2 rfl (by omega) (.slice o2 p2.length c2) p2.length (Fd.vals p2) rfl (own_grow HJ4.out.r2 ((Grow.refl w4).alloc _)) ⟨w4.heap.size, 0, none⟩ 1 1 [.slice uo n1 uc] rfl rfl (cell_one_new _ _ _) (by rw [← HXA.out]; exact HXO.out) (by unfold maxLen; omega) (by omega) (by simp; omega) ?_; intro v1' w5 hown5 hgrow5 _ hat5)
            rw [← HXA.out] at hown5
            have HO5 := hide hown5
            have HG5 := hide hgrow5
            have HA5 := hide hat5
            obtain ⟨o1', c1', hv1'⟩ := own_shape hown5
            clear hown5 hgrow5 hat5 e0 e1
            subst hv1'
            by_cases hc1 : xc = 1
            · have hna0 : na = 0 := by omega
              have hae : a = [] := List.eq_nil_of_length_eq_zero (HNA.out.trans hna0)
              by_cases hc2 : yc = 1
              · have hnb0 : nb = 0 := by omega
                have hbe : b = [] := List.eq_nil_of_length_eq_zero (HNB.out.trans hnb0)
                subst hc1 hna0 hc2 hnb0
                go_wp2
                go_roundw
                case rel => exact ⟨a, b, p1, p2 ++ [x], p3, hide (HJ.out.same HO.out (HG4.out.alloc _) (HNX.out _ _ hae) (HNY.out _ _ hbe) HO5.out HG5.out HA5.out)⟩
                case measure => simp [slLen]
              · subst hc1 hna0
                go_wp2
                go_roundw
                case rel => exact ⟨a, b, p1, p2 ++ [x], p3, hide (HJ.out.same HO.out (HG4.out.alloc _) (HNX.out _ _ hae) HRY.out HO5.out HG5.out HA5.out)⟩
                case measure => simp [slLen]; omega
            · by_cases hc2 : yc = 1
              · have hnb0 : nb = 0 := by omega
                have hbe : b = [] := List.eq_nil_of_length_eq_zero (HNB.out.trans hnb0)
                subst hc2 hnb0
                go_wp2
                go_roundw
                case rel => exact ⟨a, b, p1, p2 ++ [x], p3, hide (HJ.out.same HO.out (HG4.out.alloc _) HRX.out (HNY.out _ _ hbe) HO5.out HG5.out HA5.out)⟩
                case measure => simp [slLen]; omega
              · go_wp2
                go_roundw
                case rel => exact ⟨a, b, p1, p2 ++ [x], p3, hide (HJ.out.same HO.out (HG4.out.alloc _) HRX.out HRY.out HO5.out HG5.out HA5.out)⟩
                case measure => simp [slLen]; omega
          · subst hO
            simp [over, dstOf, Act.put, v7]
            go_wp2_with (at_builtin; refine wpList_append_own_at _ rfl _ _ 22 rfl w.heap.size 36 i0 _ 1 24 Tryz.underlying22 hi0 hz0 hz1 hz2 rfl (by omega) (.slice o3 p3.length c3) p3.length (Fd.vals p3) rfl (own_grow HJ4.out.r3 ((Grow.refl w4).alloc _)) ⟨w4.heap.size, 0, none⟩ 1 1 [.slice zo n2 zc] rfl rfl (cell_one_new _ _ _) (by rw [← HXB.out]; exact HYO.out) (by unfold maxLen; omega) (by omega) (by simp; omega) ?_; intro v1' w5 hown5 hgrow5 _ hat5)
            rw [← HXB.out] at hown5
            have HO5 := hide hown5
            have HG5 := hide hgrow5
            have HA5 := hide hat5
            obtain ⟨o1', c1', hv1'⟩ := own_shape hown5
            clear hown5 hgrow5 hat5 e0 e1
            subst hv1'
            by_cases hc1 : yc = 1
            · have hnb0 : nb = 0 := by omega
              have hbe : b = [] := List.eq_nil_of_length_eq_zero (HNB.out.trans hnb0)
              subst hc1 hnb0
              go_wp2
              go_roundw
              case rel => exact ⟨x :: a, b, p1, p2, p3 ++ [y], hide (HJ.out.more (by rw [HO.out]; omega) (HG4.out.alloc _) (HNY.out _ _ hbe) HO5.out HG5.out HA5.out)⟩
              case measure => simp [slLen]
            · go_wp2
              go_roundw
              case rel => exact ⟨x :: a, b, p1, p2, p3 ++ [y], hide (HJ.out.more (by rw [HO.out]; omega) (HG4.out.alloc _) HRY.out HO5.out HG5.out HA5.out)⟩
              case measure => simp [slLen]
end Go.Proofs.YtdlmgkncneifaaaGreat.Fd
