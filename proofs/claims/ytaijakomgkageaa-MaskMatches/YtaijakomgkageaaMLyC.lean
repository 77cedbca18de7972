/- The document's own graph of a mask in memory: a piece with its sign. -/
import Derived.Laws.OwnMore
import Derived.Test.YtaijakomgkageaaProg
import Derived.Test.YtaijakomgkageaaKit
import Derived.Test.YtaijakomgkageaaMPar
import Derived.Test.YtaijakomgkageaaMLay
import Derived.Test.YtaijakomgkageaaMWlk
import Derived.Test.YtaijakomgkageaaReg
import Derived.Test.YtaijakomgkageaaReg2
import Derived.Test.YtaijakomgkageaaMFrom
import Derived.Test.YtaijakomgkageaaMPrA
import Derived.Test.YtaijakomgkageaaMPrB
import Derived.Test.YtaijakomgkageaaMPrK
import Derived.Test.YtaijakomgkageaaMGra
import Derived.Test.YtaijakomgkageaaMTeX
import Derived.Test.YtaijakomgkageaaMRdA
import Derived.Test.YtaijakomgkageaaMRdB
import Derived.Test.YtaijakomgkageaaMRdC
import Derived.Test.YtaijakomgkageaaMRdF
import Derived.Test.YtaijakomgkageaaMRdI
import Derived.Test.YtaijakomgkageaaMRdJ
import Derived.Test.YtaijakomgkageaaMLyA
import Derived.Test.YtaijakomgkageaaMLyB
import Derived.BigQuiet
set_option linter.unusedVariables false
set_option linter.unusedSimpArgs false
namespace Go.Proofs.Ytaijakomgkageaa
open Go.RowKit
attribute [local go_sem] bs_size bs_toList bs_append bs_get bs_extract

theorem layAt_fork {w : World} {B lb : Nat} {M : List Kind} {k a y : Nat} (h : layAt w B lb M) (hk : M[k]? = some (.fork [a, y])) :
    ∃ sb cp, w.heap[lb]? = some (.cells #[.slice (some ⟨sb, 0, none⟩) M.length cp] 71 (0, 0)) ∧ w.cell? ⟨sb, k * 5 + 1, none⟩ = some (.int .i64 a) ∧ w.frozen? ⟨sb, k * 5 + 1, none⟩ = false ∧
      ∀ x : Nat, layAt (w.setCell ⟨sb, k * 5 + 1, none⟩ (.int .i64 x)) B lb (M.set k (.fork [x, y])) ∧ LFrame B w (w.setCell ⟨sb, k * 5 + 1, none⟩ (.int .i64 x)) := by
  obtain ⟨sv, xs, h1, h2, h3, h4⟩ := h
  have hlt := (List.getElem?_eq_some_iff.1 hk).1
  obtain ⟨sb, cp, rfl, hsb, hcell⟩ := own_first h3 (by omega)
  obtain ⟨hl, hg⟩ := spotsAt_get h4
  obtain ⟨ys, h5, h6⟩ := hg k _ hk
  obtain rfl : ys = _ := h5
  have hge := (h3.lt sb rfl).1
  have hne : sb ≠ lb := by
    rintro rfl
    exact own_apart h3 h1 (by decide) rfl
  have hfr : ∀ x : Nat, LFrame B w (w.setCell ⟨sb, k * 5 + 1, none⟩ (.int .i64 x)) := fun x => by
    refine ⟨rfl, rfl, rfl, by simp [World.setCell], fun q h7 h8 => set_apart _ (by omega), fun q c t fr h7 h8 h9 => ?_⟩
    refine (set_apart _ ?_).trans h7
    rintro rfl
    exact own_apart h3 h7 (fun e => h9 e.symm) rfl
  refine ⟨sb, cp, h1, hcell _ _ ((h6 1 (by omega)).trans rfl), own_free h3, fun x => ⟨⟨_, xs.set (k * 5 + 1) (.int .i64 x), (set_apart _ (fun e => hne e.symm)).trans h1, h2, ?_, (spotsAt_fork h4 hk).frame (hfr x)⟩, hfr x⟩⟩
  rw [List.length_set]
  exact own_set h3 _ (by rw [hl]; omega)

set_option maxRecDepth 20000 in
set_option maxHeartbeats 4000000 in
theorem lpiece_any (w : World) (B lb : Nat) (L : List Kind) (it : Item) (gr : Bool) (so : Option Addr) (sn sc : Nat) (nm : Int) (ro : Option Addr) (rn rc : Nat) (sg nx : Nat) (hsg : it.sig = sg) (hl : layAt w B lb L)
    (hi : itemAt w (fun _ => True) it (pieceC5 gr (.slice so sn sc) nm (.slice ro rn rc) sg)) (hR : ∀ n rows k, it = .grp n rows k → RLay rows) (hL : L.length + szI it ≤ 100000) :
    Calls Try.prog 43 #[.pointer (some ⟨lb, 0, none⟩), .agg #[.bool gr, .slice so sn sc, .int .i64 nm, .slice ro rn rc, .int .u8 sg], .int .i64 nx] w (lpost w B lb L (layPiece sg (onceF it) L.length nx)) := by
  obtain ⟨W, eW, gW, hW⟩ := laid_piece w (.bool gr) (.slice so sn sc) (.int .i64 nm) (.slice ro rn rc) (.int .u8 sg) 88
  have hlW := hl.grow gW
  have hiW := hi.frame (.grow (B := B) gW)
  obtain ⟨c0, c1, c2, c3, c4⟩ := five_cells hW
  have HL := hide hlW
  have HGW : Hid (LFrame B w W) := hide (.grow gW)
  have HW := hide hW
  have HI := hide hiW
  have HR := hide hR
  have hol := onceF_len it
  clear hl hi hlW hiW hW gW hR
  by_cases h63 : sg = 63
  · have e63 : ((sg : Int) == 63) = true := by simp [h63]
    obtain ⟨X, HX⟩ : ∃ X, Hid (onceF it L.length nx = X) := ⟨_, hide rfl⟩
    have hXl : X.1.length + 1 ≤ szI it := by rw [← HX.out]; exact hol _ _
    have HE : Hid (layPiece sg (onceF it) L.length nx = (X.1 ++ [.fork [X.2, nx]], L.length + X.1.length)) := by
      show _ = _
      unfold layPiece
      rw [if_pos h63, HX.out]
    have HO := hide (once_any W B lb L it gr so sn sc nm ro rn rc sg nx HL.out HI.out HR.out (by omega))
    rw [HX.out] at HO
    clear h63 hol
    go_enter Try.func43, Try.ntmps43
    go_wp2_with fail
    refine HO.out.mono ?_
    rintro e w2 ⟨rfl, hf, hl2⟩
    have HF := hide hf
    have HP := hide (put_any w2 B lb (L ++ X.1) (.fork [X.2, nx]) 2 X.2 nx 0 none 0 0 hl2 rfl (by rw [List.length_append]; omega))
    clear hf hl2 eW
    go_wp2_with fail
    refine HP.out.mono ?_
    rintro e w3 ⟨rfl, hf, hl3⟩
    have HF3 := hide hf
    have HL3 := hide hl3
    clear hf hl3
    go_wp2
    go_ret
    refine ⟨?_, (HGW.out.trans HF.out).trans HF3.out, ?_⟩
    · rw [HE.out]; exact ret_int (by simp)
    · rw [HE.out]
      have h := HL3.out
      rw [List.append_assoc] at h
      exact h
  · have e63 : ((sg : Int) == 63) = false := by simp; omega
    by_cases hst : sg = 42 ∨ sg = 43
    · obtain ⟨X, HX⟩ : ∃ X, Hid (onceF it (L.length + 1) L.length = X) := ⟨_, hide rfl⟩
      have hXl : X.1.length + 1 ≤ szI it := by rw [← HX.out]; exact hol _ _
      obtain ⟨bg, hbg⟩ : ∃ bg, decide (sg = 43) = bg := ⟨_, rfl⟩
      have HE : Hid (layPiece sg (onceF it) L.length nx = (.fork [X.2, nx] :: X.1, if bg then X.2 else L.length)) := by
        show _ = _
        unfold layPiece
        rw [if_neg h63, HX.out, ← hbg]
        rcases hst with rfl | rfl
        · simp
        · simp
      have HP := hide (put_any W B lb L (.fork [0, nx]) 2 0 nx 0 none 0 0 HL.out rfl (by omega))
      obtain ⟨L1, hL1⟩ : ∃ L1, L ++ [Kind.fork [0, nx]] = L1 := ⟨_, rfl⟩
      have hL1n : L1.length = L.length + 1 := by rw [← hL1]; simp
      rw [hL1] at HP
      have HONCE : Hid (∀ w2, LFrame B W w2 → layAt w2 B lb L1 → Calls Try.prog 52 #[.pointer (some ⟨lb, 0, none⟩), .agg #[.bool gr, .slice so sn sc, .int .i64 nm, .slice ro rn rc, .int .u8 sg], .int .i64 L.length] w2 (lpost w2 B lb L1 X)) := hide fun w2 hf hl2 => by
        have h := once_any w2 B lb L1 it gr so sn sc nm ro rn rc sg L.length hl2 (HI.out.frame hf) HR.out (by omega)
        rw [hL1n, HX.out] at h
        exact h
      have hget : (L1 ++ X.1)[L.length]? = some (.fork [0, nx]) := by rw [← hL1]; simp
      have hset : (L1 ++ X.1).set L.length (.fork [X.2, nx]) = L ++ (.fork [X.2, nx] :: X.1) := by rw [← hL1]; simp
      have HGET := hide hget
      have HSET := hide hset
      have hlen1 : (L1 ++ X.1).length = L.length + 1 + X.1.length := by rw [List.length_append, hL1n]
      have e42 : ((sg : Int) == 42) = !bg := by
        rw [← hbg]
        rcases hst with rfl | rfl <;> rfl
      have e43 : ((sg : Int) == 43) = bg := by
        rw [← hbg]
        rcases hst with rfl | rfl <;> rfl
      clear h63 hol hget hset hbg hst hL1
      cases bg
      all_goals
        simp only [Bool.not_false, Bool.not_true] at e42
        go_enter Try.func43, Try.ntmps43
        go_wp2_with fail
        refine HP.out.mono ?_
        rintro e w2 ⟨rfl, hf, hl2⟩
        have HF2 := hide hf
        have HL2 := hide hl2
        obtain ⟨b0, b1, b2, b3, b4⟩ := five_cells (hf.kind _ _ _ _ HW.out (by decide) (by decide))
        clear hf hl2 eW
        go_wp2_with fail
        refine (HONCE.out w2 HF2.out HL2.out).mono ?_
        rintro e w3 ⟨rfl, hf, hl3⟩
        have HF3 := hide hf
        obtain ⟨sb, scp, hlb, hcc, hfz, hset3⟩ := layAt_fork hl3 HGET.out
        rw [hlen1] at hlb
        have k0 := cell_of_one hlb
        obtain ⟨hl4, hf4⟩ := hset3 X.2
        rw [HSET.out] at hl4
        obtain ⟨Q, eQ⟩ : ∃ Q, w3.setCell ⟨sb, L.length * 5 + 1, none⟩ (.int .i64 (X.2 : Nat)) = Q := ⟨_, rfl⟩
        rw [eQ] at hl4 hf4
        have HL4 := hide hl4
        have HF4 := hide hf4
        obtain ⟨q0, q1, q2, q3, q4⟩ := five_cells (hf4.kind _ _ _ _ (hf.kind _ _ _ _ (HF2.out.kind _ _ _ _ HW.out (by decide) (by decide)) (by decide) (by decide)) (by decide) (by decide))
        have hlti : (L.length : Int) < ((L.length + 1 + X.1.length : Nat) : Int) := by omega
        have hltn : L.length < L.length + 1 + X.1.length := by omega
        clear hf hl3 hlb hset3 hl4 hf4 b0 b1 b2 b3 b4 c0 c1 c2 c3 c4
        go_wp2
        go_ret
        refine ⟨?_, ((HGW.out.trans HF2.out).trans HF3.out).trans HF4.out, ?_⟩
        · rw [HE.out]; rfl
        · rw [HE.out]; exact HL4.out
    · have e42 : ((sg : Int) == 42) = false := by simp; omega
      have e43 : ((sg : Int) == 43) = false := by simp; omega
      obtain ⟨X, HX⟩ : ∃ X, Hid (onceF it L.length nx = X) := ⟨_, hide rfl⟩
      have HE : Hid (layPiece sg (onceF it) L.length nx = X) := by
        show _ = _
        unfold layPiece
        rw [if_neg h63, if_neg (fun h => hst (.inl h)), if_neg (fun h => hst (.inr h)), HX.out]
      have HO := hide (once_any W B lb L it gr so sn sc nm ro rn rc sg nx HL.out HI.out HR.out (by omega))
      rw [HX.out] at HO
      clear h63 hol hst
      go_enter Try.func43, Try.ntmps43
      go_wp2_with fail
      refine HO.out.mono ?_
      rintro e w2 ⟨rfl, hf, hl2⟩
      have HF := hide hf
      have HL2 := hide hl2
      clear hf hl2 eW
      go_wp2
      go_ret
      refine ⟨?_, HGW.out.trans HF.out, ?_⟩
      · rw [HE.out]; rfl
      · rw [HE.out]; exact HL2.out

end Go.Proofs.Ytaijakomgkageaa
