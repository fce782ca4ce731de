/- The program's and the model's characteristic polynomials of rows. -/
import Derived.Test.YtnblhkhdilkbeaaChP
import Derived.Test.YtnblhkhdilkbeaaBk
import Derived.Deep.RegionHeld3
set_option linter.unusedSimpArgs false
set_option linter.unusedVariables false
set_option maxRecDepth 100000
namespace Go.Proofs.Ytnblhkhdilkbeaa
open Go.RowKit

set_option maxHeartbeats 1600000 in
theorem charOf {lo hi : Nat} (n : Nat) (A : Nat → Nat → Int) (a : Option Addr) (c : Nat) (w : World) (h : RdR lo hi w (.slice a n c) (tab n A)) (hn : n ≤ 20) (hf : fits A n) :
    Calls Try.prog 129 #[.slice a n c] w fun e w' => ∃ a' c', e = .returned (.slice a' (n + 1) c') ∧ OwI w.heap.size w'.heap.size w' (.slice a' (n + 1) c') (chL A n) ∧ Below w.heap.size w w' := by
  obtain ⟨i0, hi', z0, z1, z2⟩ := info_parts Try.info2
  have HD := Lib.hid (fun W (hB : Below w.heap.size w W) => detPoly n A a c W (h.below hB) hn hf)
  have HF := Lib.hid hf
  clear h hf
  obtain ⟨M, hM⟩ : ∃ M, M = n + 1 := ⟨_, rfl⟩
  have HM := Lib.hid hM
  have n1 : IntKind.i64.wrap ((n : Int) + 1) = (M : Int) := by rw [show (n : Int) + 1 = (M : Int) by omega]; exact IntWalk.i64_in _ (by omega)
  have n2 : wrap64 ((n : Int) + 1) = (M : Int) := by rw [show (n : Int) + 1 = (M : Int) by omega]; exact IntWalk.wrap64_in _ (by clear n1; omega)
  have hM0 : (0 : Int) ≤ (M : Int) := by clear n1 n2; omega
  have hM30 : M ≤ 30 := by clear n1 n2; omega
  rw [← hM]
  clear hM
  go_enter Try.func129, Try.ntmps129
  go_wp2_with (at_make; refine wpList_make_full _ rfl _ _ 25 rfl w.heap.size 2 i0 (.int .i64 0) 1 Try.underlying25 hi' z0 z1 _ _ _ _ M rfl rfl rfl rfl ?c1 ?c2 ?c3 ?_)
  case c1 => rw [z2]; clear n1 n2; omega
  case c2 => clear n1 n2; unfold maxLen; omega
  case c3 => exact Nat.le_refl _
  clear n1 n2
  intro w1 hown hgr
  have hz : (madeCells #[Value.int .i64 0] M).toList = (chT A n 0).map (Value.int .i64) := by rw [HM.out]; exact chT_zero A n
  rw [hz] at hown
  have hbl : Below w.heap.size w w1 := (Below.refl _ _).grown hgr (Nat.le_refl _) (by simp)
  obtain ⟨G, hG⟩ : ∃ G, G = w.heap.size := ⟨_, rfl⟩
  have HD1 := Lib.hid (HD.out w1 hbl)
  rw [← hG] at hown ⊢
  have HG := Lib.hid hG
  have HS := Lib.hid (⟨hown, hbl⟩ : _ ∧ _)
  clear hG hown hbl hgr hz HD
  go_wp2_with fail
  refine HD1.out.mono ?_
  rintro e w2 ⟨a2, c2, rfl, o2, b2⟩
  obtain ⟨m, hm⟩ : ∃ m, m = (trim (dkL A n)).length := ⟨_, rfl⟩
  rw [← hm] at o2 ⊢
  have HMM := Lib.hid (⟨by have := trim_le (dkL A n); rw [dkL_len] at this; omega, fun q (hq : q < m) => dk_trim (A := A) (n := n) q (by have := trim_le (dkL A n); rw [dkL_len] at this; omega), fun k h1 h2 => dk_trim0 (A := A) (n := n) k (by omega) h2, hm.symm⟩ : m ≤ n + 1 ∧ (∀ q, q < m → (trim (dkL A n)).getD q 0 = dk A n q) ∧ (∀ k, m ≤ k → k < n + 1 → dk A n k = 0) ∧ (trim (dkL A n)).length = m)
  have HL := Lib.hid o2.rd
  have HO2 := Lib.hid (⟨o2, (HS.out.1.lt G rfl).2⟩ : OwI w1.heap.size w2.heap.size w2 (.slice a2 m c2) (trim (dkL A n)) ∧ G < w1.heap.size)
  have H2 := Lib.hid (⟨ownsRow_chg HS.out.1 (b2.chg 0 0) (fun _ _ => .inr (Nat.zero_le _)), HS.out.2.next b2⟩ : _ ∧ _)
  clear hm o2 b2 HS HD1
  go_wp2
  go_loopw [13] (fun v wr => ∃ q : Nat, q ≤ m ∧ v = .int .i64 q ∧ wr.ownsRow G 2 1 (.slice (some ⟨G, 0, none⟩) M M) M ((chT A n q).map (Value.int .i64)) ∧ Chg G (G + 1) w2 wr) (fun v _ => m - (intOf v).toNat)
  case atStart => exact ⟨0, Nat.zero_le _, rfl, H2.out.1, Chg.refl _ _ _⟩
  case round =>
    obtain ⟨q, hq, rfl, hown, hC⟩ := hrel
    by_cases hlq : q < m
    · obtain ⟨b, off, rfl, g1⟩ := HL.out.at HMM.out.2.2.2 q hlq
      rw [HMM.out.2.1 q hlq] at g1
      have hbG : b < G ∨ G + 1 ≤ b := by
        have h1 := (HO2.out.1.blk b (by simp [Value.ownBlock])).1
        have h2 := HO2.out.2
        omega
      have g2 := hC.cell g1 hbG
      have hqn : q ≤ n := by have := HMM.out.1; omega
      have hst := (hown.stored (n - q) (.int .i64 (dk A n q))).1
      rw [chT_set A hqn] at hst
      have hCC := hC.setCell (p := ⟨G, n - q, none⟩) ⟨Nat.le_refl _, Nat.lt_succ_self _⟩ (.int .i64 (dk A n q))
      have HFF := Lib.hid (⟨hst, hCC⟩ : _ ∧ _)
      obtain ⟨D, hD⟩ : ∃ D, D = n - q := ⟨_, rfl⟩
      rw [← hD] at HFF
      have hDi : (n : Int) - (q : Int) = (D : Int) := by omega
      have w1' : IntKind.i64.wrap (D : Int) = (D : Int) := IntWalk.i64_in _ (by omega)
      have w2' : wrap64 (D : Int) = (D : Int) := IntWalk.wrap64_in _ (by clear w1'; omega)
      have hD0 : (0 : Int) ≤ (D : Int) := by clear w1' w2'; omega
      have hDM : (D : Int) < (M : Int) := by clear w1' w2'; have := HM.out; omega
      have f0 := hown.frozenAt D
      have hDL : D < (chT A n q).length := by rw [chT_len, ← HM.out]; clear w1' w2'; omega
      have c0 := (hown.cellAt D (by clear w1' w2'; omega)).trans (show ((chT A n q).map (Value.int .i64))[D]? = some (.int .i64 ((chT A n q).getD D 0)) by simp [List.getD, List.getElem?_eq_getElem hDL])
      generalize (chT A n q).getD D 0 = old at c0
      clear hst hCC hown hC g1 hD hDL
      generalize dk A n q = y at g2 HFF
      go_wp2
      go_roundw
      case rel => exact ⟨q+1, by clear w1' w2'; omega, by go_num, HFF.out⟩
      case measure => clear w1' w2'; simp [intOf]; omega
    · obtain rfl : q = m := by omega
      have hI := chL_I64 HF.out
      rw [chT_all A n q HMM.out.2.2.1] at hown
      have hO := OwI.mk hown (by omega) hI
      have hB := H2.out.2.chgn hC (Nat.le_of_eq HG.out.symm) H2.out.2.size
      have HO := Lib.hid (⟨hO, hB⟩ : _ ∧ _)
      clear hown hC hI hO hB
      go_wp2
      go_ret
      exact ⟨_, _, rfl, by rw [← HG.out]; exact HO.out.1, HO.out.2⟩

set_option maxHeartbeats 3200000 in
theorem l07Of {lo hi : Nat} (n : Nat) (A : Nat → Nat → Int) (a : Option Addr) (c : Nat) (w : World) (h : RdR lo hi w (.slice a n c) (tab n A)) (hn : n ≤ 20) (hf : fits A n) :
    Calls Try.prog 127 #[.slice a n c] w fun e w' => ∃ a' c', e = .returned (.slice a' (n + 1) c') ∧ OwI w.heap.size w'.heap.size w' (.slice a' (n + 1) c') (chL A n) ∧ Below w.heap.size w w' := by
  obtain ⟨i0, hi', z0, z1, z2⟩ := info_parts Try.info2
  have HD := Lib.hid (specBk n A a c w h hn)
  rw [nowB_dk n A hf] at HD
  have HD' : Hid (Calls Try.prog 146 #[.slice a n c] w fun e w' => ∃ a' c', e = .returned (.slice a' (trim (dkL A n)).length c') ∧ OwI w.heap.size w'.heap.size w' (.slice a' (trim (dkL A n)).length c') (trim (dkL A n)) ∧ Below w.heap.size w w') := HD
  have HF := Lib.hid hf
  clear h hf HD
  go_enter Try.func127, Try.ntmps127
  go_wp2_with fail
  refine HD'.out.mono ?_
  rintro e w2 ⟨a2, c2, rfl, o2, b2⟩
  obtain ⟨m, hm⟩ : ∃ m, m = (trim (dkL A n)).length := ⟨_, rfl⟩
  rw [← hm] at o2 ⊢
  have HMM := Lib.hid (⟨by have := trim_le (dkL A n); rw [dkL_len] at this; omega, fun q (hq : q < m) => dk_trim (A := A) (n := n) q (by have := trim_le (dkL A n); rw [dkL_len] at this; omega), fun k h1 h2 => dk_trim0 (A := A) (n := n) k (by omega) h2, hm.symm⟩ : m ≤ n + 1 ∧ (∀ q, q < m → (trim (dkL A n)).getD q 0 = dk A n q) ∧ (∀ k, m ≤ k → k < n + 1 → dk A n k = 0) ∧ (trim (dkL A n)).length = m)
  have HL := Lib.hid o2.rd
  have HB2 := Lib.hid b2
  have hl := World.ownsRow_lit (base := w2.heap.size) (e := 2) (size := 1) w2 #[] 0 (Nat.le_refl _) (by unfold maxLen; omega) rfl
  have hb := (Below.refl w2.heap.size w2).alloc (Nat.le_refl _) (.cells #[] 2)
  have HS := Lib.hid (⟨hl, hb⟩ : _ ∧ Below w2.heap.size w2 (w2.alloc (.cells #[] 2)))
  clear hm o2 b2 hl hb HD'
  go_wp2
  generalize w2.alloc (.cells #[] 2) = V at HS ⊢
  obtain ⟨G, hG⟩ : ∃ G, G = w2.heap.size := ⟨_, rfl⟩
  rw [← hG] at HS ⊢
  have HG := Lib.hid hG
  clear hG
  go_loopw [4, 5] (fun d v wr => ∃ (q g cg : Nat), q ≤ n + 1 ∧ v = .int .i64 ((n : Int) - q) ∧ d = .slice (some ⟨g, 0, none⟩) q cg ∧ wr.ownsRow G 2 1 (.slice (some ⟨g, 0, none⟩) q cg) q (((chL A n).take q).map (Value.int .i64)) ∧ Below G w2 wr) (fun _ v _ => (intOf v + 1).toNat)
  case atStart => exact ⟨0, G, 0, Nat.zero_le _, by simp, rfl, HS.out⟩
  case round =>
    clear HS
    obtain ⟨q, g, cg, hq, rfl, rfl, hown, hB⟩ := hrel
    by_cases hlq : q < n + 1
    · obtain ⟨I, hI⟩ : ∃ I : Nat, I = n - q := ⟨_, rfl⟩
      have hIi : (n : Int) - (q : Int) = (I : Int) := by omega
      have hst := chL_take A (n := n) hlq
      rw [← hI] at hst
      have hge : decide ((0 : Int) ≤ (I : Int)) = true := decide_eq_true (by omega)
      have hnx : (I : Int) - 1 = (n : Int) - ((q + 1 : Nat) : Int) := by omega
      have s1 : IntKind.i64.wrap ((I : Int) - 1) = (n : Int) - ((q + 1 : Nat) : Int) := by rw [hnx]; exact IntWalk.i64_in _ (by omega)
      have s2 : wrap64 ((I : Int) - 1) = (n : Int) - ((q + 1 : Nat) : Int) := by rw [hnx]; exact IntWalk.wrap64_in _ (by clear s1; omega)
      have hIn : I ≤ n := by clear s1 s2; omega
      rw [hIi]
      have hgl := (hown.lt g rfl)
      by_cases him : I < m
      · obtain ⟨b, off, rfl, g1⟩ := HL.out.at HMM.out.2.2.2 I him
        rw [HMM.out.2.1 I him] at g1
        have g2 : wr.cell? ⟨b, off + I, none⟩ = some (.int .i64 (dk A n I)) := (by have hB' := hB; rw [HG.out] at hB'; exact hB'.keep g1)
        have hlt : decide ((I : Int) < (m : Int)) = true := decide_eq_true (by clear s1 s2; omega)
        have him2 : (I : Int) < (m : Int) := by clear s1 s2; omega
        have hownV := hown.alloc (.cells #[.int .i64 (dk A n I)] 2)
        have hnews := news_one wr 2 (.int .i64 (dk A n I))
        have hs5 : G ≤ wr.heap.size := by clear s1 s2; omega
        have hU2 := hB.alloc hs5 (.cells #[.int .i64 (dk A n I)] 2)
        have hU2s := hU2.size
        have HU2 := Lib.hid (⟨hU2, hst⟩ : _ ∧ _)
        have HS12 := Lib.hid (⟨s1, s2, hIi⟩ : _ ∧ _ ∧ _)
        clear hI hst hown hB hU2 g1 s1 s2 hnx hIi
        generalize dk A n I = y at g2 HU2 hownV hnews hU2s
        go_wp2_with (at_builtin; refine wpList_append_lies _ rfl _ _ 25 rfl G 2 i0 (.int .i64 0) 1 8 Try.underlying25 hi' z0 z1 z2 rfl (by decide) _ _ _ rfl hownV ⟨wr.heap.size, 0, none⟩ 1 1 [.int .i64 y] rfl rfl ?da1 ?da2 (by decide) ?da3 ?da4 ?da5 _ rfl ?_)
        case da1 => exact hnews
        case da2 => first | (intro u hu; simp at hu; subst hu; rfl) | rfl | simp
        case da3 => unfold maxLen; omega
        case da4 => omega
        case da5 => first | omega | (simp; omega)
        intro g4 c4 w4 hown3 hgr hlie hlt3
        replace hown3 : w4.ownsRow G 2 1 (.slice (some ⟨g4, 0, none⟩) (q + 1) c4) (q + 1) (((chL A n).take (q + 1)).map (Value.int .i64)) := by
          rw [HU2.out.2]
          simpa using hown3
        have hb4 := HU2.out.1.grown hgr (by simp; omega) (fun k hk => by
          have : g = k := by simpa [Value.ownBlock] using hk
          omega)
        have F := Lib.hid (⟨hown3, hb4⟩ : _ ∧ _)
        obtain ⟨s1, s2, hIi⟩ := HS12.out
        clear hown3 hb4 hgr hlie hownV hnews hIi
        go_wp2
        have hIi := HS12.out.2.2
        go_roundw
        case rel => exact ⟨q+1, g4, c4, by clear s1 s2; omega, rfl, rfl, F.out⟩
        case measure => clear s1 s2; simp [intOf]; omega
      · have h0 := HMM.out.2.2.1 I (by clear s1 s2; omega) (by clear s1 s2; omega)
        rw [h0] at hst
        have hlt : decide ((I : Int) < (m : Int)) = false := decide_eq_false (by clear s1 s2; omega)
        have him2 : ¬ (I : Int) < (m : Int) := by clear s1 s2; omega
        have hownV := hown.alloc (.cells #[.int .i64 0] 2)
        have hnews := news_one wr 2 (.int .i64 0)
        have hs5 : G ≤ wr.heap.size := by clear s1 s2; omega
        have hU2 := hB.alloc hs5 (.cells #[.int .i64 0] 2)
        have hU2s := hU2.size
        have HU2 := Lib.hid (⟨hU2, hst⟩ : _ ∧ _)
        have HS12 := Lib.hid (⟨s1, s2, hIi⟩ : _ ∧ _ ∧ _)
        clear hI hst hown hB hU2 s1 s2 hnx hIi h0
        go_wp2_with (at_builtin; refine wpList_append_lies _ rfl _ _ 25 rfl G 2 i0 (.int .i64 0) 1 8 Try.underlying25 hi' z0 z1 z2 rfl (by decide) _ _ _ rfl hownV ⟨wr.heap.size, 0, none⟩ 1 1 [.int .i64 0] rfl rfl ?db1 ?db2 (by decide) ?db3 ?db4 ?db5 _ rfl ?_)
        case db2 => first | (intro u hu; simp at hu; subst hu; rfl) | rfl | simp
        case db3 => unfold maxLen; omega
        case db4 => omega
        case db5 => first | omega | (simp; omega)
        intro g4 c4 w4 hown3 hgr hlie hlt3
        replace hown3 : w4.ownsRow G 2 1 (.slice (some ⟨g4, 0, none⟩) (q + 1) c4) (q + 1) (((chL A n).take (q + 1)).map (Value.int .i64)) := by
          rw [HU2.out.2]
          simpa using hown3
        have hb4 := HU2.out.1.grown hgr (by simp; omega) (fun k hk => by
          have : g = k := by simpa [Value.ownBlock] using hk
          omega)
        have F := Lib.hid (⟨hown3, hb4⟩ : _ ∧ _)
        obtain ⟨s1, s2, hIi⟩ := HS12.out
        clear hown3 hb4 hgr hlie hownV hnews hIi
        go_wp2
        have hIi := HS12.out.2.2
        go_roundw
        case rel => exact ⟨q+1, g4, c4, by clear s1 s2; omega, rfl, rfl, F.out⟩
        case measure => clear s1 s2; simp [intOf]; omega
    · obtain rfl : q = n + 1 := by omega
      have hge : decide ((0 : Int) ≤ (n : Int) - ((n + 1 : Nat) : Int)) = false := decide_eq_false (by omega)
      have hI := chL_I64 HF.out
      rw [List.take_of_length_le (by rw [chL_len]; exact Nat.le_refl _)] at hown
      have hO := OwI.mk hown (by omega) hI
      have hB2 := HB2.out
      rw [HG.out] at hB
      have HO := Lib.hid (⟨hO.mono (by have := HG.out; have := hB2.size; omega) (Nat.le_refl _), hB2.next hB⟩ : OwI w.heap.size _ wr (.slice (some ⟨g, 0, none⟩) (n + 1) cg) (chL A n) ∧ _)
      have hm1 : (n : Int) - ((n + 1 : Nat) : Int) = -1 := by omega
      rw [hm1]
      clear hown hI hO hB hB2 hge hm1
      go_wp2
      go_ret
      exact ⟨_, _, rfl, HO.out⟩

end Go.Proofs.Ytnblhkhdilkbeaa
