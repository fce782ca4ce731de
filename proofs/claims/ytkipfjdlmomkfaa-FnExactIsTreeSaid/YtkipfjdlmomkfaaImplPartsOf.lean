/- PartsOf of the program. -/
import Derived.Test.YtkipfjdlmomkfaaPartRows
set_option linter.unusedSimpArgs false
set_option linter.unusedVariables false
namespace Go.Proofs.Ytkipfjdlmomkfaa
open Go.RowKit

theorem implParts_no {lo hi : Nat} (s : Int) (a : Option Addr) (n c : Nat) (xss : List (List Int)) (w : World) (h : RdR lo hi w (.slice a n c) xss) (hn : xss.length = n) (hg : grB s xss = false) :
    Calls Try.prog 51 #[.agg #[.int .i64 s, .slice a n c]] w fun e w' => e = .returned (.tuple #[.slice none 0 0, .int .i64 1]) ∧ Below w.heap.size w w' := by
  have hb0 : ∀ o, Below w.heap.size w (w.alloc o) := fun o => (Below.refl _ _).alloc (Nat.le_refl _) o
  go_enter Try.func51, Try.ntmps51
  go_wp2_with fail
  refine calls_gen (fun W => Below w.heap.size w W) (hb0 _) ?_
  intro W hB
  refine (implIsGraph s a n c xss W (h.below hB) hn).mono ?_
  rw [hg]
  rintro e w1 ⟨rfl, b1⟩
  replace hB := hB.next b1
  go_wp2
  go_ret2
  exact ⟨rfl, hB⟩

set_option maxRecDepth 100000 in
set_option maxHeartbeats 6400000 in
theorem implParts_yes {lo hi : Nat} (S : Nat) (a : Option Addr) (n c : Nat) (xss : List (List Int)) (w : World) (h : RdR lo hi w (.slice a n c) xss) (hn : xss.length = n) (hg : grB (S : Int) xss = true) :
    Calls Try.prog 51 #[.agg #[.int .i64 (S : Int), .slice a n c]] w fun e w' => ∃ a' c', e = .returned (.tuple #[.slice a' ((partsN (labelsN S (nE xss)) S).map zs).length c', .int .i64 0]) ∧ OwR w.heap.size w'.heap.size w' (.slice a' ((partsN (labelsN S (nE xss)) S).map zs).length c') ((partsN (labelsN S (nE xss)) S).map zs) ∧ Below w.heap.size w w' := by
  obtain ⟨i0, hi', z0, z1, z2⟩ := info_parts Try.info2
  obtain ⟨j0, hj', y0, y1, y2⟩ := info_parts Try.info35
  have hb0 : ∀ o, Below w.heap.size w (w.alloc o) := fun o => (Below.refl _ _).alloc (Nat.le_refl _) o
  obtain ⟨hs1, hs2, h3, h4⟩ := grB_iff hg
  have hS1 : 1 ≤ S := by omega
  have hS8 : S ≤ 8 := by omega
  have HLB := Lib.hid (labelsI (nE_in hg))
  have HLP := Lib.hid (fun W' (h : RdR lo hi W' (.slice a n c) xss) => firstsOf S a n c xss W' h hn hg)
  generalize labelsN S (nE xss) = L at *
  have HLL := Lib.hid HLB.out.len
  have HG := Lib.hid hg
  have HN := Lib.hid hn
  clear hn hg h3 h4
  go_enter Try.func51, Try.ntmps51
  go_wp2_with fail
  refine calls_gen (fun W => Below w.heap.size w W ∧ w.heap.size < W.heap.size ∧ W.cell? ⟨w.heap.size, 0, none⟩ = some (.int .i64 (S : Int)) ∧ W.cell? ⟨w.heap.size, 1, none⟩ = some (.slice a n c)) ⟨hb0 _, by simp, by go_simp, by go_simp⟩ ?_
  rintro W ⟨hB, hz, k0, k1⟩
  refine (implIsGraph _ a n c xss W (h.below hB) HN.out).mono ?_
  rw [HG.out]
  rintro e w1 ⟨rfl, b1⟩
  replace k0 := b1.keep k0
  replace k1 := b1.keep k1
  replace hB := hB.next b1
  have hz1 := Nat.lt_of_lt_of_le hz b1.size
  clear b1
  go_wp2_with fail
  refine (HLP.out _ (h.below hB)).mono ?_
  rintro e w2 ⟨a2, c2, rfl, o2, b2⟩
  replace hB := hB.next b2
  have hz2 := Nat.lt_of_lt_of_le hz1 b2.size
  obtain ⟨g0, cap0, hv0, hg0, hg0w⟩ := o2.2.2.1.form (by rw [zs_len, HLL.out]; omega)
  simp only [Value.slice.injEq] at hv0
  obtain ⟨rfl, hS0, rfl⟩ := hv0
  clear hS0
  have hzl : (zs L).length = S := by rw [zs_len, HLL.out]
  have ow := o2.2.2.1
  rw [hzl] at ow
  have hcell : ∀ j, j < S → w2.cell? ⟨g0, j, none⟩ = some (.int .i64 (lab L j : Int)) := fun j hj => (ow.cellAt j (by omega)).trans (vz_get (by rw [HLL.out]; exact hj))
  have HC := Lib.hid hcell
  have k0' := b2.keep k0
  have HBB := Lib.hid hB
  clear b2 o2 hcell k0 k1 hB hzl ow
  go_wp2
  go_loopw [17, 4] (fun i v wr => ∃ (k m : Nat) (rvs : List Value), k ≤ S ∧ i = .int .i64 k ∧ m ≤ k ∧ OwV w2.heap.size w.heap.size wr v m rvs ((partsN L k).map zs) ∧ Below w2.heap.size w2 wr ∧ w2.heap.size ≤ wr.heap.size) (fun i _ _ => S - (intOf i).toNat)
  case atStart => exact ⟨0, 0, [], Nat.zero_le _, rfl, Nat.le_refl _, .inl ⟨rfl, rfl, rfl, rfl⟩, Below.refl _ _, Nat.le_refl _⟩
  case round =>
    obtain ⟨k, m, rvs, hk, rfl, hmk, hV, hB, hzr⟩ := hrel
    obtain ⟨U, rfl⟩ : ∃ U, U = wr := ⟨_, rfl⟩
    by_cases hlt : k < S
    · have c0 := hB.keep (HC.out k hlt)
      obtain ⟨av, cv, rfl⟩ := hV.shape
      have HV := Lib.hid (⟨hV, hB⟩ : _ ∧ _)
      clear hV
      go_wp2
      go_loopw [22, 7] (fun i v wr' => ∃ (j m' : Nat), j ≤ S ∧ i = .int .i64 j ∧ m' ≤ j ∧ (rowP L k j).length = m' ∧ wr'.ownsRow U.heap.size 2 1 v m' (vz (rowP L k j)) ∧ Below U.heap.size U wr') (fun i _ _ => S - (intOf i).toNat)
      case atStart => exact ⟨0, 0, Nat.zero_le _, rfl, Nat.le_refl _, rfl, World.ownsRow_nil _ _ _ _, Below.refl _ _⟩
      case round =>
        rename_i hrel
        obtain ⟨j, m', hj, rfl, hmj, hml, hown, hb⟩ := hrel
        by_cases hlj : j < S
        · have d0 := hb.keep (hB.keep (HC.out j hlj))
          by_cases hin : lab L j = k
          · have hzz : ((lab L j : Nat) : Int) = (k : Int) := by rw [hin]
            rw [hzz] at d0
            have hst := rowP_in hin
            have HST := Lib.hid hst
            clear hzz hst hin
            go_wp2_with (at_builtin; refine wpList_append_own _ rfl _ _ 35 rfl U.heap.size 2 i0 (.int .i64 0) 1 8 Try.underlying35 hi' z0 z1 z2 rfl (by decide) _ _ _ rfl (hown.alloc _) ⟨wr.heap.size, 0, none⟩ 1 1 [.int .i64 (j : Int)] rfl rfl ?c1 ?c2 ?c3 ?c4 ?c5 ?_)
            case c1 =>
              intro i u hj
              have hj2 := news_one wr 2 (.int .i64 (j : Int)) i u hj
              have e0 : i = 0 := by
                have := (List.getElem?_eq_some_iff.1 hj).1
                simp only [List.length_cons, List.length_nil] at this; omega
              subst e0
              exact hj2
            case c2 => first | (intro u hu; simp at hu; subst hu; rfl) | rfl | simp
            case c3 => unfold maxLen; omega
            case c4 => omega
            case c5 => have := hb.size; simp; omega
            intro v3 w3 hown3 hgr _
            obtain ⟨hb3, hz3, _, _⟩ := grown_own hb hown (Nat.le_refl _) hgr
            have e3 := vz_snoc (rowP L k j) j
            rw [← HST.out] at e3
            rw [← e3] at hown3
            have e4 : (rowP L k (j+1)).length = m' + 1 := by rw [HST.out, List.length_append, hml]; rfl
            have HF := Lib.hid (⟨e4, hown3, hb3⟩ : _ ∧ _ ∧ _)
            clear hgr hown e3 hown3 hb3 e4
            go_wp2
            go_roundw
            case rel => exact ⟨j+1, m'+1, by omega, by go_num, by omega, HF.out⟩
            case measure => simp [intOf]; omega
          · have hst := rowP_out hin
            have hzz : ¬ ((lab L j : Nat) : Int) = (k : Int) := by omega
            generalize ((lab L j : Nat) : Int) = zz at *
            have hzb : (zz == (k : Int)) = false := by simpa using hzz
            rw [← hst] at hown hml
            have HF := Lib.hid (⟨hml, hown, hb⟩ : _ ∧ _ ∧ _)
            clear hst hown hml hin hzz
            go_wp2
            go_roundw
            case rel => exact ⟨j+1, m', by omega, by go_num, by omega, HF.out⟩
            case measure => simp [intOf]; omega
        · obtain rfl : j = S := by omega
          by_cases hroot : lab L k = k
          · have hst := partsN_in hroot
            have hpos := row_pos hlt hroot
            have HR := Lib.hid hst
            rw [hml] at hpos
            obtain ⟨g1, cap1, hv1, hg1, hg1w⟩ := hown.form hpos
            subst hv1
            have hO := OwI.mk hown (by omega) (rowP_I64 (by omega))
            obtain ⟨hV, hB0⟩ := HV.out
            have hownV := (hV.below hb).out.alloc (.cells #[.slice (some ⟨g1, 0, none⟩) m' cap1] 35)
            have hnews := news_one wr 35 (.slice (some ⟨g1, 0, none⟩) m' cap1)
            have HP := Lib.hid (⟨hO, hV, hB0⟩ : _ ∧ _ ∧ _)
            have hzr2 := hb.size
            clear hO hV hown hst hroot
            go_wp2_with (at_builtin; refine wpList_append_lies _ rfl _ _ 22 rfl w2.heap.size 35 j0 (.slice none 0 0) 1 24 Try.underlying22 hj' y0 y1 y2 rfl (by decide) _ _ _ rfl hownV ⟨wr.heap.size, 0, none⟩ 1 1 [.slice (some ⟨g1, 0, none⟩) m' cap1] rfl rfl ?c1 ?c2 (by decide) ?c3 ?c4 ?c5 _ rfl ?_)
            case c1 => exact hnews
            case c2 => first | (intro u hu; simp at hu; subst hu; rfl) | rfl | simp
            case c3 => unfold maxLen; omega
            case c4 => omega
            case c5 => simp; omega
            intro g2 c3 w3 hown3 hgr hlie hlt3
            have hV3 := HP.out.2.1.snocF (hi := wr.heap.size) hzr (by omega) hb HP.out.1 hown3 hgr (hlie.imp id (fun e => by rw [e]; simp))
            have hb3 := HP.out.2.1.snocB hzr hb hgr
            have hB3 := HP.out.2.2.trans hb3
            have e5 : (partsN L k).map zs ++ [zs (rowP L k j)] = (partsN L (k+1)).map zs := by rw [HR.out, List.map_append, HLL.out]; rfl
            rw [e5] at hV3
            have hsz := hb3.size
            have HF := Lib.hid (⟨hV3, hB3, Nat.le_trans hzr hsz⟩ : _ ∧ _ ∧ _)
            clear hV3 hb3 hB3 e5 hown3 hgr hlie hnews hownV hsz
            go_wp2
            go_roundw
            case rel => exact ⟨k+1, m+1, _, by omega, by go_num, by omega, HF.out⟩
            case measure => simp [intOf]; omega
          · have hst := partsN_out hroot
            have hzero := row_zero HLB.out hlt hroot
            have hm0 : m' = 0 := by rw [hzero] at hml; exact hml.symm
            subst hm0
            obtain ⟨ao, co, rfl⟩ : ∃ ao co, u7 = .slice ao 0 co := by
              rcases hown.2 with ⟨h, _⟩ | ⟨g, cap, cur, h, _⟩
              · exact ⟨_, _, h⟩
              · exact ⟨_, _, h⟩
            obtain ⟨hV, hB0⟩ := HV.out
            have hV' := hV.below hb
            rw [← hst] at hV'
            have HF := Lib.hid (⟨hV', hB0.next hb, Nat.le_trans hzr hb.size⟩ : _ ∧ _ ∧ _)
            clear hV hV' hst hroot hzero hown
            go_wp2
            go_roundw
            case rel => exact ⟨k+1, m, rvs, by omega, by go_num, by omega, HF.out⟩
            case measure => simp [intOf]; omega
    · obtain rfl : k = S := by omega
      have hl := hV.len
      obtain ⟨av, cv, rfl⟩ := hV.shape
      have hO := hV.owr hzr (by omega)
      have HO := Lib.hid (⟨hO, hl, hB⟩ : _ ∧ _ ∧ _)
      clear hV hO hl hB
      go_wp2
      go_ret2
      exact ⟨av, cv, by rw [HO.out.2.1]; rfl, by rw [HO.out.2.1]; exact HO.out.1.mono HBB.out.size (Nat.le_refl _), HBB.out.next HO.out.2.2⟩

end Go.Proofs.Ytkipfjdlmomkfaa
