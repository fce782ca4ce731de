/- OrderAtOne of the model. -/
import Derived.Test.YtbfgehgjecgfmaaOneI
set_option linter.unusedSimpArgs false
set_option linter.unusedVariables false
set_option maxRecDepth 100000
namespace Go.Proofs.Ytbfgehgjecgfmaa
open Go.RowKit

set_option maxHeartbeats 3200000 in
theorem l01At1 {lo hi : Nat} (n b off c : Nat) (f : List Int) (w : World) (h : RdI lo hi w (.slice (some ⟨b, off, none⟩) n c) f) (hn : f.length = n) (h0 : 0 < n) (hn1 : n ≤ 40) :
    Calls Try.prog 60 #[.slice (some ⟨b, off, none⟩) n c, .int .i64 1] w fun e w' => e = .returned (.int .i64 (sT f n)) ∧ Qt w w' := by
  have HCF := Lib.hid (fun W (hB : Qt w W) j (hj : j < n) => show W.cell? ⟨b, off + j, none⟩ = some (.int .i64 (f.getD j 0)) by
    obtain ⟨b1, o1, e1, g1⟩ := (h.qt hB).at hn j hj
    simp only [Option.some.injEq, Addr.mk.injEq, and_true] at e1
    obtain ⟨rfl, rfl⟩ := e1
    exact g1)
  rw [← hO_sT]
  clear h hn
  go_enter Try.func60, Try.ntmps60
  go_wp2
  go_loopw [5, 6] (fun v i wr => ∃ k : Nat, k ≤ n ∧ i = .int .i64 ((n : Int) - 1 - k) ∧ v = .int .i64 (hO f n k) ∧ Qt w wr) (fun _ i _ => (intOf i + 1).toNat)
  case atStart => exact ⟨0, Nat.zero_le _, by simp, rfl, Qt.refl _⟩
  case round =>
    obtain ⟨k, hk, rfl, rfl, hq⟩ := hrel
    by_cases hlt : k < n
    · obtain ⟨K, hK⟩ : ∃ K, K = n - 1 - k := ⟨_, rfl⟩
      have hKi : (n : Int) - 1 - (k : Int) = (K : Int) := by omega
      have c1 := HCF.out wr hq K (by omega)
      have hst : hO f n (k + 1) = wrap64 (wrap64 (hO f n k * 1) + f.getD K 0) := by rw [hK]; rfl
      have hI : wrap64 (hO f n k * 1) = hO f n k := by rw [Int.mul_one]; exact wrap_of (hO_I64 _ _ _)
      have hI2 : IntKind.i64.wrap (hO f n k) = hO f n k := by rw [IntWalk.i64_left]; exact wrap_of (hO_I64 _ _ _)
      have hI3 : wrap64 (hO f n k) = hO f n k := wrap_of (hO_I64 _ _ _)
      rw [hI] at hst
      generalize f.getD K 0 = x at c1 hst
      generalize hO f n k = s0 at hst hI hI2 hI3 ⊢
      obtain ⟨s1, hs1⟩ : ∃ s1, s1 = hO f n (k + 1) := ⟨_, rfl⟩
      rw [← hs1] at hst
      have HS1 := Lib.hid hs1
      have e1 : IntKind.i64.wrap (s0 * 1) = s0 := by rw [Int.mul_one]; exact hI2
      have e3 : IntKind.i64.wrap (s0 + x) = s1 := by rw [IntWalk.i64_left, hst]
      have e4 : wrap64 (s0 + x) = s1 := hst.symm
      have hKn : (K : Int) < (n : Int) := by clear e1 e3 e4 hI hI2 hI3 hst hs1; omega
      have hK0 : (0 : Int) ≤ (K : Int) := by clear e1 e3 e4 hI hI2 hI3 hst hs1; omega
      have hnx : (K : Int) - 1 = (n : Int) - 1 - ((k + 1 : Nat) : Int) := by clear e1 e3 e4 hI hI2 hI3 hst hs1; omega
      have q1 : IntKind.i64.wrap ((K : Int) - 1) = (n : Int) - 1 - ((k + 1 : Nat) : Int) := by rw [← hnx]; exact IntWalk.i64_in _ (by clear e1 e3 e4 hI hI2 hI3 hst hs1; omega)
      have q2 : wrap64 ((K : Int) - 1) = (n : Int) - 1 - ((k + 1 : Nat) : Int) := by rw [← hnx]; exact IntWalk.wrap64_in _ (by clear e1 e3 e4 hI hI2 hI3 hst hs1 q1; omega)
      have HM := Lib.hid (⟨hKi, hnx⟩ : _ ∧ _)
      rw [hKi]
      clear hst hs1 hnx hKi hK
      go_wp2
      clear q1 q2 e1 e3 e4 hI hI2 hI3
      go_roundw
      case rel => exact ⟨k + 1, by omega, rfl, by rw [HS1.out], hq⟩
      case measure => have h1 := HM.out; simp [intOf]; omega
    · obtain rfl : k = n := by omega
      have hge : (k : Int) - 1 - (k : Int) = -1 := by omega
      rw [hge]
      go_wp2
      go_ret
      exact ⟨rfl, hq⟩

theorem div_arith {s x : Int} (hs : I64 s) (hx : I64 x) : wrap64 (wrap64 (x - wrap64 (-1 * s)) * 1) = wrap64 (s + x) := by
  unfold I64 at hs hx
  unfold wrap64
  omega

set_option maxHeartbeats 6400000 in
theorem l01Divide1 {lo hi lo' hi' : Nat} (n N b off c p : Nat) (f : List Int) (w : World) (h : RdI lo hi w (.slice (some ⟨b, off, none⟩) n c) f) (hd : RdI lo' hi' w (.slice (some ⟨p, 0, none⟩) 2 2) [1, -1]) (hn : f.length = n) (hN : n = N + 1) (h0 : 0 < N) (hn1 : n ≤ 40) (hz : sT f N ≠ 0) :
    Calls Try.prog 61 #[.slice (some ⟨b, off, none⟩) n c, .slice (some ⟨p, 0, none⟩) 2 2] w fun e w' => ∃ a' c' sm, e = .returned (.tuple #[.slice a' N c', .bool sm]) ∧ OwI w.heap.size w'.heap.size w' (.slice a' N c') (qL f N) ∧ Below w.heap.size w w' := by
  obtain ⟨i0, hi0, z0, z1, z2⟩ := info_parts Try.info2
  have HCF := Lib.hid (fun W (hB : Below w.heap.size w W) j (hj : j < n) => show W.cell? ⟨b, off + j, none⟩ = some (.int .i64 (f.getD j 0)) by
    obtain ⟨b1, o1, e1, g1⟩ := (h.below hB).at hn j hj
    simp only [Option.some.injEq, Addr.mk.injEq, and_true] at e1
    obtain ⟨rfl, rfl⟩ := e1
    exact g1)
  have HCD := Lib.hid (fun W (hB : Below w.heap.size w W) => show W.cell? ⟨p, 0, none⟩ = some (.int .i64 1) ∧ W.cell? ⟨p, 1, none⟩ = some (.int .i64 (-1)) by
    obtain ⟨b1, o1, e1, g1⟩ := (hd.below hB).at rfl 0 (by decide)
    obtain ⟨b2, o2, e2, g2⟩ := (hd.below hB).at rfl 1 (by decide)
    simp only [Option.some.injEq, Addr.mk.injEq, and_true] at e1 e2
    obtain ⟨rfl, rfl⟩ := e1
    obtain ⟨rfl, rfl⟩ := e2
    exact ⟨g1, g2⟩)
  have HFI := Lib.hid (fun j (hj : j < n) => show I64 (f.getD j 0) by
    have e2 : f.getD j 0 = f[j]'(by omega) := by simp [List.getD, List.getElem?_eq_getElem (show j < f.length by omega)]
    rw [e2]; exact h.2.1 _ (List.getElem_mem _))
  have HT := Lib.hid (fun (g c' : Nat) (W : World) (hB : Below w.heap.size w W) (lo1 hi1 : Nat) (hq : RdI lo1 hi1 W (.slice (some ⟨g, 0, none⟩) N c') (qL f N)) =>
    show Calls Try.prog 107 #[.slice (some ⟨g, 0, none⟩) N c', .slice (some ⟨p, 0, none⟩) 2 2] W fun e w' => ∃ (P : List Int) (a : Option Addr) (PL d : Nat), P.length = PL ∧ e = .returned (.slice a PL d) ∧ OwI W.heap.size w'.heap.size w' (.slice a PL d) P ∧ Below W.heap.size W w' from
    (l01Times_ne N 2 g 0 c' p 0 2 (qL f N) [1, -1] W hq (hd.below hB) (qL_len _ _) rfl h0 (by decide) (by omega) (by decide)).mono fun e w' ⟨a, d, h1, h2, h3⟩ => ⟨_, a, _, d, rfl, h1, h2, h3⟩)
  have hTrim : trim (qL f N) = qL f N := trim_id (by rw [qL_len]; exact h0) (by rw [qL_len, qL_get (by omega), show N - 1 + 1 = N by omega]; exact hz)
  have HTRM := Lib.hid hTrim
  have e0 : ((n : Int) == 0) = false := by simp; omega
  have e1 : decide ((n : Int) < 2) = false := decide_eq_false (by omega)
  have e1' : ¬ (n : Int) < 2 := by omega
  have hNi : (n : Int) - 2 = (N : Int) - 1 := by omega
  have s1 : IntKind.i64.wrap ((n : Int) - 2) = (N : Int) - 1 := by rw [hNi]; exact IntWalk.i64_in _ (by omega)
  have s2 : wrap64 ((n : Int) - 2) = (N : Int) - 1 := by rw [hNi]; exact IntWalk.wrap64_in _ (by clear s1; omega)
  have hl0 := World.ownsRow_lit (base := w.heap.size) (e := 2) (size := 1) w #[] 0 (Nat.le_refl _) (by unfold maxLen; omega) rfl
  have hu1 : Below w.heap.size w (w.alloc (.cells #[] 2)) := (Below.refl _ _).alloc (Nat.le_refl _) _
  have HS := Lib.hid (⟨hl0, hu1⟩ : _ ∧ _)
  have HN := Lib.hid hN
  clear h hd hn hz hTrim hl0 hu1 hN hNi
  go_enter Try.func61, Try.ntmps61
  go_wp2
  go_loopw [6, 7] (fun v i wr => ∃ (k g c' : Nat), k ≤ N ∧ i = .int .i64 k ∧ v = .slice (some ⟨g, 0, none⟩) k c' ∧ wr.ownsRow w.heap.size 2 1 (.slice (some ⟨g, 0, none⟩) k c') k ((qL f k).map (Value.int .i64)) ∧ Below w.heap.size w wr) (fun _ i _ => N - (intOf i).toNat)
  case atStart => exact ⟨0, w.heap.size, 0, Nat.zero_le _, rfl, rfl, HS.out.1, HS.out.2⟩
  case round =>
    clear HS
    obtain ⟨k, g, c', hk, rfl, rfl, hown, hB⟩ := hrel
    obtain ⟨U, rfl⟩ : ∃ U, U = wr := ⟨_, rfl⟩
    by_cases hlt : k < N
    · have c1 := HCF.out U hB k (by have := HN.out; omega)
      have hxI := HFI.out k (by have := HN.out; omega)
      have hst : sT f (k + 1) = wrap64 (sT f k + f.getD k 0) := rfl
      have hsI := sT_I64 f k
      have hs0 : k = 0 → sT f k = 0 := fun h => by rw [h]; rfl
      have hqs := qL_s f k
      have hqk := fun (h1 : 0 < k) => qL_get (f := f) (n := k) (j := k - 1) (by omega)
      generalize f.getD k 0 = x at c1 hxI hst
      have dle : decide ((k : Int) ≤ (N : Int) - 1) = true := decide_eq_true (by clear s1 s2; omega)
      have dle' : (k : Int) ≤ (N : Int) - 1 := by clear s1 s2; omega
      have hkn : (k : Int) < (n : Int) := by have := HN.out; clear s1 s2; omega
      obtain ⟨y, hy⟩ : ∃ y, y = wrap64 (x - wrap64 (-1 * sT f k)) := ⟨_, rfl⟩
      obtain ⟨z, hzz⟩ : ∃ z, z = sT f (k + 1) := ⟨_, rfl⟩
      have hzy : 0 < k → z = y ∧ wrap64 y = y := fun _ => by
        have h5 := div_arith hsI hxI
        rw [← hy, Int.mul_one] at h5
        have h6 : wrap64 y = y := by rw [hy]; exact wrap_of (wrap_I64 _)
        exact ⟨by rw [hzz, hst, ← h5, h6], h6⟩
      have hzx : k = 0 → z = x ∧ wrap64 x = x := fun h => by
        refine ⟨?_, wrap_of hxI⟩
        rw [hzz, hst, hs0 h, Int.zero_add, wrap_of hxI]
      rw [← hzz] at hqs
      have HST := Lib.hid (⟨hqs, hzy, hzx, hy, hqk⟩ : _ ∧ _ ∧ _ ∧ _ ∧ _)
      have HOW := Lib.hid (⟨hown, hB⟩ : _ ∧ _)
      clear hst hs0 hsI hxI hqs hqk hy hzz hzy hzx hown hB
      go_wp2
      go_loopw [8, 9] (fun v j wr => ∃ q : Nat, q ≤ min k 1 ∧ j = .int .i64 ((q : Int) + 1) ∧ v = .int .i64 (if q = 0 then x else y) ∧ Qt U wr) (fun _ j _ => 2 - (intOf j).toNat)
      case atStart => exact ⟨0, Nat.zero_le _, rfl, rfl, Qt.refl _⟩
      case round =>
        rename_i hrel
        obtain ⟨q, hq, rfl, rfl, hqt⟩ := hrel
        rcases Nat.eq_zero_or_pos k with hk0 | hk0
        · obtain rfl : q = 0 := by clear s1 s2; omega
          rw [if_pos rfl, show ((0 : Nat) : Int) + 1 = 1 from rfl]
          obtain ⟨hzx, hzw⟩ := HST.out.2.2.1 hk0
          subst hzx
          have j1 : decide ((1 : Int) ≤ (k : Int)) = false := decide_eq_false (by clear s1 s2; omega)
          have j2 : ¬ (1 : Int) ≤ (k : Int) := by clear s1 s2; omega
          have HK0 := Lib.hid hk0
          clear hk0
          have ww1 : IntKind.i64.wrap (z * 1) = z := by rw [Int.mul_one, IntWalk.i64_left]; exact hzw
          have ww2 : wrap64 (z * 1) = z := by rw [Int.mul_one]; exact hzw
          have ww3 : IntKind.i64.wrap z = z := by rw [IntWalk.i64_left]; exact hzw
          have ww4 : wrap64 z = z := hzw
          clear hzw
          have hown := ownsRow_chg HOW.out.1 (hqt.below.chg 0 0) (fun _ _ => .inr (Nat.zero_le _))
          have hB := HOW.out.2.qt hqt
          have hD := HCD.out wr hB
          have hD0 := hD.1
          have hownV := hown.alloc (.cells #[.int .i64 z] 2)
          have hnews := news_one wr 2 (.int .i64 z)
          have hgl := hown.lt g rfl
          have hU2 := hB.alloc hB.size (.cells #[.int .i64 z] 2)
          have hU2s := hU2.size
          have HU2 := Lib.hid (⟨hU2, hgl⟩ : _ ∧ _)
          have hsz1 := hB.size
          clear hown hB hU2 hD
          go_wp2_with (at_builtin; refine wpList_append_lies _ rfl _ _ 26 rfl w.heap.size 2 i0 (.int .i64 0) 1 8 Try.underlying26 hi0 z0 z1 z2 rfl (by decide) _ _ _ rfl hownV ⟨wr.heap.size, 0, none⟩ 1 1 [.int .i64 z] rfl rfl ?pa1 ?pa2 (by decide) ?pa3 ?pa4 ?pa5 _ rfl ?_)
          try (case pa1 => exact hnews)
          case pa2 => first | (intro u hu; simp at hu; subst hu; rfl) | rfl | simp
          case pa3 => clear s1 s2 ww1 ww2 ww3 ww4; unfold maxLen; omega
          try (case pa4 => clear s1 s2 ww1 ww2 ww3 ww4; omega)
          case pa5 => clear s1 s2 ww1 ww2 ww3 ww4; first | omega | (simp; omega)
          intro g4 c4 w4 hown3 hgr hlie hlt3
          have F : Hid (w4.ownsRow w.heap.size 2 1 (.slice (some ⟨g4, 0, none⟩) (k + 1) c4) (k + 1) ((qL f (k + 1)).map (Value.int .i64)) ∧ Below w.heap.size w w4) := Lib.hid ⟨by rw [HST.out.1]; simpa using hown3, HU2.out.1.grown hgr (by clear s1 s2 ww1 ww2 ww3 ww4; simp; omega) (fun q' hk' => by
            have : g = q' := by simpa [Value.ownBlock] using hk'
            have := HU2.out.2
            clear s1 s2 ww1 ww2 ww3 ww4
            omega)⟩
          clear hown3 hgr hlie hownV hnews ww1 ww2 ww3 ww4
          go_wp2
          go_roundw
          case rel => exact ⟨k + 1, g4, c4, by clear s1 s2; omega, by go_num, rfl, F.out⟩
          case measure => clear s1 s2; simp [intOf]; omega
        · rcases Nat.eq_zero_or_pos q with hq0 | hq0
          · subst hq0
            rw [if_pos rfl, show ((0 : Nat) : Int) + 1 = 1 from rfl]
            have hB := HOW.out.2.qt hqt
            have hown := ownsRow_chg HOW.out.1 (hqt.below.chg 0 0) (fun _ _ => .inr (Nat.zero_le _))
            have hD1 := (HCD.out wr hB).2
            obtain ⟨K, hK⟩ : ∃ K, K = k - 1 := ⟨_, rfl⟩
            have c2 := (hown.cellAt K (by omega)).trans (map_getE (by rw [qL_len]; omega))
            rw [hK, HST.out.2.2.2.2 hk0, ← hK, show K + 1 = k by omega] at c2
            have hy := HST.out.2.2.2.1
            generalize sT f k = s0 at c2 hy
            obtain ⟨m, hm⟩ : ∃ m, m = wrap64 (-1 * s0) := ⟨_, rfl⟩
            rw [← hm] at hy
            have j1 : decide ((1 : Int) ≤ (k : Int)) = true := decide_eq_true (by clear s1 s2 hm hy; omega)
            have j2 : (1 : Int) ≤ (k : Int) := by clear s1 s2 hm hy; omega
            have hKi : (k : Int) - 1 = (K : Int) := by clear s1 s2 hm hy; omega
            have hKk : (K : Int) < (k : Int) := by clear s1 s2 hm hy; omega
            have hK0 : (0 : Int) ≤ (K : Int) := by clear s1 s2 hm hy; omega
            have q1 : IntKind.i64.wrap ((k : Int) - 1) = (K : Int) := by rw [hKi]; exact IntWalk.i64_in _ (by clear s1 s2 hm hy; omega)
            have q2 : wrap64 ((k : Int) - 1) = (K : Int) := by rw [hKi]; exact IntWalk.wrap64_in _ (by clear s1 s2 hm hy q1; omega)
            have v1 : IntKind.i64.wrap (-1 * s0) = m := by rw [IntWalk.i64_left, hm]
            have v2 : wrap64 (-1 * s0) = m := hm.symm
            have v5 : IntKind.i64.wrap (-s0) = m := by rw [IntWalk.i64_left, hm, show -1 * s0 = -s0 by clear v1 v2 hm hy s1 s2 q1 q2; omega]
            have v6 : wrap64 (-s0) = m := by rw [hm, show -1 * s0 = -s0 by clear v1 v2 hm hy s1 s2 q1 q2 v5; omega]
            have v3 : IntKind.i64.wrap (x - m) = y := by rw [IntWalk.i64_left, hy]
            have v4 : wrap64 (x - m) = y := hy.symm
            clear hm hy hKi hK hown hB
            go_wp2
            go_quiet (fail)
            go_wp2
            clear q1 q2 v1 v2 v3 v4 v5 v6
            go_roundw
            case rel => exact ⟨1, by clear s1 s2; omega, rfl, by rw [if_neg (by decide)], hqt.drewN _⟩
            case measure => simp [intOf]
          · obtain rfl : q = 1 := by clear s1 s2; omega
            rw [if_neg (by decide), show ((1 : Nat) : Int) + 1 = 2 from rfl]
            obtain ⟨hzx, hzw0⟩ := HST.out.2.1 hk0
            have hzw : wrap64 z = z := by rw [hzx]; exact hzw0
            clear hzw0
            rw [← hzx]
            clear hzx
            by_cases h2 : (2 : Int) ≤ (k : Int)
            · have j1 : decide ((2 : Int) ≤ (k : Int)) = true := decide_eq_true h2
              have ww1 : IntKind.i64.wrap (z * 1) = z := by rw [Int.mul_one, IntWalk.i64_left]; exact hzw
              have ww2 : wrap64 (z * 1) = z := by rw [Int.mul_one]; exact hzw
              have ww3 : IntKind.i64.wrap z = z := by rw [IntWalk.i64_left]; exact hzw
              have ww4 : wrap64 z = z := hzw
              clear hzw
              have hown := ownsRow_chg HOW.out.1 (hqt.below.chg 0 0) (fun _ _ => .inr (Nat.zero_le _))
              have hB := HOW.out.2.qt hqt
              have hD := HCD.out wr hB
              have hD0 := hD.1
              have hownV := hown.alloc (.cells #[.int .i64 z] 2)
              have hnews := news_one wr 2 (.int .i64 z)
              have hgl := hown.lt g rfl
              have hU2 := hB.alloc hB.size (.cells #[.int .i64 z] 2)
              have hU2s := hU2.size
              have HU2 := Lib.hid (⟨hU2, hgl⟩ : _ ∧ _)
              have hsz1 := hB.size
              clear hown hB hU2 hD
              go_wp2_with (at_builtin; refine wpList_append_lies _ rfl _ _ 26 rfl w.heap.size 2 i0 (.int .i64 0) 1 8 Try.underlying26 hi0 z0 z1 z2 rfl (by decide) _ _ _ rfl hownV ⟨wr.heap.size, 0, none⟩ 1 1 [.int .i64 z] rfl rfl ?pb1 ?pb2 (by decide) ?pb3 ?pb4 ?pb5 _ rfl ?_)
              try (case pb1 => exact hnews)
              case pb2 => first | (intro u hu; simp at hu; subst hu; rfl) | rfl | simp
              case pb3 => clear s1 s2 ww1 ww2 ww3 ww4; unfold maxLen; omega
              try (case pb4 => clear s1 s2 ww1 ww2 ww3 ww4; omega)
              case pb5 => clear s1 s2 ww1 ww2 ww3 ww4; first | omega | (simp; omega)
              intro g4 c4 w4 hown3 hgr hlie hlt3
              have F : Hid (w4.ownsRow w.heap.size 2 1 (.slice (some ⟨g4, 0, none⟩) (k + 1) c4) (k + 1) ((qL f (k + 1)).map (Value.int .i64)) ∧ Below w.heap.size w w4) := Lib.hid ⟨by rw [HST.out.1]; simpa using hown3, HU2.out.1.grown hgr (by clear s1 s2 ww1 ww2 ww3 ww4; simp; omega) (fun q' hk' => by
                have : g = q' := by simpa [Value.ownBlock] using hk'
                have := HU2.out.2
                clear s1 s2 ww1 ww2 ww3 ww4
                omega)⟩
              clear hown3 hgr hlie hownV hnews ww1 ww2 ww3 ww4
              go_wp2
              go_roundw
              case rel => exact ⟨k + 1, g4, c4, by clear s1 s2; omega, by go_num, rfl, F.out⟩
              case measure => clear s1 s2; simp [intOf]; omega
            · have j1 : decide ((2 : Int) ≤ (k : Int)) = false := decide_eq_false h2
              have ww1 : IntKind.i64.wrap (z * 1) = z := by rw [Int.mul_one, IntWalk.i64_left]; exact hzw
              have ww2 : wrap64 (z * 1) = z := by rw [Int.mul_one]; exact hzw
              have ww3 : IntKind.i64.wrap z = z := by rw [IntWalk.i64_left]; exact hzw
              have ww4 : wrap64 z = z := hzw
              clear hzw
              have hown := ownsRow_chg HOW.out.1 (hqt.below.chg 0 0) (fun _ _ => .inr (Nat.zero_le _))
              have hB := HOW.out.2.qt hqt
              have hD := HCD.out wr hB
              have hD0 := hD.1
              have hownV := hown.alloc (.cells #[.int .i64 z] 2)
              have hnews := news_one wr 2 (.int .i64 z)
              have hgl := hown.lt g rfl
              have hU2 := hB.alloc hB.size (.cells #[.int .i64 z] 2)
              have hU2s := hU2.size
              have HU2 := Lib.hid (⟨hU2, hgl⟩ : _ ∧ _)
              have hsz1 := hB.size
              clear hown hB hU2 hD
              go_wp2_with (at_builtin; refine wpList_append_lies _ rfl _ _ 26 rfl w.heap.size 2 i0 (.int .i64 0) 1 8 Try.underlying26 hi0 z0 z1 z2 rfl (by decide) _ _ _ rfl hownV ⟨wr.heap.size, 0, none⟩ 1 1 [.int .i64 z] rfl rfl ?pc1 ?pc2 (by decide) ?pc3 ?pc4 ?pc5 _ rfl ?_)
              try (case pc1 => exact hnews)
              case pc2 => first | (intro u hu; simp at hu; subst hu; rfl) | rfl | simp
              case pc3 => clear s1 s2 ww1 ww2 ww3 ww4; unfold maxLen; omega
              try (case pc4 => clear s1 s2 ww1 ww2 ww3 ww4; omega)
              case pc5 => clear s1 s2 ww1 ww2 ww3 ww4; first | omega | (simp; omega)
              intro g4 c4 w4 hown3 hgr hlie hlt3
              have F : Hid (w4.ownsRow w.heap.size 2 1 (.slice (some ⟨g4, 0, none⟩) (k + 1) c4) (k + 1) ((qL f (k + 1)).map (Value.int .i64)) ∧ Below w.heap.size w w4) := Lib.hid ⟨by rw [HST.out.1]; simpa using hown3, HU2.out.1.grown hgr (by clear s1 s2 ww1 ww2 ww3 ww4; simp; omega) (fun q' hk' => by
                have : g = q' := by simpa [Value.ownBlock] using hk'
                have := HU2.out.2
                clear s1 s2 ww1 ww2 ww3 ww4
                omega)⟩
              clear hown3 hgr hlie hownV hnews ww1 ww2 ww3 ww4
              go_wp2
              go_roundw
              case rel => exact ⟨k + 1, g4, c4, by clear s1 s2; omega, by go_num, rfl, F.out⟩
              case measure => clear s1 s2; simp [intOf]; omega
    · obtain rfl : k = N := by clear s1 s2; omega
      have hk40 : k ≤ 40 := by have := HN.out; clear s1 s2; omega
      have dle : decide ((k : Int) ≤ (k : Int) - 1) = false := decide_eq_false (by clear s1 s2; omega)
      have dle' : ¬ (k : Int) ≤ (k : Int) - 1 := by clear s1 s2; omega
      have hO := OwI.mk hown (by clear s1 s2; omega) (qL_I64 f k)
      have HT2 := Lib.hid (HT.out g c' U hB _ _ hO.rd)
      have HOW := Lib.hid (⟨hown, hB⟩ : _ ∧ _)
      clear hO hown hB HT hlt hk
      go_wp2_with fail
      refine HT2.out.mono ?_
      rintro e w2 ⟨P, a2, PL, d2, hPL, rfl, o2, b2⟩
      have HB2 := Lib.hid (⟨o2.rd, b2⟩ : _ ∧ _)
      have HPL := Lib.hid hPL
      clear o2 b2 HT2 hPL
      go_wp2
      go_loopw [11, 12] (fun sm i wr => ∃ (q : Nat) (bs : Bool), q ≤ n ∧ i = .int .i64 q ∧ sm = .bool bs ∧ (bs = true → PL = n) ∧ Qt w2 wr) (fun _ i _ => n - (intOf i).toNat)
      case atStart => exact ⟨0, _, Nat.zero_le _, rfl, rfl, fun h => by clear s1 s2; simp at h; omega, Qt.refl _⟩
      case round =>
        rename_i hrel
        obtain ⟨q, bs, hq, rfl, rfl, hbs, hqt⟩ := hrel
        by_cases hqn : q < n
        · cases bs with
          | true =>
            have hPn := hbs rfl
            have c1 := HCF.out wr ((HOW.out.2.next HB2.out.2).qt hqt) q hqn
            obtain ⟨b9, o9, rfl, g9⟩ := (HB2.out.1.qt hqt).at HPL.out q (by omega)
            have HPN := Lib.hid hPn
            have hq1 : (q : Int) < (n : Int) := by clear s1 s2; omega
            have hq2 : (q : Int) < (PL : Int) := by clear s1 s2; omega
            generalize P.getD q 0 = x at g9
            generalize f.getD q 0 = y at c1
            clear hbs hPn
            go_wp2
            go_quiet (fail)
            go_wp2
            go_roundw
            case rel => exact ⟨q + 1, _, by clear s1 s2; omega, by go_num, rfl, fun _ => HPN.out, hqt.drewN _⟩
            case measure => clear s1 s2; simp [intOf]; omega
          | false =>
            have hq1 : (q : Int) < (n : Int) := by clear s1 s2; omega
            clear hbs
            have hownR : wr.ownsRow w.heap.size 2 1 (.slice (some ⟨g, 0, none⟩) k c') k ((qL f k).map (Value.int .i64)) := ownsRow_chg HOW.out.1 ((HB2.out.2.qt hqt).chg 0 0) (fun _ _ => .inr (Nat.zero_le _))
            have hBR : Below w.heap.size w wr := (HOW.out.2.next HB2.out.2).qt hqt
            have hOR := OwI.mk hownR (by clear s1 s2; omega) (qL_I64 f k)
            have HTR := Lib.hid (l01Trim (.slice (some ⟨g, 0, none⟩) k c') (qL f k) wr (fun a' n' c9 e => by simp only [Value.slice.injEq] at e; have := own_cap hownR h0; omega) hOR.rd)
            rw [HTRM.out, qL_len] at HTR
            have HBR := Lib.hid hBR
            clear hownR hOR hBR
            go_wp2_with fail
            refine HTR.out.mono ?_
            rintro e w9 ⟨a9, c9, rfl, o9, b9⟩
            have HF := Lib.hid (⟨OwI.mono o9 HBR.out.size (Nat.le_refl _), HBR.out.next b9⟩ : _ ∧ _)
            clear o9 b9 HTR
            go_wp2
            go_ret2
            exact ⟨a9, c9, _, rfl, HF.out.1, HF.out.2⟩
        · obtain rfl : q = n := by clear s1 s2; omega
          have hq1 : ¬ (q : Int) < (q : Int) := by clear s1 s2; omega
          clear hbs
          have hownR : wr.ownsRow w.heap.size 2 1 (.slice (some ⟨g, 0, none⟩) k c') k ((qL f k).map (Value.int .i64)) := ownsRow_chg HOW.out.1 ((HB2.out.2.qt hqt).chg 0 0) (fun _ _ => .inr (Nat.zero_le _))
          have hBR : Below w.heap.size w wr := (HOW.out.2.next HB2.out.2).qt hqt
          have hOR := OwI.mk hownR (by clear s1 s2; omega) (qL_I64 f k)
          have HTR := Lib.hid (l01Trim (.slice (some ⟨g, 0, none⟩) k c') (qL f k) wr (fun a' n' c9 e => by simp only [Value.slice.injEq] at e; have := own_cap hownR h0; omega) hOR.rd)
          rw [HTRM.out, qL_len] at HTR
          have HBR := Lib.hid hBR
          clear hownR hOR hBR
          go_wp2_with fail
          refine HTR.out.mono ?_
          rintro e w9 ⟨a9, c9, rfl, o9, b9⟩
          have HF := Lib.hid (⟨OwI.mono o9 HBR.out.size (Nat.le_refl _), HBR.out.next b9⟩ : _ ∧ _)
          clear o9 b9 HTR
          go_wp2
          go_ret2
          exact ⟨a9, c9, _, rfl, HF.out.1, HF.out.2⟩
end Go.Proofs.Ytbfgehgjecgfmaa
