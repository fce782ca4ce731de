/- FireVertex of the model: the firing of a set of one vertex. -/
import Derived.Test.YtnblhkhdilkbeaaFvS
set_option linter.unusedSimpArgs false
set_option linter.unusedVariables false
set_option maxRecDepth 100000
namespace Go.Proofs.Ytnblhkhdilkbeaa
open Go.RowKit

theorem inR_fv (u p : Int) : (decide (0 ≤ u) && decide (u ≤ p - 1)) = inR u p := by
  unfold inR
  congr 1
  rw [decide_eq_decide]; omega
/-- the set of one vertex -/
def setV (V : Nat) : Value := .agg #[.bool (decide (0 = V)), .bool (decide (1 = V)), .bool (decide (2 = V)), .bool (decide (3 = V)), .bool (decide (4 = V)), .bool (decide (5 = V)), .bool (decide (6 = V)), .bool (decide (7 = V))]
set_option maxHeartbeats 3200000 in
theorem l10Fire1 {lo hi lo' hi' : Nat} (ra : Option Addr) (S rc : Nat) (L : Nat → Nat → Int) (a2 : Option Addr) (c2 : Nat) (xs : List Int) (V : Nat) (w : World) (h : RdR lo hi w (.slice ra S rc) (tab S L)) (h2 : RdI lo' hi' w (.slice a2 S c2) xs) (hn2 : xs.length = S) (hV : V < S) (hS : S ≤ 8)
    (hL : ∀ i j, -20 ≤ L i j ∧ L i j ≤ 20) (hxs : ∀ k, -200 ≤ xs.getD k 0 ∧ xs.getD k 0 ≤ 200) :
    Calls Try.prog 55 #[.slice ra S rc, .slice a2 S c2, .agg #[.bool (decide (0 = V)), .bool (decide (1 = V)), .bool (decide (2 = V)), .bool (decide (3 = V)), .bool (decide (4 = V)), .bool (decide (5 = V)), .bool (decide (6 = V)), .bool (decide (7 = V))], .int .i64 1] w fun e w' => ∃ a' c', e = .returned (.slice a' S c') ∧ OwI w.heap.size w'.heap.size w' (.slice a' S c') (fdN xs (L V) S) ∧ Below w.heap.size w w' := by
  have hb0 : ∀ o, Below w.heap.size w (w.alloc o) := fun o => (Below.refl _ _).alloc (Nat.le_refl _) o
  obtain ⟨b, off, rv, rfl, e2, e3⟩ := h.at (tab_len _ _) V hV
  obtain ⟨rb, rcc, rfl⟩ := e3.shape
  rw [tab_rlen L hV] at e2 e3
  have HE := Lib.hid (show ∀ j, j < S → ∃ b' off', rb = some ⟨b', off', none⟩ ∧ w.cell? ⟨b', off' + j, none⟩ = some (.int .i64 (L V j)) from fun j hj => by
    obtain ⟨b', off', f1, f2⟩ := e3.at' (tab_rlen L hV) j hj
    rw [tab_get L hV hj] at f2
    exact ⟨b', off', f1, f2⟩)
  have HOWN := Lib.hid (fun W (hB : Below w.heap.size w W) => l01Own (.slice a2 S c2) xs W (h2.below hB))
  have HLB := Lib.hid hL
  have HXB := Lib.hid hxs
  have HXL := Lib.hid hn2
  have HE2 := Lib.hid e2
  clear h h2 hn2 e2 e3 hL hxs
  go_enter Try.func55, Try.ntmps55
  go_wp2_with fail
  refine calls_gen (fun W => Below w.heap.size w W ∧ w.heap.size < W.heap.size ∧ ∀ k, k < 8 → W.cell? ⟨w.heap.size, k, none⟩ = some (.bool (decide (k = V)))) ⟨hb0 _, by simp, ?_⟩ ?_
  · intro k hk
    rcases k with _ | _ | _ | _ | _ | _ | _ | _ | k
    case succ.succ.succ.succ.succ.succ.succ.succ => omega
    all_goals go_simp
  rintro W ⟨hB, hz, hset⟩
  refine (HOWN.out W hB).mono ?_
  rintro e w1 ⟨a3, c3, rfl, o3, b3⟩
  have hxl := HXL.out
  rw [hxl] at o3 ⊢
  clear hxl
  obtain ⟨h1, hi2, h3, hh⟩ := o3
  rw [HXL.out] at h3
  obtain ⟨g, cc, hv3, hge, hgl⟩ := h3.form (by omega)
  simp only [Value.slice.injEq] at hv3
  obtain ⟨rfl, _, rfl⟩ := hv3
  rw [← fdV_0 (L V) HXL.out] at h3
  have HO := Lib.hid (⟨h3, hB.next b3, fun k hk => b3.keep (hset k hk), Nat.lt_of_lt_of_le hz hge⟩ : _ ∧ _ ∧ (∀ k, k < 8 → w1.cell? ⟨w.heap.size, k, none⟩ = some (.bool (decide (k = V)))) ∧ w.heap.size < g)
  have hwg : w.heap.size < g := Nat.lt_of_lt_of_le hz hge
  clear h3 hh h1 hi2 b3 hset hB HOWN
  go_wp2
  go_loopw [10] (fun i wr => ∃ k : Nat, k ≤ S ∧ i = .int .i64 k ∧ wr.ownsRow W.heap.size 2 1 (.slice (some ⟨g, 0, none⟩) S c3) S (fdV xs (L V) S (if k ≤ V then 0 else S)) ∧ Below w.heap.size w wr ∧ (∀ k, k < 8 → wr.cell? ⟨w.heap.size, k, none⟩ = some (.bool (decide (k = V))))) (fun i _ => S - (intOf i).toNat)
  case atStart => exact ⟨0, Nat.zero_le _, rfl, by rw [if_pos (Nat.zero_le _)]; exact HO.out.1, HO.out.2.1, HO.out.2.2.1⟩
  case round =>
    rename_i hrel
    clear HO
    obtain ⟨k, hk, rfl, hC, hB, hset⟩ := hrel
    obtain ⟨U, rfl⟩ : ∃ U, U = wr := ⟨_, rfl⟩
    by_cases hlt : k < S
    · have hkI : (k : Int) < (S : Int) := by omega
      have hk0 : (0 : Int) ≤ (k : Int) := by omega
      have hk8 : k < 8 := by omega
      have hk8I : (k : Int) < 8 := by omega
      have HS := Lib.hid (⟨hC, hB, hset⟩ : _ ∧ _ ∧ _)
      clear hC hB hset
      go_wp2
      by_cases hkV : k = V
      · subst hkV
        go_loopw [11] (fun i wr => ∃ j : Nat, j ≤ S ∧ i = .int .i64 j ∧ wr.ownsRow W.heap.size 2 1 (.slice (some ⟨g, 0, none⟩) S c3) S (fdV xs (L k) S j) ∧ Below w.heap.size w wr ∧ (∀ q, q < 8 → wr.cell? ⟨w.heap.size, q, none⟩ = some (.bool (decide (q = k))))) (fun i _ => S - (intOf i).toNat)
        case atStart => exact ⟨0, Nat.zero_le _, rfl, by have := HS.out.1; rw [if_pos (Nat.le_refl _)] at this; exact this, HS.out.2.1, HS.out.2.2⟩
        case round =>
          rename_i hrel
          clear HS
          obtain ⟨j, hj, rfl, hC, hB, hset⟩ := hrel
          have hsk := hset k hk8
          rw [decide_eq_true (show k = k from rfl)] at hsk
          by_cases hjt : j < S
          · have hjI : (j : Int) < (S : Int) := by omega
            have hj0 : (0 : Int) ≤ (j : Int) := by omega
            obtain ⟨b', off', hrb, r1⟩ := HE.out j hjt
            subst hrb
            have r0 := hB.keep HE2.out
            replace r1 := hB.keep r1
            have r2 := (hC.cellAt j (by omega)).trans (fdV_get xs (L k) hjt)
            have hfk : fdK xs (L k) j j = xs.getD j 0 := by unfold fdK; rw [if_neg (by omega)]
            rw [hfk] at r2
            have r3 := hC.frozenAt j
            have hCd : wr.drew.ownsRow W.heap.size 2 1 (.slice (some ⟨g, 0, none⟩) S c3) S (fdV xs (L k) S j) := ownsRow_chg hC ((Qt.refl wr).drew.chg 0 0) (fun _ _ => .inr (Nat.zero_le _))
            have hst := (hCd.stored j (.int .i64 (xs.getD j 0 - L k j))).1
            rw [fdV_put xs (L k) hjt] at hst
            have HF := Lib.hid (⟨hst, hB.drew.setCell (p := ⟨g, j, none⟩) (Nat.le_of_lt hwg) _, fun q hq => cell_oth (hset q hq) (.inl (by omega))⟩ : _ ∧ Below w.heap.size w (wr.drew.setCell ⟨g, j, none⟩ (.int .i64 (xs.getD j 0 - L k j))) ∧ (∀ q, q < 8 → (wr.drew.setCell ⟨g, j, none⟩ (.int .i64 (xs.getD j 0 - L k j))).cell? ⟨w.heap.size, q, none⟩ = some (.bool (decide (q = k)))))
            have hb1 := HLB.out k j
            have hb2 := HXB.out j
            clear hst hC hB hfk hset hCd
            generalize xs.getD j 0 = x at r2 HF hb2
            generalize L k j = y at r1 HF hb1
            have d2 : wr.drew.cell? ⟨g, j, none⟩ = some (.int .i64 x) := r2
            have d3 : wr.drew.frozen? ⟨g, j, none⟩ = false := r3
            have m0 : IntKind.i64.wrap (1 * y) = y := by rw [Int.one_mul]; exact IntWalk.i64_in _ (by omega)
            have m0' : IntKind.i64.wrap y = y := IntWalk.i64_in _ (by clear m0; omega)
            have m0'' : wrap64 y = y := IntWalk.wrap64_in _ (by clear m0 m0'; omega)
            have m1 : IntKind.i64.wrap (x - y) = x - y := IntWalk.i64_in _ (by clear m0 m0' m0''; omega)
            have m2 : wrap64 (x - y) = x - y := IntWalk.wrap64_in _ (by clear m1 m0 m0' m0''; omega)
            clear hb1 hb2
            go_wp2
            go_still_tail 17, (by kernel_rfl)
            change wpList _ _ _ _ _ wr.drew
            clear m0 m0' m0'' m1 m2 r0 r1 r2 r3 hsk
            generalize wr.drew = V9 at HF d2 d3 ⊢
            go_wp2
            go_roundw
            case rel => exact ⟨j+1, by omega, by go_num, HF.out⟩
            case measure => simp [intOf]; omega
          · obtain rfl : j = S := by omega
            have hjI : ¬ (j : Int) < (j : Int) := by omega
            have hjd : decide ((j : Int) < (j : Int)) = false := by simp
            have HF := Lib.hid (⟨by rw [if_neg (by omega)]; exact hC, hB, hset⟩ : wr.ownsRow W.heap.size 2 1 (.slice (some ⟨g, 0, none⟩) j c3) j (fdV xs (L k) j (if k + 1 ≤ k then 0 else j)) ∧ _ ∧ _)
            clear hC hB hset hsk
            go_wp2
            go_roundw
            case rel => exact ⟨k+1, by omega, by go_num, HF.out⟩
            case measure => simp [intOf]; omega
      · go_loopw [11] (fun i wr => i = .int .i64 0 ∧ wr = U) (fun i _ => 0)
        case atStart => exact ⟨rfl, rfl⟩
        case round =>
          rename_i hrel
          obtain ⟨rfl, rfl⟩ := hrel
          have hsk := HS.out.2.2 k hk8
          rw [decide_eq_false hkV] at hsk
          have hS0 : (0 : Int) < (S : Int) := by omega
          have hS0n : 0 < S := by omega
          have HF := Lib.hid (⟨by have := HS.out.1; rw [show (if k + 1 ≤ V then 0 else S) = (if k ≤ V then 0 else S) by split <;> split <;> omega]; exact this, HS.out.2⟩ : wr.ownsRow W.heap.size 2 1 (.slice (some ⟨g, 0, none⟩) S c3) S (fdV xs (L V) S (if k + 1 ≤ V then 0 else S)) ∧ _)
          clear HS
          go_wp2
          go_roundw
          case rel => exact ⟨k+1, by omega, by go_num, HF.out⟩
          case measure => simp [intOf]; omega
    · obtain rfl : k = S := by omega
      rw [if_neg (by omega), fdV_last] at hC
      have hO : OwI w.heap.size U.heap.size U (.slice (some ⟨g, 0, none⟩) k c3) (fdN xs (L V) k) := (OwI.mk (by simpa using hC) (by omega) (fun x hx => by
        unfold fdN at hx
        obtain ⟨j, _, rfl⟩ := List.mem_map.1 hx
        have h1 := HLB.out V j
        have h2 := HXB.out j
        unfold I64; omega)).mono (Nat.le_of_lt hz) (Nat.le_refl _)
      have HF := Lib.hid (⟨hO, hB⟩ : _ ∧ _)
      have hkI : ¬ (k : Int) < (k : Int) := by omega
      clear hC hO hB hset
      go_wp2
      go_ret
      exact ⟨some ⟨g, 0, none⟩, c3, rfl, HF.out⟩
set_option maxHeartbeats 3200000 in
theorem specFv {lo hi lo' hi' : Nat} (s : Int) (a : Option Addr) (n c : Nat) (xss : List (List Int)) (a2 : Option Addr) (n2 c2 : Nat) (xs : List Int) (v : Int) (w : World) (h : RdR lo hi w (.slice a n c) xss) (hn : xss.length = n) (h2 : RdI lo' hi' w (.slice a2 n2 c2) xs) (hn2 : xs.length = n2) :
    Calls Try.prog 19 #[.agg #[.int .i64 s, .slice a n c], .slice a2 n2 c2, .int .i64 v] w fun e w' => ∃ a' c', e = .returned (.tuple #[.slice a' (fvOf s xss xs v).1.length c', .int .i64 (fvOf s xss xs v).2]) ∧ OwI w.heap.size w'.heap.size w' (.slice a' (fvOf s xss xs v).1.length c') (fvOf s xss xs v).1 ∧ Below w.heap.size w w' := by
  have hb0 : ∀ o, Below w.heap.size w (w.alloc o) := fun o => (Below.refl _ _).alloc (Nat.le_refl _) o
  have HI := Lib.hid (fun (G : Nat) W (hB : Below w.heap.size w W) (hG : W.cell? ⟨G, 0, none⟩ = some (.slice a2 n2 c2)) => l10Chips1 s a n c xss a2 n2 c2 xs G W (h.below hB) hn (h2.below hB) hn2 hG)
  by_cases hc0 : chipsCode s xss xs = 0
  · obtain ⟨hg, hl, hx⟩ := chips_ok hc0
    have hg4 := grB_iff hg
    rw [hc0] at HI
    obtain ⟨S, rfl⟩ : ∃ S : Nat, s = (S : Int) := ⟨s.toNat, by omega⟩
    have hS8 : S ≤ 8 := by omega
    have hS1 : 1 ≤ S := by omega
    obtain rfl : n2 = S := by omega
    have HX := Lib.hid (fun W => l01In v 0 ((n2 : Int) - 1) W)
    rw [inR_fv] at HX
    have m1 : IntKind.i64.wrap ((n2 : Int) - 1) = (n2 : Int) - 1 := IntWalk.i64_in _ (by omega)
    have m2 : wrap64 ((n2 : Int) - 1) = (n2 : Int) - 1 := IntWalk.wrap64_in _ (by clear m1; omega)
    cases hin : inR v (n2 : Int) with
    | false =>
      have hd : fvC (n2 : Int) xss xs v = 2 := by unfold fvC; rw [if_pos hc0, hin]; rfl
      have e2 : fvOf (n2 : Int) xss xs v = ([], 2) := by unfold fvOf; rw [hd, if_neg (by decide)]
      rw [e2]
      rw [hin] at HX
      clear h hn h2 hn2 hd e2 hc0 hg hl hx hg4 hin
      go_enter Try.func19, Try.ntmps19
      go_wp2_with fail
      refine calls_gen (fun W => Below w.heap.size w W ∧ (W.cell? ⟨w.heap.size, 0, none⟩ = some (.int .i64 (n2 : Int)) ∧ W.cell? ⟨w.heap.size, 1, none⟩ = some (.slice a n c)) ∧ W.cell? ⟨w.heap.size + 1, 0, none⟩ = some (.slice a2 n2 c2)) ⟨(hb0 _).alloc (by simp) _, ⟨by go_simp, by go_simp⟩, by go_simp⟩ ?_
      rintro W ⟨hB, ⟨k0, k1⟩, g0⟩
      refine (HI.out _ W hB g0).mono ?_
      rintro e w1 ⟨rfl, b1⟩
      replace hB := hB.next b1
      replace k0 := b1.keep k0
      replace k1 := b1.keep k1
      clear b1 HI g0
      go_wp2_with fail
      refine (HX.out w1).mono ?_
      rintro e w2 ⟨rfl, q2⟩
      replace hB := hB.qt q2
      clear q2 HX
      go_wp2
      go_ret2
      exact ⟨none, 0, rfl, OwI.nil' _ _ _, hB⟩
    | true =>
      have hd : fvC (n2 : Int) xss xs v = 0 := by unfold fvC; rw [if_pos hc0, if_pos hin]
      obtain ⟨V, rfl⟩ : ∃ V : Nat, v = (V : Int) := ⟨v.toNat, by unfold inR at hin; simp at hin; omega⟩
      have hVS : V < n2 := by unfold inR at hin; simp at hin; omega
      have eR : fvOf (n2 : Int) xss xs (V : Int) = if (fdN xs (lapS (pairs xss) n V) n2).all chB then (fdN xs (lapS (pairs xss) n V) n2, 0) else ([], 3) := by unfold fvOf; rw [if_pos hd, Int.toNat_natCast, Int.toNat_natCast, hn]
      rw [hin] at HX
      have HLP := Lib.hid (fun W (hB : Below w.heap.size w W) => l10Laplacian n2 a n c xss W (h.below hB) hn hg)
      have hLB := lapF_bd hg
      rw [hn] at hLB
      have HFD := Lib.hid (fun (lo9 hi9 : Nat) (ra : Option Addr) (rc : Nat) W (hB : Below w.heap.size w W) (hr : RdR lo9 hi9 W (.slice ra n2 rc) (tab n2 (lapS (pairs xss) n))) => l10Fire1 ra n2 rc (lapS (pairs xss) n) a2 c2 xs V W hr (h2.below hB) hn2 hVS hS8 hLB (fun k => ch_get hx k))
      obtain ⟨ys, hys⟩ : ∃ ys, ys = fdN xs (lapS (pairs xss) n V) n2 := ⟨_, rfl⟩
      have hyl : ys.length = n2 := by rw [hys]; exact fdN_len _ _ _
      rw [← hys] at eR HFD
      have HCH := Lib.hid (fun (lo9 hi9 G : Nat) (a9 : Option Addr) (c9 : Nat) W (hB : Below w.heap.size w W) (ho : RdI lo9 hi9 W (.slice a9 n2 c9) ys) (hG : W.cell? ⟨G, 0, none⟩ = some (.slice a9 n2 c9)) => l10Chips1 (n2 : Int) a n c xss a9 n2 c9 ys G W (h.below hB) hn ho hyl hG)
      have hcB : chipsCode (n2 : Int) xss ys = if ys.all chB then 0 else 2 := by unfold chipsCode chipsB; rw [if_pos hg, hyl]; simp
      rw [hcB] at HCH
      have HYL := Lib.hid hyl
      generalize lapS (pairs xss) n = LM at HLP HFD hLB
      obtain ⟨R, hRR⟩ : ∃ R : List Int × Int, R = (if ys.all chB then (ys, 0) else ([], 3)) := ⟨_, rfl⟩
      rw [eR, ← hRR]
      have HRR := Lib.hid hRR
      have hV8 : V < 8 := by omega
      clear h hn h2 hn2 hd hc0 hg hl hx hg4 hin eR hLB hys hyl hcB hRR
      go_enter Try.func19, Try.ntmps19
      go_wp2_with fail
      refine calls_gen (fun W => Below w.heap.size w W ∧ (W.cell? ⟨w.heap.size, 0, none⟩ = some (.int .i64 (n2 : Int)) ∧ W.cell? ⟨w.heap.size, 1, none⟩ = some (.slice a n c)) ∧ W.cell? ⟨w.heap.size + 1, 0, none⟩ = some (.slice a2 n2 c2) ∧ w.heap.size < W.heap.size) ⟨(hb0 _).alloc (by simp) _, ⟨by go_simp, by go_simp⟩, by go_simp, by simp; omega⟩ ?_
      rintro W ⟨hB, ⟨k0, k1⟩, g0, hz⟩
      refine (HI.out _ W hB g0).mono ?_
      rintro e w1 ⟨rfl, b1⟩
      replace hB := hB.next b1
      replace k0 := b1.keep k0
      replace k1 := b1.keep k1
      replace hz := Nat.lt_of_lt_of_le hz b1.size
      clear b1 HI g0
      go_wp2_with fail
      refine (HX.out w1).mono ?_
      rintro e w2 ⟨rfl, q2⟩
      replace hB := hB.qt q2
      replace k0 := q2.cell k0
      replace k1 := q2.cell k1
      replace hz := Nat.lt_of_lt_of_le hz q2.below.size
      clear q2 HX m1 m2
      have hA := (Below.refl w2.heap.size w2).alloc (Nat.le_refl _) (.cells #[.bool false, .bool false, .bool false, .bool false, .bool false, .bool false, .bool false, .bool false] 64)
      have hc8 : ∀ k, k < 8 → (w2.alloc (.cells #[.bool false, .bool false, .bool false, .bool false, .bool false, .bool false, .bool false, .bool false] 64)).cell? ⟨w2.heap.size, k, none⟩ = some (.bool false) := by
        intro k hk
        rcases k with _ | _ | _ | _ | _ | _ | _ | _ | k
        case succ.succ.succ.succ.succ.succ.succ.succ => omega
        all_goals go_simp
      have hcV := hc8 V hV8
      have hVI : (V : Int) < 8 := by omega
      have hV0 : (0 : Int) ≤ (V : Int) := by omega
      have hset : ∀ k, k < 8 → ((w2.alloc (.cells #[.bool false, .bool false, .bool false, .bool false, .bool false, .bool false, .bool false, .bool false] 64)).setCell ⟨w2.heap.size, V, none⟩ (.bool true)).cell? ⟨w2.heap.size, k, none⟩ = some (.bool (decide (k = V))) := by
        intro k hk
        by_cases e : k = V
        · subst e
          rw [World.cell?_setCell_same _ _ _ hcV]; simp
        · rw [cell_oth (hc8 k hk) (.inr e)]; simp [e]
      have hA2 : Below w2.heap.size w2 ((w2.alloc (.cells #[.bool false, .bool false, .bool false, .bool false, .bool false, .bool false, .bool false, .bool false] 64)).setCell ⟨w2.heap.size, V, none⟩ (.bool true)) := hA.setCell (p := ⟨w2.heap.size, V, none⟩) (Nat.le_refl _) _
      have HB2 := Lib.hid (⟨hB.next hA2, hA2.keep k0, hA2.keep k1, hset⟩ : _ ∧ _ ∧ _ ∧ _)
      clear hc8 hset hA hA2 hB
      go_wp2
      obtain ⟨X, hX⟩ : ∃ X, X = w2.heap.size := ⟨_, rfl⟩
      have hEq : (w2.alloc (.cells #[.bool false, .bool false, .bool false, .bool false, .bool false, .bool false, .bool false, .bool false] 64)).setCell ⟨w2.heap.size, V, none⟩ (.bool true) = w2.alloc (.cells ([Value.bool false, .bool false, .bool false, .bool false, .bool false, .bool false, .bool false, .bool false].set V (.bool true)).toArray 64) := by go_simp
      rw [hEq] at HB2
      clear hEq
      rw [← hX] at HB2 ⊢
      obtain ⟨V4, hV4⟩ : ∃ V4, V4 = w2.alloc (.cells ([Value.bool false, .bool false, .bool false, .bool false, .bool false, .bool false, .bool false, .bool false].set V (.bool true)).toArray 64) := ⟨_, rfl⟩
      rw [← hV4] at HB2 ⊢
      clear hV4 hcV k0 k1 hX
      obtain ⟨hB, k0, k1, hset⟩ := HB2.out
      have x0 := hset 0 (by decide)
      have x1 := hset 1 (by decide)
      have x2 := hset 2 (by decide)
      have x3 := hset 3 (by decide)
      have x4 := hset 4 (by decide)
      have x5 := hset 5 (by decide)
      have x6 := hset 6 (by decide)
      have x7 := hset 7 (by decide)
      have HLQ := Lib.hid (HLP.out V4.drew hB.drew)
      have HSS := Lib.hid (⟨k0, k1, x0, x1, x2, x3, x4, x5, x6, x7⟩ : V4.cell? ⟨w.heap.size, 0, none⟩ = some (.int .i64 (n2 : Int)) ∧ V4.cell? ⟨w.heap.size, 1, none⟩ = some (.slice a n c) ∧ V4.cell? ⟨X, 0, none⟩ = some (.bool (decide (0 = V))) ∧ V4.cell? ⟨X, 1, none⟩ = some (.bool (decide (1 = V))) ∧ V4.cell? ⟨X, 2, none⟩ = some (.bool (decide (2 = V))) ∧ V4.cell? ⟨X, 3, none⟩ = some (.bool (decide (3 = V))) ∧ V4.cell? ⟨X, 4, none⟩ = some (.bool (decide (4 = V))) ∧ V4.cell? ⟨X, 5, none⟩ = some (.bool (decide (5 = V))) ∧ V4.cell? ⟨X, 6, none⟩ = some (.bool (decide (6 = V))) ∧ V4.cell? ⟨X, 7, none⟩ = some (.bool (decide (7 = V))))
      have HKP := Lib.hid (fun (W5 : World) (b : Below V4.drew.heap.size V4.drew W5) => (⟨b.keep k0, b.keep k1, b.keep x0, b.keep x1, b.keep x2, b.keep x3, b.keep x4, b.keep x5, b.keep x6, b.keep x7⟩ : W5.cell? ⟨w.heap.size, 0, none⟩ = some (.int .i64 (n2 : Int)) ∧ W5.cell? ⟨w.heap.size, 1, none⟩ = some (.slice a n c) ∧ W5.cell? ⟨X, 0, none⟩ = some (.bool (decide (0 = V))) ∧ W5.cell? ⟨X, 1, none⟩ = some (.bool (decide (1 = V))) ∧ W5.cell? ⟨X, 2, none⟩ = some (.bool (decide (2 = V))) ∧ W5.cell? ⟨X, 3, none⟩ = some (.bool (decide (3 = V))) ∧ W5.cell? ⟨X, 4, none⟩ = some (.bool (decide (4 = V))) ∧ W5.cell? ⟨X, 5, none⟩ = some (.bool (decide (5 = V))) ∧ W5.cell? ⟨X, 6, none⟩ = some (.bool (decide (6 = V))) ∧ W5.cell? ⟨X, 7, none⟩ = some (.bool (decide (7 = V)))))
      have HBB := Lib.hid hB
      have HFQ := Lib.hid (fun (ra : Option Addr) (rc : Nat) (W5 : World) (b : Below V4.drew.heap.size V4.drew W5) (ho : OwR V4.drew.heap.size W5.heap.size W5 (.slice ra n2 rc) (tab n2 LM)) => HFD.out _ _ ra rc W5 (HBB.out.drew.next b) ho.rd)
      clear hB hset HB2 HLP HFD
      go_region_held3 (fun W' => W'.cell? ⟨w.heap.size, 0, none⟩ = some (.int .i64 (n2 : Int)) ∧ W'.cell? ⟨w.heap.size, 1, none⟩ = some (.slice a n c) ∧ W'.cell? ⟨X, 0, none⟩ = some (.bool (decide (0 = V))) ∧ W'.cell? ⟨X, 1, none⟩ = some (.bool (decide (1 = V))) ∧ W'.cell? ⟨X, 2, none⟩ = some (.bool (decide (2 = V))) ∧ W'.cell? ⟨X, 3, none⟩ = some (.bool (decide (3 = V))) ∧ W'.cell? ⟨X, 4, none⟩ = some (.bool (decide (4 = V))) ∧ W'.cell? ⟨X, 5, none⟩ = some (.bool (decide (5 = V))) ∧ W'.cell? ⟨X, 6, none⟩ = some (.bool (decide (6 = V))) ∧ W'.cell? ⟨X, 7, none⟩ = some (.bool (decide (7 = V))))
        (first | (exact ⟨k0, k1, x0, x1, x2, x3, x4, x5, x6, x7⟩) | (exact S4) | (exact S5) | go_keep)
        (first
          | (go_at_call 56; with_reducible refine HLQ.out.mono ?_; rintro e w5 ⟨ra, rc, rfl, o5, b5⟩; have S4 := HKP.out w5 b5)
          | (go_at_call 55; with_reducible refine (HFQ.out ra rc w5 b5 o5).mono ?_; rintro e w6 ⟨a6, c6, rfl, o6, b6⟩; have S5 := HKP.out w6 (b5.next b6)))
      all_goals
        have hB6 := HBB.out.drew.next (b5.next b6)
        have hz6 : w.heap.size ≤ w5.heap.size := (HBB.out.drew.next b5).size
        obtain ⟨k0', k1', _, _, _, _, _, _, _, _⟩ := S5
        have HO6 := Lib.hid (⟨o6, hz6⟩ : _ ∧ _)
        have hA6 := (Below.refl w6.heap.size w6).alloc (Nat.le_refl _) (.cells #[.slice a6 n2 c6] 25)
        clear k0 k1 x0 x1 x2 x3 x4 x5 x6 x7 S4 o5 b5 o6 b6 HLQ HSS HKP HBB HFQ hz6
        go_wp2_with fail
        refine calls_gen (fun W7 => (Below w.heap.size w W7 ∧ Below w6.heap.size w6 W7) ∧ W7.cell? ⟨w6.heap.size, 0, none⟩ = some (.slice a6 n2 c6)) ⟨⟨hB6.next hA6, hA6⟩, by go_simp⟩ ?_
        rintro W7 ⟨⟨hB7, b7⟩, g7⟩
        refine (HCH.out _ _ _ _ _ W7 hB7 (HO6.out.1.below b7).rd g7).mono ?_
        rintro e w8 ⟨rfl, b8⟩
        have HF := Lib.hid (⟨((HO6.out.1.below b7).below b8).mono HO6.out.2 (Nat.le_trans b7.size b8.size), hB7.next b8⟩ : _ ∧ _)
        clear b7 b8 hB6 hB7 g7 HCH k0' k1' HO6 hA6
        cases hall : ys.all chB with
        | true =>
          have HRE := Lib.hid (show R = (ys, 0) by rw [HRR.out, hall]; rfl)
          have hif : ((if (true : Bool) = true then (0 : Int) else 2) != 0) = false := rfl
          clear HRR
          go_wp2
          go_ret2
          refine ⟨a6, c6, ?_, ?_, HF.out.2⟩
          · rw [HRE.out]
            show _ = Ending.returned (.tuple #[.slice a6 ys.length c6, .int .i64 0])
            rw [HYL.out]; rfl
          · rw [HRE.out]
            show OwI _ _ _ (.slice a6 ys.length c6) ys
            rw [HYL.out]; exact HF.out.1
        | false =>
          have HRE := Lib.hid (show R = ([], 3) by rw [HRR.out, hall]; rfl)
          have hif : ((if (false : Bool) = true then (0 : Int) else 2) != 0) = true := rfl
          clear HRR
          go_wp2
          go_ret2
          exact ⟨none, 0, by rw [HRE.out]; rfl, by rw [HRE.out]; exact OwI.nil' _ _ _, HF.out.2⟩
  · have hd : fvC s xss xs v = chipsCode s xss xs := by unfold fvC; rw [if_neg hc0]
    have e2 : fvOf s xss xs v = ([], chipsCode s xss xs) := by unfold fvOf; rw [hd, if_neg hc0]
    rw [e2]
    have hcb : (chipsCode s xss xs == 0) = false := by simpa using hc0
    have hcb2 : (chipsCode s xss xs != 0) = true := by simpa using hc0
    generalize chipsCode s xss xs = cd at HI hcb hcb2 ⊢
    clear h hn h2 hn2 hd hc0 e2
    go_enter Try.func19, Try.ntmps19
    go_wp2_with fail
    refine calls_gen (fun W => Below w.heap.size w W ∧ W.cell? ⟨w.heap.size + 1, 0, none⟩ = some (.slice a2 n2 c2)) ⟨(hb0 _).alloc (by simp) _, by go_simp⟩ ?_
    rintro W ⟨hB, g0⟩
    refine (HI.out _ W hB g0).mono ?_
    rintro e w1 ⟨rfl, b1⟩
    replace hB := hB.next b1
    clear b1 HI g0
    go_wp2
    go_ret2
    exact ⟨none, 0, rfl, OwI.nil' _ _ _, hB⟩
end Go.Proofs.Ytnblhkhdilkbeaa
