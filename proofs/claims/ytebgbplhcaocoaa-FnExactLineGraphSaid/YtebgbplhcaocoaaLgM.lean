/- meetingsOf: the edges of a line graph, by the program. -/
import Derived.Test.YtebgbplhcaocoaaLgI
import Derived.Test.YtebgbplhcaocoaaSwI
import Derived.Test.YtebgbplhcaocoaaCoreB
set_option linter.unusedSimpArgs false
set_option linter.unusedVariables false
set_option maxRecDepth 100000
namespace Go.Proofs.Ytebgbplhcaocoaa
open Go.RowKit

/-- what the first j ends of the edge i give with the edge k -/
def mtK (P Q : Nat → Nat) (i k : Nat) : Nat → List (Int × Int)
  | 0 => []
  | j + 1 => mtK P Q i k j ++ (if memB [(P k : Int), (Q k : Int)] (if j = 0 then P i else Q i) = true then [((i : Int), (k : Int))] else [])
def mtI (P Q : Nat → Nat) (i : Nat) : Nat → List (Int × Int)
  | 0 => []
  | k + 1 => mtI P Q i k ++ (if i < k then mtK P Q i k 2 else [])
def mtT (P Q : Nat → Nat) (n : Nat) : Nat → List (Int × Int)
  | 0 => []
  | i + 1 => mtT P Q n i ++ mtI P Q i n
theorem ite_len {α : Type} (c : Prop) [Decidable c] (x : α) : (if c then [x] else []).length ≤ 1 := by split <;> simp
theorem mtK_len (P Q : Nat → Nat) (i k j : Nat) : (mtK P Q i k j).length ≤ j := by
  induction j with
  | zero => exact Nat.le_refl _
  | succ j ih =>
    unfold mtK
    rw [List.length_append]
    exact Nat.add_le_add ih (ite_len _ _)
theorem mtI_len (P Q : Nat → Nat) (i k : Nat) : (mtI P Q i k).length ≤ 2 * k := by
  induction k with
  | zero => exact Nat.le_refl _
  | succ k ih =>
    have := mtK_len P Q i k 2
    unfold mtI
    rw [List.length_append]
    split <;> first | omega | (simp only [List.length_nil]; omega)
theorem mtI_low (P Q : Nat → Nat) (i : Nat) : ∀ k, k ≤ i + 1 → mtI P Q i k = []
  | 0, _ => rfl
  | k + 1, h => by
    unfold mtI
    rw [mtI_low P Q i k (by omega), if_neg (by omega)]
    rfl
theorem rd2 {w : World} {b o : Nat} {x y : Int} (hx : I64 x) (hy : I64 y) (h0 : w.cell? ⟨b, o, none⟩ = some (.int .i64 x)) (h1 : w.cell? ⟨b, o + 1, none⟩ = some (.int .i64 y)) : RdI 0 (b + 1) w (.slice (some ⟨b, o, none⟩) 2 2) [x, y] := by
  refine ⟨by simp, fun z hz => ?_, .inr ⟨b, o, 2, rfl, by simp, Nat.zero_le _, Nat.lt_succ_self _, fun j hj => ?_⟩⟩
  · simp at hz; rcases hz with rfl | rfl <;> assumption
  · have : j = 0 ∨ j = 1 := by simp at hj; omega
    rcases this with rfl | rfl
    · simpa using h0
    · simpa using h1

theorem news_2 (w : World) (t : TypeId) (x y : Value) : ∀ (j : Nat) (u : Value), [x, y][j]? = some u → (w.alloc (.cells #[x, y] t)).cell? (({ block := w.heap.size, off := 0 } : Addr).add j) = some u := by
  intro j u hj
  match j, hj with
  | 0, hj => simp at hj; subst hj; simp [Addr.add]
  | 1, hj => simp at hj; subst hj; simp [Addr.add]
theorem idxE0 (x y : Int) (w : World) : (Instr.index 83 (.agg #[.int .i64 x, .int .i64 y]) (.int .i64 0)).run Try.prog w = .ok (.int .i64 x) w := by kernel_rfl
theorem idxE1 (x y : Int) (w : World) : (Instr.index 83 (.agg #[.int .i64 x, .int .i64 y]) (.int .i64 1)).run Try.prog w = .ok (.int .i64 y) w := by kernel_rfl
set_option maxHeartbeats 6400000 in
theorem meetingsOf (a : Option Addr) (n c : Nat) (es : List (Int × Int)) (P Q : Nat → Nat) (w : World) (h : RdE w a es) (hn : es.length = n) (hn10 : n ≤ 10) (he : ∀ k, k < n → es.getD k (0, 0) = ((P k : Int), (Q k : Int)) ∧ P k < 8 ∧ Q k < 8) :
    Calls Try.prog 86 #[.slice a n c] w fun e w' => ∃ v, e = .returned v ∧ w'.ownsRow w.heap.size 83 2 v (mtT P Q n n).length (flat (mtT P Q n n)) ∧ Below w.heap.size w w' := by
  obtain ⟨i0, hi', z0, z1, z2⟩ := info_parts Try.info83
  have HC := Lib.hid (fun W (hB : Below w.heap.size w W) k (hk : k < n) => show ∃ b, a = some ⟨b, 0, none⟩ ∧ W.cell? ⟨b, k * 2, none⟩ = some (.int .i64 (P k : Int)) ∧ W.cell? ⟨b, k * 2 + 1, none⟩ = some (.int .i64 (Q k : Int)) by
    obtain ⟨b, h1, h2, h3, h4⟩ := h.below hB k (by omega)
    rw [(he k hk).1] at h3 h4
    exact ⟨b, h1, h3, h4⟩)
  have HE := Lib.hid (fun k (hk : k < n) => (he k hk).2)
  have HT := Lib.hid (fun i => show mtT P Q n (i + 1) = mtT P Q n i ++ mtI P Q i n from rfl)
  have HIL := Lib.hid (mtI_len P Q)
  have HTL := Lib.hid (fun i => show (mtT P Q n i).length ≤ i * (2 * n) by
    induction i with
    | zero => simp [mtT]
    | succ i ih => rw [HT.out, List.length_append, Nat.succ_mul]; have := HIL.out i n; omega)
  have HI := Lib.hid (fun i k (h : i < k) => show mtI P Q i (k + 1) = mtI P Q i k ++ mtK P Q i k 2 by show _ ++ (if i < k then _ else _) = _; rw [if_pos h])
  have HI0 := Lib.hid (fun i => mtI_low P Q i (i + 1) (Nat.le_refl _))
  have HK := Lib.hid (fun i k j => show mtK P Q i k (j + 1) = mtK P Q i k j ++ (if memB [(P k : Int), (Q k : Int)] (if j = 0 then P i else Q i) = true then [((i : Int), (k : Int))] else []) from rfl)
  have HKL := Lib.hid (mtK_len P Q)
  have HK0 := Lib.hid (fun i k => show mtK P Q i k 0 = [] from rfl)
  have HT0 := Lib.hid (show mtT P Q n 0 = [] from rfl)
  generalize mtT P Q n = T at *
  generalize mtI P Q = I at *
  generalize mtK P Q = K at *
  clear h hn he
  go_enter Try.func86, Try.ntmps86
  go_wp2
  go_loopw [11, 3] (fun v l wr => ∃ (i : Nat) (q : Value), i ≤ n ∧ v = .int .i64 i ∧ q = l ∧ wr.ownsRow w.heap.size 83 2 q (T i).length (flat (T i)) ∧ Below w.heap.size w wr) (fun v _ _ => n - (intOf v).toNat)
  case atStart => exact ⟨0, _, Nat.zero_le _, rfl, rfl, by rw [HT0.out]; exact World.ownsRow_nil _ _ _ _, Below.refl _ _⟩
  case round =>
    obtain ⟨i, l, hi, rfl, rfl, hO, hB⟩ := hrel
    by_cases hlt : i < n
    · have HCW := Lib.hid (HC.out wr hB i hlt)
      obtain ⟨b, rfl, e0, e1⟩ := HC.out wr hB i hlt
      have hin : (i : Int) < (n : Int) := by omega
      obtain ⟨I1, hI1⟩ : ∃ m, m = i + 1 := ⟨_, rfl⟩
      have t1 : IntKind.i64.wrap ((i : Int) + 1) = (I1 : Int) := by rw [show (i : Int) + 1 = (I1 : Int) by omega]; exact IntWalk.i64_in _ (by omega)
      have t2 : wrap64 ((i : Int) + 1) = (I1 : Int) := by rw [show (i : Int) + 1 = (I1 : Int) by clear t1; omega]; exact IntWalk.wrap64_in _ (by clear t1; omega)
      obtain ⟨X, hX⟩ : ∃ X, X = wr.heap.size := ⟨_, rfl⟩
      obtain ⟨V, hV⟩ : ∃ V, V = wr.alloc (.cells #[.int .i64 (P i : Int), .int .i64 (Q i : Int)] 83) := ⟨_, rfl⟩
      have HO := Lib.hid (show V.ownsRow w.heap.size 83 2 l (T i ++ I i (i + 1)).length (flat (T i ++ I i (i + 1))) ∧ Below w.heap.size w V ∧ V.cell? ⟨X, 0, none⟩ = some (.int .i64 (P i : Int)) ∧ V.cell? ⟨X, 1, none⟩ = some (.int .i64 (Q i : Int)) ∧ Hid (l.ownBlock ≠ some X) ∧ X < V.heap.size by
        rw [HI0.out, List.append_nil, hV]
        refine ⟨hO.alloc _, hB.alloc hB.size _, by rw [hX]; go_simp, by rw [hX]; go_simp, Lib.hid (fun e => ?_), by rw [hX]; simp⟩
        have := (hO.lt X e).2
        omega)
      have HV := Lib.hid (⟨hV, hX⟩ : _ ∧ _)
      clear hO hB hV hX e0 e1
      have e0 : wr.cell? ⟨b, i * 2, none⟩ = some (.int .i64 (P i : Int)) := by
        obtain ⟨b2, h1, h2, h3⟩ := HCW.out
        simp only [Option.some.injEq, Addr.mk.injEq, and_true] at h1
        subst h1
        exact h2
      have e1 : wr.cell? ⟨b, i * 2 + 1, none⟩ = some (.int .i64 (Q i : Int)) := by
        obtain ⟨b2, h1, h2, h3⟩ := HCW.out
        simp only [Option.some.injEq, Addr.mk.injEq, and_true] at h1
        subst h1
        exact h3
      go_wp2
      rw [← HV.out.1, ← HV.out.2]
      clear e0 e1 t1 t2 HCW
      go_loopw [6, 3] (fun v l wr => ∃ (k : Nat) (q : Value), i + 1 ≤ k ∧ k ≤ n ∧ v = .int .i64 k ∧ q = l ∧ wr.ownsRow w.heap.size 83 2 q (T i ++ I i k).length (flat (T i ++ I i k)) ∧ Below w.heap.size w wr ∧ wr.cell? ⟨X, 0, none⟩ = some (.int .i64 (P i : Int)) ∧ wr.cell? ⟨X, 1, none⟩ = some (.int .i64 (Q i : Int)) ∧ Hid (q.ownBlock ≠ some X) ∧ X < wr.heap.size) (fun v _ _ => n - (intOf v).toNat)
      case atStart => exact ⟨i + 1, _, Nat.le_refl _, by omega, by go_num, rfl, HO.out⟩
      case round =>
        rename_i hrel
        clear HO
        obtain ⟨k, l, hk1, hk, rfl, rfl, hO, hB, x0, x1, HNE, hXz⟩ := hrel
        by_cases hltk : k < n
        · have hkn : (k : Int) < (n : Int) := by omega
          have HO := Lib.hid (show _ ∧ _ ∧ _ ∧ _ ∧ _ ∧ _ from ⟨by rw [HK0.out i k, List.append_nil]; exact hO, hB, x0, x1, HNE, hXz⟩ : wr.ownsRow w.heap.size 83 2 l (T i ++ I i k ++ K i k 0).length (flat (T i ++ I i k ++ K i k 0)) ∧ Below w.heap.size w wr ∧ wr.cell? ⟨X, 0, none⟩ = some (.int .i64 (P i : Int)) ∧ wr.cell? ⟨X, 1, none⟩ = some (.int .i64 (Q i : Int)) ∧ Hid (l.ownBlock ≠ some X) ∧ X < wr.heap.size)
          clear hO hB
          go_wp2
          clear x0 x1
          go_loopw [25, 3] (fun v l wr => ∃ (j : Nat) (q : Value), j ≤ 2 ∧ v = .int .i64 j ∧ q = l ∧ wr.ownsRow w.heap.size 83 2 q (T i ++ I i k ++ K i k j).length (flat (T i ++ I i k ++ K i k j)) ∧ Below w.heap.size w wr ∧ wr.cell? ⟨X, 0, none⟩ = some (.int .i64 (P i : Int)) ∧ wr.cell? ⟨X, 1, none⟩ = some (.int .i64 (Q i : Int)) ∧ Hid (q.ownBlock ≠ some X) ∧ X < wr.heap.size) (fun v _ _ => 2 - (intOf v).toNat)
          case atStart => exact ⟨0, _, by omega, rfl, rfl, HO.out⟩
          case round =>
            rename_i hrel
            clear HO HNE hXz
            obtain ⟨j, l, hj, rfl, rfl, hO, hB, x0, x1, HNE, hXz⟩ := hrel
            by_cases hltj : j < 2
            · obtain ⟨b2, hbe, u0, u1⟩ := HC.out wr hB k hltk
              simp only [Option.some.injEq, Addr.mk.injEq, and_true] at hbe
              subst hbe
              obtain ⟨hp8, hq8⟩ := HE.out k hltk
              have hlen : (T i ++ I i k ++ K i k j).length ≤ 300 := by
                rw [List.length_append, List.length_append]
                have h1 := HTL.out i
                have h2 := HIL.out i k
                have h3 := HKL.out i k j
                have h4 := Nat.mul_le_mul (show i ≤ 10 by omega) (show 2 * n ≤ 20 by omega)
                omega
              have HS := Lib.hid (fun e => slContains (some ⟨b, k * 2, none⟩) 2 2 [(P k : Int), (Q k : Int)] e wr (rd2 (by unfold I64; omega) (by unfold I64; omega) u0 u1) rfl)
              clear hp8 hq8
              rcases (show j = 0 ∨ j = 1 by omega) with rfl | rfl
              · have hkk : K i k (0 + 1) = K i k 0 ++ (if memB [(P k : Int), (Q k : Int)] (P i) = true then [((i : Int), (k : Int))] else []) := HK.out i k 0
                have HS1 := Lib.hid (HS.out (P i))
                generalize memB [(P k : Int), (Q k : Int)] (P i) = m at hkk HS1
                have HST := Lib.hid (show T i ++ I i k ++ K i k (0 + 1) = (T i ++ I i k ++ K i k 0) ++ (if m = true then [((i : Int), (k : Int))] else []) by rw [hkk, List.append_assoc (T i ++ I i k)])
                generalize T i ++ I i k ++ K i k 0 = A at hO hlen HST
                have HA := Lib.hid (⟨hO, hB, hXz⟩ : _ ∧ _ ∧ _)
                clear hkk HS hO hB hXz
                have hix := idxE0 (P i : Int) (Q i : Int)
                go_wp2_with fail
                refine HS1.out.mono ?_
                clear hix
                cases m with
                | false =>
                  rintro e w4 ⟨rfl, q4⟩
                  have HF := Lib.hid (show w4.ownsRow w.heap.size 83 2 l (T i ++ I i k ++ K i k (0 + 1)).length (flat (T i ++ I i k ++ K i k (0 + 1))) by
                    rw [HST.out, if_neg (by simp), List.append_nil]; exact ownsRow_chg HA.out.1 (q4.chg 0 0) (fun _ _ => .inr (Nat.zero_le _)))
                  have HG := Lib.hid (⟨HA.out.2.1.qt q4, q4.cell x0, q4.cell x1, HNE, Nat.lt_of_lt_of_le HA.out.2.2 q4.below.size⟩ : _ ∧ _ ∧ _ ∧ _ ∧ _)
                  clear q4 HS1 u0 u1 x0 x1
                  go_wp2
                  go_roundw
                  case rel => exact ⟨0 + 1, _, by omega, by go_num, rfl, HF.out, HG.out⟩
                  case measure => simp [intOf]
                | true =>
                  rintro e w4 ⟨rfl, q4⟩
                  have hO4 := ownsRow_chg HA.out.1 (q4.chg 0 0) (fun _ _ => .inr (Nat.zero_le _))
                  have hsz4 := (HA.out.2.1.qt q4).size
                  have hX4 := Nat.lt_of_lt_of_le HA.out.2.2 q4.below.size
                  have HB4 := Lib.hid (⟨HA.out.2.1.qt q4, q4.cell x0, q4.cell x1⟩ : _ ∧ _ ∧ _)
                  clear q4 HS1 u0 u1 x0 x1
                  go_wp2_with (at_builtin; refine wpList_append_lies _ rfl _ _ 79 rfl w.heap.size 83 i0 (.agg #[.int .i64 0, .int .i64 0]) 2 16 Try.underlying79 hi' z0 z1 z2 rfl (by decide) _ _ _ rfl (hO4.alloc _) ⟨w4.heap.size, 0, none⟩ 1 1 [.int .i64 (i : Int), .int .i64 (k : Int)] rfl rfl ?c1 ?c2 (by decide) ?c3 ?c4 ?c5 _ rfl ?_)
                  case c1 => exact news_2 _ _ _ _
                  case c2 => intro u hu; simp at hu; rcases hu with rfl | rfl <;> rfl
                  case c3 => unfold maxLen; omega
                  case c4 => omega
                  case c5 => simp; omega
                  intro g5 c5 w5 hown5 hgr hlie hlt5
                  have hba := (Below.refl w4.heap.size w4).alloc (Nat.le_refl _) (.cells #[.int .i64 (i : Int), .int .i64 (k : Int)] 83)
                  have HG := Lib.hid (⟨(HB4.out.1.alloc hsz4 _).grown hgr (by simp; omega) (fun j hj => (hO4.lt j hj).1), hgr.cell (hba.keep HB4.out.2.1) (fun e => HNE.out e.symm), hgr.cell (hba.keep HB4.out.2.2) (fun e => HNE.out e.symm), Lib.hid (fun e => by
                    have e2 : g5 = X := by simpa [Value.ownBlock] using e
                    rcases hlie with h | h
                    · exact HNE.out (by rw [h, e2])
                    · (try simp at h); omega), Nat.lt_of_lt_of_le (Nat.lt_of_lt_of_le hX4 hba.size) hgr.size⟩ : _ ∧ _ ∧ _ ∧ Hid ((Value.slice (some ⟨g5, 0, none⟩) (A.length + 1) c5).ownBlock ≠ some X) ∧ _)
                  have HF := Lib.hid (show w5.ownsRow w.heap.size 83 2 (.slice (some ⟨g5, 0, none⟩) (A.length + 1) c5) (T i ++ I i k ++ K i k (0 + 1)).length (flat (T i ++ I i k ++ K i k (0 + 1))) by
                    rw [HST.out, if_pos (by trivial), List.length_append, flat_snoc]; exact hown5)
                  clear hgr hlie hlt5 hba hown5 hO4 hsz4 hX4
                  go_wp2
                  go_roundw
                  case rel => exact ⟨0 + 1, _, by omega, by go_num, rfl, HF.out, HG.out⟩
                  case measure => simp [intOf]
              · have hkk : K i k (1 + 1) = K i k 1 ++ (if memB [(P k : Int), (Q k : Int)] (Q i) = true then [((i : Int), (k : Int))] else []) := HK.out i k 1
                have HS1 := Lib.hid (HS.out (Q i))
                generalize memB [(P k : Int), (Q k : Int)] (Q i) = m at hkk HS1
                have HST := Lib.hid (show T i ++ I i k ++ K i k (1 + 1) = (T i ++ I i k ++ K i k 1) ++ (if m = true then [((i : Int), (k : Int))] else []) by rw [hkk, List.append_assoc (T i ++ I i k)])
                generalize T i ++ I i k ++ K i k 1 = A at hO hlen HST
                have HA := Lib.hid (⟨hO, hB, hXz⟩ : _ ∧ _ ∧ _)
                clear hkk HS hO hB hXz
                have hix := idxE1 (P i : Int) (Q i : Int)
                go_wp2_with fail
                refine HS1.out.mono ?_
                clear hix
                cases m with
                | false =>
                  rintro e w4 ⟨rfl, q4⟩
                  have HF := Lib.hid (show w4.ownsRow w.heap.size 83 2 l (T i ++ I i k ++ K i k (1 + 1)).length (flat (T i ++ I i k ++ K i k (1 + 1))) by
                    rw [HST.out, if_neg (by simp), List.append_nil]; exact ownsRow_chg HA.out.1 (q4.chg 0 0) (fun _ _ => .inr (Nat.zero_le _)))
                  have HG := Lib.hid (⟨HA.out.2.1.qt q4, q4.cell x0, q4.cell x1, HNE, Nat.lt_of_lt_of_le HA.out.2.2 q4.below.size⟩ : _ ∧ _ ∧ _ ∧ _ ∧ _)
                  clear q4 HS1 u0 u1 x0 x1
                  go_wp2
                  go_roundw
                  case rel => exact ⟨1 + 1, _, by omega, by go_num, rfl, HF.out, HG.out⟩
                  case measure => simp [intOf]
                | true =>
                  rintro e w4 ⟨rfl, q4⟩
                  have hO4 := ownsRow_chg HA.out.1 (q4.chg 0 0) (fun _ _ => .inr (Nat.zero_le _))
                  have hsz4 := (HA.out.2.1.qt q4).size
                  have hX4 := Nat.lt_of_lt_of_le HA.out.2.2 q4.below.size
                  have HB4 := Lib.hid (⟨HA.out.2.1.qt q4, q4.cell x0, q4.cell x1⟩ : _ ∧ _ ∧ _)
                  clear q4 HS1 u0 u1 x0 x1
                  go_wp2_with (at_builtin; refine wpList_append_lies _ rfl _ _ 79 rfl w.heap.size 83 i0 (.agg #[.int .i64 0, .int .i64 0]) 2 16 Try.underlying79 hi' z0 z1 z2 rfl (by decide) _ _ _ rfl (hO4.alloc _) ⟨w4.heap.size, 0, none⟩ 1 1 [.int .i64 (i : Int), .int .i64 (k : Int)] rfl rfl ?c1 ?c2 (by decide) ?c3 ?c4 ?c5 _ rfl ?_)
                  case c1 => exact news_2 _ _ _ _
                  case c2 => intro u hu; simp at hu; rcases hu with rfl | rfl <;> rfl
                  case c3 => unfold maxLen; omega
                  case c4 => omega
                  case c5 => simp; omega
                  intro g5 c5 w5 hown5 hgr hlie hlt5
                  have hba := (Below.refl w4.heap.size w4).alloc (Nat.le_refl _) (.cells #[.int .i64 (i : Int), .int .i64 (k : Int)] 83)
                  have HG := Lib.hid (⟨(HB4.out.1.alloc hsz4 _).grown hgr (by simp; omega) (fun j hj => (hO4.lt j hj).1), hgr.cell (hba.keep HB4.out.2.1) (fun e => HNE.out e.symm), hgr.cell (hba.keep HB4.out.2.2) (fun e => HNE.out e.symm), Lib.hid (fun e => by
                    have e2 : g5 = X := by simpa [Value.ownBlock] using e
                    rcases hlie with h | h
                    · exact HNE.out (by rw [h, e2])
                    · (try simp at h); omega), Nat.lt_of_lt_of_le (Nat.lt_of_lt_of_le hX4 hba.size) hgr.size⟩ : _ ∧ _ ∧ _ ∧ Hid ((Value.slice (some ⟨g5, 0, none⟩) (A.length + 1) c5).ownBlock ≠ some X) ∧ _)
                  have HF := Lib.hid (show w5.ownsRow w.heap.size 83 2 (.slice (some ⟨g5, 0, none⟩) (A.length + 1) c5) (T i ++ I i k ++ K i k (1 + 1)).length (flat (T i ++ I i k ++ K i k (1 + 1))) by
                    rw [HST.out, if_pos (by trivial), List.length_append, flat_snoc]; exact hown5)
                  clear hgr hlie hlt5 hba hown5 hO4 hsz4 hX4
                  go_wp2
                  go_roundw
                  case rel => exact ⟨1 + 1, _, by omega, by go_num, rfl, HF.out, HG.out⟩
                  case measure => simp [intOf]
            · obtain rfl : j = 2 := by omega
              have HF := Lib.hid (show wr.ownsRow w.heap.size 83 2 l (T i ++ I i (k + 1)).length (flat (T i ++ I i (k + 1))) by rw [HI.out i k (by omega), ← List.append_assoc]; exact hO)
              go_wp2
              go_roundw
              case rel => exact ⟨k+1, _, by omega, by omega, by go_num, rfl, HF.out, hB, x0, x1, HNE, hXz⟩
              case measure => simp [intOf]; omega
        · obtain rfl : k = n := by omega
          have HF := Lib.hid (show wr.ownsRow w.heap.size 83 2 l (T (i + 1)).length (flat (T (i + 1))) by rw [HT.out]; exact hO)
          go_wp2
          go_roundw
          case rel => exact ⟨i+1, _, by omega, by go_num, rfl, HF.out, hB⟩
          case measure => simp [intOf]; omega
    · obtain rfl : i = n := by omega
      go_wp2
      go_ret
      exact ⟨_, rfl, hO, hB⟩

end Go.Proofs.Ytebgbplhcaocoaa
