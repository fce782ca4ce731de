/- Graphs of rows of 0 and 1: plain facts, and the program's. -/
import Derived.Test.YtolipjemabmlkaaSimP
import Derived.Test.YtolipjemabmlkaaCoreB
import Derived.Deep.AppendLies
set_option linter.unusedSimpArgs false
set_option linter.unusedVariables false
set_option maxRecDepth 100000
namespace Go.Proofs.Ytolipjemabmlkaa
open Go.RowKit

/-- the edges i, j with i < j < m -/
def smR (f : Nat → Nat → Int) (i : Nat) : Nat → List (Int × Int)
  | 0 => []
  | m + 1 => if i < m ∧ f i m ≠ 0 then smR f i m ++ [((i : Int), (m : Int))] else smR f i m
def smT (f : Nat → Nat → Int) (S : Nat) : Nat → List (Int × Int)
  | 0 => []
  | k + 1 => smT f S k ++ smR f k S
theorem smR_low (f : Nat → Nat → Int) (i : Nat) : ∀ m, m ≤ i + 1 → smR f i m = []
  | 0, _ => rfl
  | m + 1, h => by
    unfold smR
    rw [if_neg (by omega)]
    exact smR_low f i m (by omega)
theorem smR_in {f : Nat → Nat → Int} {i m : Nat} (h : i < m) (hf : f i m ≠ 0) : smR f i (m + 1) = smR f i m ++ [((i : Int), (m : Int))] := by
  show (if i < m ∧ f i m ≠ 0 then _ else _) = _
  rw [if_pos ⟨h, hf⟩]
theorem smR_out {f : Nat → Nat → Int} {i m : Nat} (hf : f i m = 0) : smR f i (m + 1) = smR f i m := by
  show (if i < m ∧ f i m ≠ 0 then _ else _) = _
  rw [if_neg (fun e => e.2 hf)]
theorem smR_len (f : Nat → Nat → Int) (i : Nat) : ∀ m, (smR f i m).length ≤ m
  | 0 => Nat.le_refl _
  | m + 1 => by
    have := smR_len f i m
    unfold smR
    split
    · simp; omega
    · omega
theorem smT_len (f : Nat → Nat → Int) (S : Nat) (hS : S ≤ 8) : ∀ k, (smT f S k).length ≤ 8 * k
  | 0 => Nat.le_refl _
  | k + 1 => by
    have := smT_len f S hS k
    have h2 := smR_len f k S
    unfold smT
    simp; omega
theorem smR_mem {f : Nat → Nat → Int} {i : Nat} : ∀ m, ∀ e ∈ smR f i m, e.1 = (i : Int) ∧ 0 ≤ e.2 ∧ e.2 < (m : Int)
  | 0, e, h => by simp [smR] at h
  | m + 1, e, h => by
    have ih := smR_mem (f := f) (i := i) m
    unfold smR at h
    split at h
    · rcases List.mem_append.mp h with h | h
      · have := ih e h; omega
      · simp at h; subst h; simp; omega
    · have := ih e h; omega
theorem smT_mem {f : Nat → Nat → Int} {S : Nat} : ∀ k, k ≤ S → ∀ e ∈ smT f S k, (0 ≤ e.1 ∧ e.1 < (S : Int)) ∧ 0 ≤ e.2 ∧ e.2 < (S : Int)
  | 0, _, e, h => by simp [smT] at h
  | k + 1, hk, e, h => by
    unfold smT at h
    rcases List.mem_append.mp h with h | h
    · exact smT_mem k (by omega) e h
    · have := smR_mem S e h; omega
def simE (f : Nat → Nat → Int) (S : Nat) : List (Int × Int) := smT f S S
def smgOf (f : Nat → Nat → Int) (S : Nat) : (Int × List (List Int)) × Int := if (simE f S).length ≤ 10 then (((S : Int), unp (simE f S)), 0) else ((0, []), 3)
theorem smgOf_yes {f : Nat → Nat → Int} {S : Nat} (h : (simE f S).length ≤ 10) : smgOf f S = (((S : Int), unp (simE f S)), 0) := by unfold smgOf; rw [if_pos h]
theorem smgOf_no {f : Nat → Nat → Int} {S : Nat} (h : ¬ (simE f S).length ≤ 10) : smgOf f S = ((0, []), 3) := by unfold smgOf; rw [if_neg h]
theorem unp_lensS (es : List (Int × Int)) : lens (unp es) = 2 * es.length := by
  unfold lens unp
  rw [List.map_map]
  induction es with
  | nil => rfl
  | cons e r ih => simp only [List.map_cons, List.sum_cons, ih, List.length_cons, Function.comp]; simp; omega
theorem smgOf_lens (f : Nat → Nat → Int) (S : Nat) : lens (smgOf f S).1.2 ≤ 1000 := by
  unfold smgOf
  split
  · simp only [unp_lensS]; omega
  · simp [lens]
theorem simE_I64 {f : Nat → Nat → Int} {S : Nat} (hS : S ≤ 8) (j : Nat) (hj : j < (simE f S).length) : I64 ((simE f S).getD j (0, 0)).1 ∧ I64 ((simE f S).getD j (0, 0)).2 := by
  have hm : (simE f S).getD j (0, 0) ∈ simE f S := by
    have : (simE f S).getD j (0, 0) = (simE f S)[j] := by simp [List.getD, List.getElem?_eq_getElem hj]
    rw [this]; exact List.getElem_mem hj
  have := smT_mem S (Nat.le_refl _) _ hm
  unfold I64; omega
theorem smT_congr {f g : Nat → Nat → Int} {S : Nat} (h : ∀ i j, i < S → j < S → (f i j = 0 ↔ g i j = 0)) : ∀ k, k ≤ S → smT f S k = smT g S k := by
  have hr : ∀ i, i < S → ∀ m, m ≤ S → smR f i m = smR g i m := by
    intro i hi m
    induction m with
    | zero => intro _; rfl
    | succ m ih =>
      intro hm
      unfold smR
      rw [ih (by omega)]
      have : (i < m ∧ f i m ≠ 0) ↔ (i < m ∧ g i m ≠ 0) := by rw [Ne, Ne, h i m hi (by omega)]
      simp only [this]
  intro k
  induction k with
  | zero => intro _; rfl
  | succ k ih =>
    intro hk
    unfold smT
    rw [ih (by omega), hr k (by omega) S (Nat.le_refl _)]

/-- what the loops keep: the result's box -/
structure SmI (y : Nat) (w W : World) : Prop where
  below : Below y w W
  y0 : W.cell? ⟨y, 0, none⟩ = some (.int .i64 0)
  y1 : W.cell? ⟨y, 1, none⟩ = some (.slice none 0 0)
  f0 : W.frozen? ⟨y, 0, none⟩ = false
  f1 : W.frozen? ⟨y, 1, none⟩ = false
  ylt : y < W.heap.size
theorem SmI.next {y L : Nat} {w W W' : World} (h : SmI y w W) (b : Below L W W') (hL : y < L) (hs : L ≤ W.heap.size) : SmI y w W' :=
  ⟨h.below.trans (b.mono (Nat.le_of_lt hL)), (b.cell hL).trans h.y0, (b.cell hL).trans h.y1, (b.frozen hL).trans h.f0, (b.frozen hL).trans h.f1, Nat.lt_of_lt_of_le h.ylt b.size⟩

/-- a row of a table: where it lies -/
theorem rowsAt {lo hi : Nat} {w : World} {a : Option Addr} {S c : Nat} {f : Nat → Nat → Int} (h : RdR lo hi w (.slice a S c) (tab S f)) {i : Nat} (hi' : i < S) : ∃ b off b' off' c', a = some ⟨b, off, none⟩ ∧ w.cell? ⟨b, off + i, none⟩ = some (.slice (some ⟨b', off', none⟩) S c') ∧ b < w.heap.size ∧ b' < w.heap.size ∧ ∀ j, j < S → w.cell? ⟨b', off' + j, none⟩ = some (.int .i64 (f i j)) := by
  obtain ⟨b, off, rv, e1, e2, e3⟩ := h.at (tab_len _ _) i hi'
  obtain ⟨a', c', rfl⟩ := e3.shape
  rw [tab_rlen f hi'] at e2 e3
  obtain ⟨b', off', rfl, e4⟩ := e3.at (tab_rlen f hi') i hi'
  refine ⟨b, off, b', off', c', e1, e2, World.block_lt_of_cell? w _ e2, World.block_lt_of_cell? w _ e4, fun j hj => ?_⟩
  obtain ⟨b2, off2, ee, e5⟩ := e3.at (tab_rlen f hi') j hj
  simp only [Option.some.injEq, Addr.mk.injEq, and_true] at ee
  obtain ⟨rfl, rfl⟩ := ee
  rw [tab_get f hi' hj] at e5
  exact e5

set_option maxHeartbeats 3200000 in
theorem simpleGraph {lo hi : Nat} (S : Nat) (f : Nat → Nat → Int) (a : Option Addr) (c : Nat) (w : World) (h : RdR lo hi w (.slice a S c) (tab S f)) (hS8 : S ≤ 8) :
    Calls Try.prog 89 #[.slice a S c] w fun e w' => ∃ a' c', e = .returned (.tuple #[.agg #[.int .i64 (smgOf f S).1.1, .slice a' (smgOf f S).1.2.length c'], .int .i64 (smgOf f S).2]) ∧ OwR w.heap.size w'.heap.size w' (.slice a' (smgOf f S).1.2.length c') (smgOf f S).1.2 ∧ Below w.heap.size w w' := by
  obtain ⟨i0, hi0, z0, z1, z2⟩ := info_parts Try.info71
  have hb0 : ∀ o, Below w.heap.size w (w.alloc o) := fun o => (Below.refl _ _).alloc (Nat.le_refl _) o
  have HROW := Lib.hid (fun i (hi : i < S) => rowsAt h hi)
  have HY := Lib.hid (fun he => smgOf_yes (f := f) (S := S) he)
  have HNO := Lib.hid (fun he => smgOf_no (f := f) (S := S) he)
  have HIE := Lib.hid (simE_I64 (f := f) hS8)
  have HTL := Lib.hid (smT_len f S hS8)
  have HEE := Lib.hid (show simE f S = smT f S S from rfl)
  generalize simE f S = E at HY HNO HIE HEE
  generalize smgOf f S = R at HY HNO ⊢
  clear h
  go_enter Try.func89, Try.ntmps89
  go_wp2
  obtain ⟨y, hy⟩ : ∃ y, y = w.heap.size := ⟨_, rfl⟩
  have hI : SmI y w (w.alloc (.cells #[.int .i64 0, .slice none 0 0] 29)) := by
    subst hy
    exact ⟨hb0 _, by go_simp, by go_simp, by go_simp, by go_simp, by simp⟩
  have hLs : y + 1 ≤ (w.alloc (.cells #[.int .i64 0, .slice none 0 0] 29)).heap.size := by simp; omega
  rw [← hy] at HROW ⊢
  have HYY := Lib.hid hy
  generalize w.alloc (.cells #[.int .i64 0, .slice none 0 0] 29) = V at hI hLs ⊢
  obtain ⟨L, hL⟩ : ∃ L, L = y + 1 := ⟨_, rfl⟩
  rw [← hL] at hLs
  have hyL : y < L := by omega
  have HI0 := Lib.hid (⟨hI, hLs⟩ : _ ∧ _)
  clear hI hLs hb0 hL hy
  go_loopw [4, 10] (fun d v wr => ∃ (k m : Nat) (av : Option Addr) (cv : Nat) (es : List (Int × Int)), k ≤ S ∧ v = .int .i64 k ∧ d = .slice av m cv ∧ Hid (es = smT f S k) ∧ Hid (m ≤ 8 * k) ∧ wr.ownsRow L 71 2 (.slice av m cv) m (flat es) ∧ SmI y w wr ∧ L ≤ wr.heap.size) (fun _ v _ => S - (intOf v).toNat)
  case atStart => exact ⟨0, 0, none, 0, [], Nat.zero_le _, rfl, rfl, Lib.hid rfl, Lib.hid (Nat.le_refl _), World.ownsRow_nil _ _ _ _, HI0.out⟩
  case round =>
    clear HI0
    obtain ⟨k, m, av, cv, es, hk, rfl, rfl, HX, HM, hown, hI, hLs⟩ := hrel
    obtain ⟨U, rfl⟩ : ∃ U, U = wr := ⟨_, rfl⟩
    by_cases hlt : k < S
    · obtain ⟨b, off, b', off', c', rfl, e2, hb1, hb2, e3⟩ := HROW.out k hlt
      have g2 : U.cell? ⟨b, off + k, none⟩ = _ := (hI.below.cell hb1).trans e2
      have hkS : (k : Int) < (S : Int) := by omega
      have HP := Lib.hid (⟨by rw [smR_low f k (k + 1) (Nat.le_refl _), List.append_nil]; exact HX.out, by have := HM.out; omega, hown, hI, hLs⟩ : es = smT f S k ++ smR f k (k + 1) ∧ m ≤ 8 * k + (k + 1) ∧ _ ∧ _ ∧ _)
      have E3 := Lib.hid e3
      clear HX HM hown hI hLs e2 e3 hb1
      go_wp2
      clear g2
      go_loopw [4, 7] (fun d v wr => ∃ (j m : Nat) (av : Option Addr) (cv : Nat) (es : List (Int × Int)), k + 1 ≤ j ∧ j ≤ S ∧ v = .int .i64 j ∧ d = .slice av m cv ∧ Hid (es = smT f S k ++ smR f k j) ∧ Hid (m ≤ 8 * k + j) ∧ wr.ownsRow L 71 2 (.slice av m cv) m (flat es) ∧ SmI y w wr ∧ L ≤ wr.heap.size) (fun _ v _ => S - (intOf v).toNat)
      case atStart => exact ⟨k + 1, m, av, cv, es, Nat.le_refl _, hlt, rfl, rfl, Lib.hid HP.out.1, Lib.hid HP.out.2.1, HP.out.2.2⟩
      case round =>
        rename_i hrel
        clear HP
        obtain ⟨j, m, av, cv, es, hkj, hj, rfl, rfl, HX, HM, hown, hI, hLs⟩ := hrel
        by_cases hlj : j < S
        · have g3 : wr.cell? ⟨b', off' + j, none⟩ = _ := (hI.below.cell hb2).trans (E3.out j hlj)
          have hjS : (j : Int) < (S : Int) := by omega
          by_cases hx : f k j = 0
          · rw [hx] at g3
            have HP := Lib.hid (⟨by rw [smR_out hx]; exact HX.out, by have := HM.out; omega, hown, hI, hLs⟩ : es = smT f S k ++ smR f k (j + 1) ∧ m ≤ 8 * k + (j + 1) ∧ _ ∧ _ ∧ _)
            clear HX HM hown hI hLs hx
            go_wp2
            go_roundw
            case rel => exact ⟨j+1, m, av, cv, es, by omega, by omega, by go_num, rfl, Lib.hid HP.out.1, Lib.hid HP.out.2.1, HP.out.2.2⟩
            case measure => simp [intOf]; omega
          · have hst := smR_in (f := f) (i := k) (m := j) (by omega) hx
            have HST := Lib.hid (show smT f S k ++ smR f k (j + 1) = es ++ [((k : Int), (j : Int))] by rw [hst, HX.out, List.append_assoc])
            generalize f k j = x at g3 hx
            have hb : (x != 0) = true := by simpa using hx
            have hownV := hown.alloc (.cells #[.int .i64 (k : Int), .int .i64 (j : Int)] 71)
            have hnews := news2 wr 71 (.int .i64 (k : Int)) (.int .i64 (j : Int))
            have hal : Below L wr (wr.alloc (.cells #[.int .i64 (k : Int), .int .i64 (j : Int)] 71)) := (Below.refl L wr).alloc hLs _
            have hals := hal.size
            have HM2 := Lib.hid (show m ≤ 72 by have := HM.out; omega)
            have HN := Lib.hid (⟨hal, fun q hq => (hown.lt q hq).1, hI, hLs, by have := HM.out; omega⟩ : _ ∧ (∀ q, (Value.slice av m cv).ownBlock = some q → L ≤ q) ∧ SmI y w wr ∧ L ≤ wr.heap.size ∧ m + 1 ≤ 8 * k + (j + 1))
            clear hown hI hst hx HX HM hal hals hLs
            go_wp2_with (at_builtin; refine wpList_append_lies _ rfl _ _ 68 rfl L 71 i0 (.agg #[.int .i64 0, .int .i64 0]) 2 16 Try.underlying68 hi0 z0 z1 z2 rfl (by decide) _ _ _ rfl hownV ⟨wr.heap.size, 0, none⟩ 1 1 [.int .i64 (k : Int), .int .i64 (j : Int)] rfl rfl ?d1 ?d2 (by decide) ?d3 ?d4 ?d5 _ rfl ?_)
            case d1 => exact hnews
            case d2 => first | (intro u hu; simp at hu; rcases hu with rfl | rfl <;> rfl) | rfl | simp
            case d3 => have := HM2.out; unfold maxLen; omega
            case d4 => have := HM2.out; omega
            case d5 => have := HN.out.2.2.2.1; simp; omega
            intro g4 c4 w5 hown5 hgr hlie hlt5
            have hb5 : Below L wr w5 := HN.out.1.grown hgr (by have := HN.out.2.2.2.1; simp; omega) HN.out.2.1
            have hfl : flat es ++ [.int .i64 (k : Int), .int .i64 (j : Int)] = flat (es ++ [((k : Int), (j : Int))]) := by simp [flat]
            rw [hfl, ← HST.out] at hown5
            have HF := Lib.hid (⟨hown5, HN.out.2.2.1.next hb5 hyL HN.out.2.2.2.1, Nat.le_trans HN.out.2.2.2.1 hb5.size⟩ : _ ∧ _ ∧ _)
            clear hown5 hb5 hfl hgr hlie hlt5 hownV hnews g3
            go_wp2
            go_roundw
            case rel => exact ⟨j+1, m+1, some ⟨g4, 0, none⟩, c4, _, by omega, by omega, by go_num, rfl, Lib.hid rfl, Lib.hid HN.out.2.2.2.2, HF.out⟩
            case measure => simp [intOf]; omega
        · obtain rfl : j = S := by omega
          have HP := Lib.hid (⟨HX.out, by have := HM.out; omega, hown, hI, hLs⟩ : es = smT f j (k + 1) ∧ m ≤ 8 * (k + 1) ∧ _ ∧ _ ∧ _)
          clear HX HM hown hI hLs
          go_wp2
          go_roundw
          case rel => exact ⟨k+1, m, av, cv, es, by omega, by go_num, rfl, Lib.hid HP.out.1, Lib.hid HP.out.2.1, HP.out.2.2⟩
          case measure => simp [intOf]; omega
    · obtain rfl : k = S := by omega
      have hx := HX.out
      rw [← HEE.out] at hx
      subst hx
      have hml : es.length = m := by
        have := hown.1
        rw [flat_len] at this
        omega
      have hm64 : m ≤ 64 := by have := HM.out; omega
      by_cases h10 : m ≤ 10
      · have hb : decide ((10 : Int) < (m : Int)) = false := decide_eq_false (by omega)
        have hR := HY.out (by omega)
        subst hR
        have HGW := Lib.hid (graphWith (k : Int) av m cv es U (RdE.mk hown hml) hml (by omega) (fun j hj => HIE.out j (by omega)))
        have HI1 := Lib.hid (⟨hI, hLs⟩ : _ ∧ _)
        clear hown HX HM hLs HEE HIE HTL hml
        go_wp2_with fail
        refine HGW.out.mono ?_
        rintro e w5 ⟨a5, c5, rfl, o5, b5⟩
        have hI5 := HI1.out.1.next b5 (by have := HI1.out.1.ylt; omega) (Nat.le_refl _)
        obtain ⟨y0, y1, f0, f1, ylt, hB5⟩ := (⟨hI5.y0, hI5.y1, hI5.f0, hI5.f1, hI5.ylt, hI5.below⟩ : _ ∧ _ ∧ _ ∧ _ ∧ _ ∧ _)
        have HO := Lib.hid (⟨o5, hB5, b5.size⟩ : _ ∧ Below y w w5 ∧ _)
        obtain ⟨rn, hrn⟩ : ∃ rn, rn = (unp es).length := ⟨_, rfl⟩
        have HRN := Lib.hid hrn
        rw [← hrn]
        have hyU : y < U.heap.size := HI1.out.1.ylt
        clear o5 b5 hB5 hI5 HGW hrn
        go_wp2
        rw [← HYY.out]
        refine bodyPost_ret (v := .tuple #[.agg #[.int .i64 (k : Int), .slice a5 rn c5], .int .i64 0]) (by simp [results, Try.results89, go_sem, y0, y1, f0, f1]) rfl ⟨a5, c5, by rw [HRN.out], ?_, ?_⟩
        · refine (OwR.chg (lo' := y) (hi' := y + 1) HO.out.1 ?_ (.inr hyU)).mono (Nat.le_of_lt hyU) (by simp [World.setCell])
          repeat (refine Chg.setCell ?_ (by constructor <;> simp <;> omega) _)
          exact Chg.refl _ _ _
        · repeat (refine Below.setCell ?_ (by simp <;> omega) _)
          exact HO.out.2.1
      · have hb : decide ((10 : Int) < (m : Int)) = true := decide_eq_true (by omega)
        have hR := HNO.out (by omega)
        subst hR
        have HB := Lib.hid hI.below
        obtain ⟨y0, y1, f0, f1⟩ := (⟨hI.y0, hI.y1, hI.f0, hI.f1⟩ : _ ∧ _ ∧ _ ∧ _)
        clear hown HX HM hLs HEE HIE HTL hml hI
        go_wp2
        rw [← HYY.out]
        refine bodyPost_ret (v := .tuple #[.agg #[.int .i64 0, .slice none 0 0], .int .i64 3]) (by simp [results, Try.results89, go_sem, y0, y1, f0, f1]) rfl ⟨none, 0, rfl, OwR.nil (World.ownsRow_nil _ _ _ _) (Nat.le_refl _), ?_⟩
        repeat (refine Below.setCell ?_ (by simp <;> omega) _)
        exact HB.out

end Go.Proofs.Ytolipjemabmlkaa
