/- Products of square rows, by the program; sums on diagonals. -/
import Derived.Test.YtolipjemabmlkaaZero
import Derived.Test.YtolipjemabmlkaaCoreA
import Derived.StillTailTactics
set_option linter.unusedSimpArgs false
set_option linter.unusedVariables false
namespace Go.Proofs.Ytolipjemabmlkaa
open Go.RowKit

theorem RdI.at' {lo hi : Nat} {w : World} {a : Option Addr} {n c : Nat} {xs : List Int} (h : RdI lo hi w (.slice a n c) xs) (hn : xs.length = n) : ∀ j, j < n → ∃ b off, a = some ⟨b, off, none⟩ ∧ w.cell? ⟨b, off + j, none⟩ = some (.int .i64 (xs.getD j 0)) := by
  intro j hj
  obtain ⟨_, _, ⟨a', c', rfl, _⟩ | ⟨b, off, c', hv, _, _, _, hc⟩⟩ := h
  · simp at hn; omega
  · simp only [Value.slice.injEq] at hv
    exact ⟨b, off, hv.1, hc j (by omega)⟩
theorem RdR.ent {lo hi : Nat} {w : World} {a : Option Addr} {n c : Nat} {f : Nat → Nat → Int} (h : RdR lo hi w (.slice a n c) (tab n f)) {i j : Nat} (hi' : i < n) (hj : j < n) :
    ∃ b off b' off' c', a = some ⟨b, off, none⟩ ∧ w.cell? ⟨b, off + i, none⟩ = some (.slice (some ⟨b', off', none⟩) n c') ∧ w.cell? ⟨b', off' + j, none⟩ = some (.int .i64 (f i j)) := by
  obtain ⟨b, off, rv, e1, e2, e3⟩ := h.at (tab_len _ _) i hi'
  obtain ⟨a', c', rfl⟩ := e3.shape
  rw [tab_rlen f hi'] at e2 e3
  obtain ⟨b', off', rfl, e4⟩ := e3.at' (tab_rlen f hi') j hj
  rw [tab_get f hi' hj] at e4
  exact ⟨b, off, b', off', c', e1, e2, e4⟩
theorem OwR.ent {lo hi : Nat} {w : World} {a : Option Addr} {n c : Nat} {f : Nat → Nat → Int} (h : OwR lo hi w (.slice a n c) (tab n f)) {i j : Nat} (hi' : i < n) (hj : j < n) :
    ∃ g b cb, a = some ⟨g, 0, none⟩ ∧ w.cell? ⟨g, i, none⟩ = some (.slice (some ⟨b, 0, none⟩) n cb) ∧ w.cell? ⟨b, j, none⟩ = some (.int .i64 (f i j)) ∧ w.frozen? ⟨b, j, none⟩ = false ∧ lo ≤ b ∧ b < hi ∧ b < w.heap.size ∧
      ∀ x, I64 x → OwR lo hi (w.setCell ⟨b, j, none⟩ (.int .i64 x)) (.slice a n c) (tab n (put f i j x)) := by
  obtain ⟨g, c', b, cb, e1, e2, e3, e4, e5, e6, e7, _, _, _, _, _, e8⟩ := h.store (k := i) (j := j) (by rw [tab_len]; exact hi') (by rw [tab_rlen f hi']; exact hj)
  rw [tab_rlen f hi'] at e2
  rw [tab_get f hi' hj] at e3
  simp only [Value.slice.injEq] at e1
  refine ⟨g, b, cb, e1.1, e2, e3, e4, e5, e6, e7, fun x hx => ?_⟩
  have := e8 x hx
  rw [tab_set f x hi' hj] at this
  exact this

/-- the product on the way: rows below i are done, of row i the numbers below j, and at i, j the first k products are added up -/
def stg (n : Nat) (A B : Nat → Nat → Int) (i j k : Nat) : Nat → Nat → Int := fun a b => if a < i ∨ (a = i ∧ b < j) then mulM n A B a b else if a = i ∧ b = j then dotW (A a) (fun q => B q b) k else 0
theorem stg_start (n : Nat) (A B : Nat → Nat → Int) : stg n A B 0 0 0 = zeros := by
  funext a b
  unfold stg zeros
  by_cases h : a = 0 ∧ b = 0
  · simp [h, dotW]
  · simp [h]
theorem stg_at (n : Nat) (A B : Nat → Nat → Int) (i j k : Nat) : stg n A B i j k i j = dotW (A i) (fun q => B q j) k := by simp [stg]
theorem stg_put (n : Nat) (A B : Nat → Nat → Int) (i j k : Nat) : put (stg n A B i j k) i j (wrap64 (dotW (A i) (fun q => B q j) k + wrap64 (A i k * B k j))) = stg n A B i j (k + 1) := by
  funext a b
  unfold put stg
  by_cases h : a = i ∧ b = j
  · obtain ⟨rfl, rfl⟩ := h
    simp [dotW]
  · rw [if_neg h, if_neg h, if_neg h]
theorem stg_next (n : Nat) (A B : Nat → Nat → Int) (i j : Nat) : stg n A B i j n = stg n A B i (j + 1) 0 := by
  funext a b
  unfold stg
  by_cases h : a = i ∧ b = j
  · obtain ⟨rfl, rfl⟩ := h
    simp [mulM]
  · by_cases h1 : a < i ∨ (a = i ∧ b < j)
    · have h2 : a < i ∨ (a = i ∧ b < j + 1) := by omega
      rw [if_pos h1, if_pos h2]
    · have h2 : ¬ (a < i ∨ (a = i ∧ b < j + 1)) := by omega
      rw [if_neg h1, if_neg h2, if_neg h]
      by_cases h3 : a = i ∧ b = j + 1
      · rw [if_pos h3]; rfl
      · rw [if_neg h3]
theorem stg_row (n : Nat) (A B : Nat → Nat → Int) (i : Nat) : tab n (stg n A B i n 0) = tab n (stg n A B (i + 1) 0 0) := by
  refine tab_congr fun a b ha hb => ?_
  unfold stg
  by_cases h1 : a < i ∨ (a = i ∧ b < n)
  · have h2 : a < i + 1 ∨ (a = i + 1 ∧ b < 0) := by omega
    rw [if_pos h1, if_pos h2]
  · have h2 : ¬ (a < i + 1 ∨ (a = i + 1 ∧ b < 0)) := by omega
    rw [if_neg h1, if_neg h2]
    have h3 : ¬ (a = i ∧ b = n) := by omega
    rw [if_neg h3]
    by_cases h4 : a = i + 1 ∧ b = 0
    · rw [if_pos h4]; rfl
    · rw [if_neg h4]
theorem stg_all (n : Nat) (A B : Nat → Nat → Int) : tab n (stg n A B n 0 0) = tab n (mulM n A B) := by
  refine tab_congr fun a b ha hb => ?_
  unfold stg
  rw [if_pos (by omega)]

set_option maxRecDepth 100000 in
set_option maxHeartbeats 6400000 in
theorem productOfRows {lo hi lo1 hi1 : Nat} (aa : Option Addr) (n ca : Nat) (ab : Option Addr) (cb : Nat) (A B : Nat → Nat → Int) (w : World) (hn : n ≤ 1000) (hA : RdR lo hi w (.slice aa n ca) (tab n A)) (hB : RdR lo1 hi1 w (.slice ab n cb) (tab n B)) :
    Calls Try.prog 112 #[.slice aa n ca, .slice ab n cb] w fun e w' => ∃ a' c', e = .returned (.slice a' n c') ∧ OwR w.heap.size w'.heap.size w' (.slice a' n c') (tab n (mulM n A B)) ∧ Below w.heap.size w w' := by
  have HA := Lib.hid hA
  have HB := Lib.hid hB
  have hw0 : n = 0 ∨ 0 < w.heap.size := by
    by_cases e : n = 0
    · exact .inl e
    · obtain ⟨b, off, b', off', c', _, e2, _⟩ := hA.ent (i := 0) (j := 0) (by omega) (by omega)
      have := World.block_lt_of_cell? w _ e2
      exact .inr (by omega)
  clear hA hB
  go_enter Try.func112, Try.ntmps112
  go_wp2_with fail
  refine (zeroRows n w hn hw0).mono ?_
  rintro e w1 ⟨v, rfl, o1, b1⟩
  obtain ⟨a', c', rfl⟩ := o1.rd.shape
  rw [tab_len] at o1 ⊢
  rw [← stg_start n A B] at o1
  obtain ⟨H1, hH1⟩ : ∃ H, H = w1.heap.size := ⟨_, rfl⟩
  rw [← hH1] at o1
  have HH1 := Lib.hid (show H1 ≤ w1.heap.size by omega)
  clear hw0 hH1
  go_wp2
  go_loopw [14] (fun i wr => ∃ q : Nat, q ≤ n ∧ i = .int .i64 q ∧ OwR w.heap.size H1 wr (.slice a' n c') (tab n (stg n A B q 0 0)) ∧ Below w.heap.size w wr ∧ H1 ≤ wr.heap.size) (fun i _ => n - (intOf i).toNat)
  case atStart => exact ⟨0, Nat.zero_le _, rfl, o1, b1, HH1.out⟩
  case round =>
    clear o1 b1
    obtain ⟨q, hq, rfl, hO, hBl, hsz⟩ := hrel
    by_cases hlq : q < n
    · have HF := Lib.hid (⟨hO, hBl, hsz⟩ : _ ∧ _ ∧ _)
      clear hO hBl hsz
      go_wp2
      go_loopw [19] (fun i wr' => ∃ p : Nat, p ≤ n ∧ i = .int .i64 p ∧ OwR w.heap.size H1 wr' (.slice a' n c') (tab n (stg n A B q p 0)) ∧ Below w.heap.size w wr' ∧ H1 ≤ wr'.heap.size) (fun i _ => n - (intOf i).toNat)
      case atStart => exact ⟨0, Nat.zero_le _, rfl, HF.out⟩
      case round =>
        rename_i hrel
        clear HF
        obtain ⟨p, hp, rfl, hO, hBl, hsz⟩ := hrel
        by_cases hlp : p < n
        · have HF := Lib.hid (⟨hO, hBl, hsz⟩ : _ ∧ _ ∧ _)
          clear hO hBl hsz
          go_wp2
          go_loopw [24] (fun i wr' => ∃ k : Nat, k ≤ n ∧ i = .int .i64 k ∧ OwR w.heap.size H1 wr' (.slice a' n c') (tab n (stg n A B q p k)) ∧ Below w.heap.size w wr' ∧ H1 ≤ wr'.heap.size) (fun i _ => n - (intOf i).toNat)
          case atStart => exact ⟨0, Nat.zero_le _, rfl, HF.out⟩
          case round =>
            rename_i hrel
            clear HF
            obtain ⟨k, hk, rfl, hO, hBl, hsz⟩ := hrel
            by_cases hlk : k < n
            · obtain ⟨ba, oa, bA, oA, cA, rfl, a1, a2⟩ := (HA.out.below hBl).ent (i := q) (j := k) hlq hlk
              obtain ⟨bb, ob, bB, oB, cB, rfl, d1, d2⟩ := (HB.out.below hBl).ent (i := k) (j := p) hlk hlp
              obtain ⟨g, b, cc, rfl, g1, g2, g3, g4, g5, g6, g7⟩ := (hO.qt ((Qt.refl wr).drew)).ent (i := q) (j := p) hlq hlp
              rw [stg_at] at g2
              have hst := stg_put n A B q p k
              generalize A q k = x at a2 hst
              generalize B k p = y at d2 hst
              generalize dotW (A q) (fun q => B q p) k = d at g2 hst
              obtain ⟨m, hm⟩ : ∃ m, m = wrap64 (x * y) := ⟨_, rfl⟩
              obtain ⟨s, hs⟩ : ∃ s, s = wrap64 (d + m) := ⟨_, rfl⟩
              rw [← hm, ← hs] at hst
              have t1 : IntKind.i64.wrap (x * y) = m := by rw [IntWalk.i64_left, hm]
              have t2 : IntKind.i64.wrap (d + m) = s := by rw [IntWalk.i64_left, hs]
              have t3 : wrap64 (x * y) = m := hm.symm
              have t4 : wrap64 (d + m) = s := hs.symm
              have hsI : I64 s := by rw [hs]; exact wrap_I64 _
              have hfin := g7 s hsI
              rw [hst] at hfin
              have HF := Lib.hid (⟨hfin, hBl.drew.setCell (p := ⟨b, p, none⟩) g4 _, by rw [World.size_setCell]; exact hsz⟩ : _ ∧ Below w.heap.size w (wr.drew.setCell ⟨b, p, none⟩ (.int .i64 s)) ∧ H1 ≤ (wr.drew.setCell ⟨b, p, none⟩ (.int .i64 s)).heap.size)
              have g1' : wr.cell? ⟨g, q, none⟩ = some (.slice (some ⟨b, 0, none⟩) n cc) := g1
              have g2' : wr.cell? ⟨b, p, none⟩ = some (.int .i64 d) := g2
              clear hst hm hs hsI hfin g7 hO hBl hsz
              go_wp2
              go_still_tail 24, (by kernel_rfl)
              change wpList _ _ _ _ _ wr.drew
              clear g1' g2' a1 a2 d1 d2 g1
              generalize wr.drew = V at HF g2 g3 ⊢
              go_wp2
              go_roundw
              case rel => exact ⟨k+1, by omega, by go_num, HF.out⟩
              case measure => simp [intOf]; omega
            · obtain rfl : k = n := by omega
              rw [stg_next] at hO
              have HF := Lib.hid (⟨hO, hBl, hsz⟩ : _ ∧ _ ∧ _)
              clear hO hBl hsz
              go_wp2
              go_roundw
              case rel => exact ⟨p+1, by omega, by go_num, HF.out⟩
              case measure => simp [intOf]; omega
        · obtain rfl : p = n := by omega
          rw [stg_row] at hO
          have HF := Lib.hid (⟨hO, hBl, hsz⟩ : _ ∧ _ ∧ _)
          clear hO hBl hsz
          go_wp2
          go_roundw
          case rel => exact ⟨q+1, by omega, by go_num, HF.out⟩
          case measure => simp [intOf]; omega
    · obtain rfl : q = n := by omega
      rw [stg_all] at hO
      have HF := Lib.hid (⟨hO.mono (Nat.le_refl _) hsz, hBl⟩ : _ ∧ _)
      clear hO hBl hsz
      go_wp2
      go_ret
      exact ⟨a', c', rfl, HF.out⟩

end Go.Proofs.Ytolipjemabmlkaa
