/- Sums of products and of values of Moebius, within limits, by the program. -/
import Derived.Test.YtebgbplhcaocoaaImplMul
import Derived.Test.YtebgbplhcaocoaaMbW
set_option linter.unusedSimpArgs false
set_option linter.unusedVariables false
set_option maxRecDepth 100000
namespace Go.Proofs.Ytebgbplhcaocoaa
open Go.RowKit

/-- the sum of the products of F at i and X at k - i -/
def mxO (F X : Nat → Int) (k : Nat) : Nat → Option Int
  | 0 => some 0
  | i + 1 => plusO (mxO F X k i) (timesO (some (F i)) (some (X (k - i))))
theorem mxO_lim (F X : Nat → Int) (k i : Nat) : OLim (mxO F X k i) := by
  cases i with
  | zero => exact OLim.some (by unfold Lim; omega)
  | succ i => exact plusO_lim _ _
/-- the sum over the divisors of k up to d -/
def mbO (X : Nat → Int) (k : Nat) : Nat → Option Int
  | 0 => some 0
  | d + 1 => if k % (d + 1) = 0 then plusO (mbO X k d) (timesO (some (X (d + 1))) (some (moebW (k / (d + 1))))) else mbO X k d
theorem mbO_yes {X : Nat → Int} {k d : Nat} (h : k % (d + 1) = 0) : mbO X k (d + 1) = plusO (mbO X k d) (timesO (some (X (d + 1))) (some (moebW (k / (d + 1))))) := by
  show (if _ then _ else _) = _
  rw [if_pos h]
theorem mbO_no {X : Nat → Int} {k d : Nat} (h : ¬ k % (d + 1) = 0) : mbO X k (d + 1) = mbO X k d := by
  show (if _ then _ else _) = _
  rw [if_neg h]
theorem mbO_lim (X : Nat → Int) (k : Nat) : ∀ d, OLim (mbO X k d)
  | 0 => OLim.some (by unfold Lim; omega)
  | d + 1 => by
    by_cases h : k % (d + 1) = 0
    · rw [mbO_yes h]; exact plusO_lim _ _
    · rw [mbO_no h]; exact mbO_lim X k d

/-- a sum's box, and the answer's -/
structure SumI (o : Option Int) (w W : World) : Prop where
  below : Below w.heap.size w W
  r0 : W.cell? ⟨w.heap.size, 0, none⟩ = some (.int .i64 0)
  r1 : W.cell? ⟨w.heap.size, 1, none⟩ = some (.bool false)
  q0 : W.frozen? ⟨w.heap.size, 0, none⟩ = false
  q1 : W.frozen? ⟨w.heap.size, 1, none⟩ = false
  s0 : W.cell? ⟨w.heap.size + 1, 0, none⟩ = some (.int .i64 (numO o))
  s1 : W.cell? ⟨w.heap.size + 1, 1, none⟩ = some (.bool o.isNone)
  f0 : W.frozen? ⟨w.heap.size + 1, 0, none⟩ = false
  f1 : W.frozen? ⟨w.heap.size + 1, 1, none⟩ = false
  lt : w.heap.size + 1 < W.heap.size
theorem SumI.next {o : Option Int} {w W W' : World} (h : SumI o w W) (b : Below W.heap.size W W') : SumI o w W' := by
  have h1 := h.lt
  exact ⟨h.below.next b, b.keep h.r0, b.keep h.r1, b.keepf (show w.heap.size < _ by omega) h.q0, b.keepf (show w.heap.size < _ by omega) h.q1, b.keep h.s0, b.keep h.s1, b.keepf h1 h.f0, b.keepf h1 h.f1, Nat.lt_of_lt_of_le h1 b.size⟩
theorem SumI.put {o p : Option Int} {w W : World} (h : SumI o w W) : SumI p w ((W.setCell ⟨w.heap.size + 1, 0, none⟩ (.int .i64 (numO p))).setCell ⟨w.heap.size + 1, 1, none⟩ (.bool p.isNone)) := by
  have h1 := h.lt
  refine ⟨(h.below.setCell (by simp) _).setCell (by simp) _, ?_, ?_, ?_, ?_, ?_, ?_, ?_, ?_, by simp only [World.size_setCell]; exact h1⟩
  · rw [World.cell?_setCell_other _ _ _ _ (by simp), World.cell?_setCell_other _ _ _ _ (by simp)]; exact h.r0
  · rw [World.cell?_setCell_other _ _ _ _ (by simp), World.cell?_setCell_other _ _ _ _ (by simp)]; exact h.r1
  · rw [World.frozen?_setCell, World.frozen?_setCell]; exact h.q0
  · rw [World.frozen?_setCell, World.frozen?_setCell]; exact h.q1
  · rw [World.cell?_setCell_other _ _ _ _ (by simp), World.cell?_setCell_same _ _ _ h.s0]
  · rw [World.cell?_setCell_same _ _ _ (by rw [World.cell?_setCell_other _ _ _ _ (by simp)]; exact h.s1)]
  · rw [World.frozen?_setCell, World.frozen?_setCell]; exact h.f0
  · rw [World.frozen?_setCell, World.frozen?_setCell]; exact h.f1

set_option maxHeartbeats 8000000 in
theorem mixedSum (a1 : Option Addr) (n1 c1 : Nat) (fs : List Int) (g2 n2 c2 : Nat) (X : Nat → Int) (k : Nat) (w : World) (hf : RdO w (.slice a1 n1 c1) (fs.map some)) (hfl : fs.length = n1) (hn1 : n1 ≤ 100) (hk : k < n2) (hk1 : n2 ≤ 100) (hX : ∀ j, j < n2 → Lim (X j)) (hc : ∀ j, j < n2 → w.cell? ⟨g2, j * 2, none⟩ = some (.int .i64 (X j)) ∧ w.cell? ⟨g2, j * 2 + 1, none⟩ = some (.bool false)) :
    Calls Try.prog 80 #[.slice a1 n1 c1, .slice (some ⟨g2, 0, none⟩) n2 c2, .int .i64 0, .int .i64 k] w fun e w' => e = .returned (.agg #[.int .i64 (numO (mxO (fun i => fs.getD i 0) X k k)), .bool (mxO (fun i => fs.getD i 0) X k k).isNone]) ∧ Below w.heap.size w w' := by
  have hb0 : ∀ o, Below w.heap.size w (w.alloc o) := fun o => (Below.refl _ _).alloc (Nat.le_refl _) o
  have HAT := Lib.hid (fun W (hB : Below w.heap.size w W) i (hi : i ≤ 1000) => polyAt (.slice a1 n1 c1) (fs.map some) i W (hf.below hB) (by rw [List.length_map]; omega) (by omega))
  have HAO := Lib.hid (fun i => show atO (fs.map some) i = some (fs.getD i 0) by
    unfold atO
    by_cases h : i < fs.length
    · simp [List.getD, List.getElem?_eq_getElem h]
    · simp [List.getD, List.getElem?_eq_none (Nat.le_of_not_lt h)])
  have HFL := Lib.hid (fun i => show OLim (some (fs.getD i 0)) by
    have := hf.1 i
    by_cases h : i < fs.length
    · have e : (fs.map some).getD i (some 0) = some (fs.getD i 0) := by simp [List.getD, List.getElem?_eq_getElem h]
      rw [e] at this; exact this
    · have e : fs.getD i 0 = 0 := by simp [List.getD, List.getElem?_eq_none (Nat.le_of_not_lt h)]
      rw [e]; exact OLim.some (by unfold Lim; omega))
  have HC := Lib.hid hc
  have HX := Lib.hid hX
  generalize hFF : (fun i => fs.getD i 0) = F at *
  have hF : ∀ i, fs.getD i 0 = F i := fun i => by rw [← hFF]
  have HFE := Lib.hid hF
  have HS0 := Lib.hid (show mxO F X k 0 = some 0 from rfl)
  have HSS := Lib.hid (fun i => show mxO F X k (i + 1) = plusO (mxO F X k i) (timesO (some (F i)) (some (X (k - i)))) from rfl)
  have HSL := Lib.hid (fun i => mxO_lim F X k i)
  generalize mxO F X k = M at HS0 HSS HSL ⊢
  clear hc hX hf hFF hF hfl
  go_enter Try.func80, Try.ntmps80
  go_wp2
  go_loopw [10] (fun i wr => ∃ j : Nat, j ≤ k ∧ i = .int .i64 j ∧ SumI (M j) w wr) (fun i _ => k - (intOf i).toNat)
  case atStart =>
    refine ⟨0, Nat.zero_le _, rfl, ?_⟩
    rw [HS0.out]
    exact ⟨(hb0 _).alloc (by simp) _, by go_simp, by go_simp, by go_simp, by go_simp, by go_simp; rfl, by go_simp, by go_simp, by go_simp, by simp⟩
  case round =>
    obtain ⟨j, hj, rfl, hI⟩ := hrel
    by_cases hlt : j < k
    · have hjk : (j : Int) < (k : Int) := by omega
      obtain ⟨d, hd⟩ : ∃ d, d = k - j := ⟨_, rfl⟩
      have hdn : d < n2 := by omega
      obtain ⟨h1, h2⟩ := HC.out d hdn
      replace h1 := hI.below.keep h1
      replace h2 := hI.below.keep h2
      have hlx := OLim.some (HX.out d hdn)
      have hlf := HFL.out j
      rw [HFE.out] at hlf
      have hst := HSS.out j
      rw [← hd] at hst
      have hml := HSL.out j
      have hat := fun W hB => HAT.out W hB j (by omega)
      have hae := HAO.out j
      rw [HFE.out] at hae
      rw [hae] at hat
      have m1 : IntKind.i64.wrap ((k : Int) - (j : Int)) = (d : Int) := by rw [show (k : Int) - (j : Int) = (d : Int) by omega]; exact IntWalk.i64_in _ (by omega)
      have m2 : wrap64 ((k : Int) - (j : Int)) = (d : Int) := by rw [show (k : Int) - (j : Int) = (d : Int) by clear m1; omega]; exact IntWalk.wrap64_in _ (by clear m1; omega)
      generalize M j = o at hI hml hst
      generalize X d = x at h1 hlx hst
      generalize F j = f at hat hlf hst
      have HAW := Lib.hid hat
      have HST := Lib.hid hst
      have s0 := hI.s0
      have s1 := hI.s1
      have f0 := hI.f0
      have f1 := hI.f1
      have HI := Lib.hid hI
      have hmt := m_times
      have hmp := m_plus
      have hdI : (d : Int) < (n2 : Int) := by omega
      have hd0 : (0 : Int) ≤ (d : Int) := by omega
      clear hst hat hae hd hI
      go_wp2
      go_region_with (first
        | (go_at_call 133; refine (HAW.out _ (HI.out.below.next ((Qt.refl wr).drew).below)).mono ?_; rintro e w1 ⟨rfl, b1⟩; have g1 := b1.keep h1; have g2 := b1.keep h2; have t0 := b1.keep s0; have t1 := b1.keep s1)
        | (go_at_call 129; refine (wtimesA (some f) (some x) hlf hlx _).mono ?_; rintro e w2 ⟨rfl, b2⟩; have v0 := b2.keep (b1.keep s0); have v1 := b2.keep (b1.keep s1); clear g1 g2 t0 t1)
        | (go_at_call 130; refine (wplusA o (timesO (some f) (some x)) hml (timesO_lim _ _) _).mono ?_; rintro e w3 ⟨rfl, b3⟩; have bw : Below wr.heap.size wr w3 := ((((Qt.refl wr).drew).below.next b1).next b2).next b3; have hI3 := HI.out.next bw; have y0 := hI3.s0; have y1 := hI3.s1; have z0 := hI3.f0; have z1 := hI3.f1; clear v0 v1))
      all_goals
        clear hmt hmp
        have HF := Lib.hid (hI3.put (p := plusO o (timesO (some f) (some x))))
        rw [← HST.out] at HF ⊢
        clear hI3 bw
        go_wp2
        go_roundw
        case rel => exact ⟨j+1, by omega, by go_num, HF.out⟩
        case measure => simp [intOf]; omega
    · obtain rfl : j = k := by omega
      obtain ⟨s0, s1, r0, r1, q0, q1, hB⟩ := (⟨hI.s0, hI.s1, hI.r0, hI.r1, hI.q0, hI.q1, hI.below⟩ : _ ∧ _ ∧ _ ∧ _ ∧ _ ∧ _ ∧ _)
      have HB := Lib.hid hB
      clear hI hB
      obtain ⟨o, ho⟩ : ∃ o, o = M j := ⟨_, rfl⟩
      rw [← ho] at s0 s1
      have HOE := Lib.hid ho
      clear ho
      go_wp2
      refine bodyPost_ret (v := .agg #[.int .i64 (numO o), .bool o.isNone]) (by simp [results, Try.results80, go_sem, r0, r1]) rfl ⟨by rw [HOE.out], ?_⟩
      repeat (refine Below.setCell ?_ (by simp <;> omega) _)
      exact HB.out

end Go.Proofs.Ytebgbplhcaocoaa
