/- EdgeValue and RootsModulo by the program. -/
import Derived.Test.YtnblhkhdilkbeaaPlc
set_option linter.unusedSimpArgs false
set_option linter.unusedVariables false
set_option maxRecDepth 100000
namespace Go.Proofs.Ytnblhkhdilkbeaa
open Go.RowKit

theorem own_shapeE {w : World} {base e size n : Nat} {v : Value} {xs : List Value} (h : w.ownsRow base e size v n xs) : ∃ a c, v = .slice a n c := by
  obtain ⟨_, ⟨h4, h5⟩ | ⟨g, cap, cur, hv, _⟩⟩ := h
  · exact ⟨none, 0, by rw [h4, h5]⟩
  · exact ⟨_, _, hv⟩
def evOf (s : Int) (xss : List (List Int)) (p u : Int) : Int × Int := if plcCode p s xss u = 0 then (plV xss p u, 0) else (0, plcCode p s xss u)
def rtN (V : Int → Int) : Nat → List Int
  | 0 => []
  | k + 1 => if V (k : Int) = 0 then rtN V k ++ [(k : Int)] else rtN V k
def rtv (V : Int → Int) (k : Nat) : List Value := (rtN V k).map (Value.int .i64)
theorem rtv_yes {V : Int → Int} {k : Nat} (h : V (k : Int) = 0) : rtv V (k + 1) = rtv V k ++ [.int .i64 (k : Int)] := by unfold rtv; rw [rtN, if_pos h]; simp
theorem rtv_no {V : Int → Int} {k : Nat} (h : V (k : Int) ≠ 0) : rtv V (k + 1) = rtv V k := by unfold rtv; rw [rtN, if_neg h]
theorem rtN_I64 (V : Int → Int) : ∀ k, k ≤ 1000 → ∀ x ∈ rtN V k, I64 x := by
  intro k
  induction k with
  | zero => intro _ x hx; simp [rtN] at hx
  | succ k ih =>
    intro hk x hx
    unfold rtN at hx
    split at hx
    · rcases List.mem_append.1 hx with h | h
      · exact ih (by omega) x h
      · simp at h; subst h; unfold I64; omega
    · exact ih (by omega) x hx
def rmOf (s : Int) (xss : List (List Int)) (p : Int) : List Int × Int := if plcCode p s xss 0 = 0 then (rtN (plV xss p) p.toNat, 0) else ([], plcCode p s xss 0)
theorem plc_le (p s : Int) (xss : List (List Int)) (t : Int) : 0 ≤ plcCode p s xss t ∧ plcCode p s xss t ≤ 2 := by
  unfold plcCode; split <;> (try split) <;> (try split) <;> omega

set_option maxHeartbeats 1600000 in
theorem implEv {lo hi : Nat} (s : Int) (a : Option Addr) (n c : Nat) (xss : List (List Int)) (p u : Int) (w : World) (h : RdR lo hi w (.slice a n c) xss) (hn : xss.length = n) :
    Calls Try.prog 29 #[.agg #[.int .i64 s, .slice a n c], .int .i64 p, .int .i64 u] w fun e w' => e = .returned (.tuple #[.int .i64 (evOf s xss p u).1, .int .i64 (evOf s xss p u).2]) ∧ Below w.heap.size w w' := by
  have hb0 : ∀ o, Below w.heap.size w (w.alloc o) := fun o => (Below.refl _ _).alloc (Nat.le_refl _) o
  have HI := Lib.hid (fun W (hB : Below w.heap.size w W) => checkPlace p s a n c xss u W (h.below hB) hn)
  by_cases hd : plcCode p s xss u = 0
  · have e2 : evOf s xss p u = (plV xss p u, 0) := by unfold evOf; rw [if_pos hd]
    rw [e2]
    rw [hd] at HI
    obtain ⟨hg, hp, hu⟩ := plc_ok hd
    have HR := Lib.hid (fun W (hB : Below w.heap.size w W) => placeValue s a n c xss p u W (h.below hB) hn hg hp hu)
    generalize plV xss p u = v at HR ⊢
    clear h hn hd e2 hg hp hu
    go_enter Try.func29, Try.ntmps29
    go_wp2_with fail
    refine calls_gen (fun W => Below w.heap.size w W ∧ W.cell? ⟨w.heap.size, 0, none⟩ = some (.int .i64 s) ∧ W.cell? ⟨w.heap.size, 1, none⟩ = some (.slice a n c)) ⟨hb0 _, by go_simp, by go_simp⟩ ?_
    rintro W ⟨hB, k0, k1⟩
    refine (HI.out W hB).mono ?_
    rintro e w1 ⟨rfl, b1⟩
    replace hB := hB.next b1
    replace k0 := b1.keep k0
    replace k1 := b1.keep k1
    clear b1 HI
    go_wp2_with fail
    refine (HR.out w1 hB).mono ?_
    rintro e w2 ⟨rfl, b2⟩
    have HF := Lib.hid (hB.next b2)
    clear b2 hB k0 k1 HR
    go_wp2
    go_ret2
    exact ⟨rfl, HF.out⟩
  · have e2 : evOf s xss p u = (0, plcCode p s xss u) := by unfold evOf; rw [if_neg hd]
    rw [e2]
    have hcb : (plcCode p s xss u == 0) = false := by simpa using hd
    have hcb2 : (plcCode p s xss u != 0) = true := by simpa using hd
    generalize plcCode p s xss u = cd at HI hcb hcb2 ⊢
    clear h hn hd e2
    go_enter Try.func29, Try.ntmps29
    go_wp2_with fail
    refine calls_gen (fun W => Below w.heap.size w W) (hb0 _) ?_
    rintro W hB
    refine (HI.out W hB).mono ?_
    rintro e w1 ⟨rfl, b1⟩
    replace hB := hB.next b1
    clear b1 HI
    go_wp2
    go_ret2
    exact ⟨rfl, hB⟩

set_option maxHeartbeats 1600000 in
theorem implRm {lo hi : Nat} (s : Int) (a : Option Addr) (n c : Nat) (xss : List (List Int)) (p : Int) (w : World) (h : RdR lo hi w (.slice a n c) xss) (hn : xss.length = n) :
    Calls Try.prog 31 #[.agg #[.int .i64 s, .slice a n c], .int .i64 p] w fun e w' => ∃ a' c', e = .returned (.tuple #[.slice a' (rmOf s xss p).1.length c', .int .i64 (rmOf s xss p).2]) ∧ OwI w.heap.size w'.heap.size w' (.slice a' (rmOf s xss p).1.length c') (rmOf s xss p).1 ∧ Below w.heap.size w w' := by
  obtain ⟨i0, hi', z0, z1, z2⟩ := info_parts Try.info2
  have hb0 : ∀ o, Below w.heap.size w (w.alloc o) := fun o => (Below.refl _ _).alloc (Nat.le_refl _) o
  have HI := Lib.hid (fun W (hB : Below w.heap.size w W) => checkPlace p s a n c xss 0 W (h.below hB) hn)
  by_cases hd : plcCode p s xss 0 = 0
  · have e2 : rmOf s xss p = (rtN (plV xss p) p.toNat, 0) := by unfold rmOf; rw [if_pos hd]
    rw [e2]
    rw [hd] at HI
    obtain ⟨hg, hp, _⟩ := plc_ok hd
    have hple := hp.le
    obtain ⟨N, rfl⟩ : ∃ N : Nat, p = (N : Int) := ⟨p.toNat, by omega⟩
    rw [Int.toNat_natCast]
    have HR := Lib.hid (fun W (hB : Below w.heap.size w W) (k : Nat) (hk : (k : Int) < (N : Int)) => placeValue s a n c xss (N : Int) (k : Int) W (h.below hB) hn hg hp ⟨by omega, hk⟩)
    generalize plV xss (N : Int) = V at HR ⊢
    have HN1 := Lib.hid (show N ≤ 101 by omega)
    clear h hn hd e2 hg hp hple
    go_enter Try.func31, Try.ntmps31
    go_wp2_with fail
    refine calls_gen (fun W => Below w.heap.size w W ∧ w.heap.size < W.heap.size ∧ W.cell? ⟨w.heap.size, 0, none⟩ = some (.int .i64 s) ∧ W.cell? ⟨w.heap.size, 1, none⟩ = some (.slice a n c)) ⟨hb0 _, by simp, by go_simp, by go_simp⟩ ?_
    rintro W ⟨hB, hz, k0, k1⟩
    refine (HI.out W hB).mono ?_
    rintro e w1 ⟨rfl, b1⟩
    have HK := Lib.hid (⟨World.ownsRow_nil _ _ _ _, hB.next b1, Nat.lt_of_lt_of_le hz b1.size, b1.keep k0, b1.keep k1⟩ : w1.ownsRow (w.heap.size + 1) 2 1 (.slice none 0 0) 0 (rtv V 0) ∧ _ ∧ _ ∧ _ ∧ _)
    clear b1 HI hB hz k0 k1
    go_wp2
    go_loopw [16, 7] (fun i v wr => ∃ (k q : Nat), k ≤ N ∧ i = .int .i64 k ∧ q ≤ k ∧ wr.ownsRow (w.heap.size + 1) 2 1 v q (rtv V k) ∧ Below w.heap.size w wr ∧ w.heap.size < wr.heap.size ∧ wr.cell? ⟨w.heap.size, 0, none⟩ = some (.int .i64 s) ∧ wr.cell? ⟨w.heap.size, 1, none⟩ = some (.slice a n c)) (fun i _ _ => N - (intOf i).toNat)
    case atStart => exact ⟨0, 0, Nat.zero_le _, rfl, Nat.le_refl _, HK.out⟩
    case round =>
      clear HK
      obtain ⟨k, q, hk, rfl, hq, hC, hB, hz, k0, k1⟩ := hrel
      by_cases hlt : k < N
      · have hkN : (k : Int) < (N : Int) := by omega
        have hnx := HR.out wr hB k hkN
        have HX := Lib.hid hnx
        have HV := Lib.hid (⟨hC, hB, hz, k0, k1⟩ : _ ∧ _ ∧ _ ∧ _ ∧ _)
        clear hC hB hz hnx
        go_wp2_with fail
        refine HX.out.mono ?_
        clear HX k0 k1
        rintro e w5 ⟨rfl, b5⟩
        obtain ⟨hC, hB, hz, k0, k1⟩ := HV.out
        replace hC := ownsRow_chg hC (b5.chg 0 0) (fun _ _ => .inr (Nat.zero_le _))
        replace hB := hB.next b5
        replace hz := Nat.lt_of_lt_of_le hz b5.size
        replace k0 := b5.keep k0
        replace k1 := b5.keep k1
        clear b5 HV
        have hst : V (k : Int) = 0 → rtv V (k + 1) = rtv V k ++ [.int .i64 (k : Int)] := rtv_yes
        have hsn : V (k : Int) ≠ 0 → rtv V (k + 1) = rtv V k := rtv_no
        have HSY := Lib.hid hst
        have HSN := Lib.hid hsn
        generalize V (k : Int) = v at HSY HSN ⊢
        clear hst hsn
        by_cases hv : v = 0
        · subst hv
          have HFL := Lib.hid (HSY.out rfl)
          have hqb := HN1.out
          have hvb : ((0 : Int) == 0) = true := rfl
          clear HSY HSN
          go_wp2_with (at_builtin; refine wpList_append_own _ rfl _ _ 25 rfl (w.heap.size + 1) 2 i0 (.int .i64 0) 1 8 Try.underlying25 hi' z0 z1 z2 rfl (by decide) _ _ _ rfl (hC.alloc _) ⟨w5.heap.size, 0, none⟩ 1 1 [.int .i64 (k : Int)] rfl rfl ?d1 ?d2 ?d3 ?d4 ?d5 ?_)
          case d1 => exact news_one _ _ _
          case d2 => first | (intro u hu; simp at hu; subst hu; rfl) | rfl | simp
          case d3 => unfold maxLen; omega
          case d4 => omega
          case d5 => simp; omega
          intro v3 w3 hown3 hgr _
          obtain ⟨hB3, hz3, hk3, _⟩ := grown_own hB hC (Nat.le_succ _) hgr
          replace k0 := hk3 _ _ (Nat.lt_succ_self _) k0
          replace k1 := hk3 _ _ (Nat.lt_succ_self _) k1
          rw [← HFL.out] at hown3
          have HF := Lib.hid (⟨hown3, hB3, by omega, k0, k1⟩ : _ ∧ _ ∧ w.heap.size < w3.heap.size ∧ _ ∧ _)
          clear hown3 hB3 hz3 hk3 hgr hC hB hz k0 k1
          go_wp2
          go_roundw
          case rel => exact ⟨k+1, q+1, by omega, by go_num, by omega, HF.out⟩
          case measure => simp [intOf]; omega
        · have hvb : (v == 0) = false := by simpa using hv
          have hqb := HN1.out
          rw [← HSN.out hv] at hC
          have HF := Lib.hid (⟨hC, hB, hz, k0, k1⟩ : _ ∧ _ ∧ _ ∧ _ ∧ _)
          clear hC hB hz k0 k1 hv HSY HSN
          go_wp2
          go_roundw
          case rel => exact ⟨k+1, q, by omega, by go_num, by omega, HF.out⟩
          case measure => simp [intOf]; omega
      · obtain rfl : k = N := by omega
        obtain ⟨a3, c3, rfl⟩ := own_shapeE hC
        have hqb := HN1.out
        have hql : (rtN V k).length = q := by have := hC.1; simpa [rtv] using this
        have hO := (OwI.mk hC (by omega) (rtN_I64 V k (by omega))).mono (Nat.le_succ _) (Nat.le_refl _)
        have HF := Lib.hid (⟨hO, hB⟩ : _ ∧ _)
        have HQ := Lib.hid hql
        clear hC hO hB hql hz k0 k1
        go_wp2
        go_ret2
        refine ⟨a3, c3, ?_, ?_, HF.out.2⟩
        · show _ = Ending.returned (.tuple #[.slice a3 (rtN V k).length c3, .int .i64 0])
          rw [HQ.out]; rfl
        · show OwI _ _ _ (.slice a3 (rtN V k).length c3) (rtN V k)
          rw [HQ.out]; exact HF.out.1
  · have e2 : rmOf s xss p = ([], plcCode p s xss 0) := by unfold rmOf; rw [if_neg hd]
    rw [e2]
    have hcb : (plcCode p s xss 0 == 0) = false := by simpa using hd
    have hcb2 : (plcCode p s xss 0 != 0) = true := by simpa using hd
    generalize plcCode p s xss 0 = cd at HI hcb hcb2 ⊢
    clear h hn hd e2
    go_enter Try.func31, Try.ntmps31
    go_wp2_with fail
    refine calls_gen (fun W => Below w.heap.size w W) (hb0 _) ?_
    rintro W hB
    refine (HI.out W hB).mono ?_
    rintro e w1 ⟨rfl, b1⟩
    replace hB := hB.next b1
    clear b1 HI
    go_wp2
    go_ret2
    exact ⟨none, 0, rfl, OwI.nil' _ _ _, hB⟩
end Go.Proofs.Ytnblhkhdilkbeaa
