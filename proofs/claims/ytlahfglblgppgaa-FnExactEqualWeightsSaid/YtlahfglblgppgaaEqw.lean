/- EqualWeights of the program and of the model. -/
import Derived.Test.YtlahfglblgppgaaRep
import Derived.Test.YtlahfglblgppgaaNumC
set_option linter.unusedSimpArgs false
set_option linter.unusedVariables false
set_option maxRecDepth 100000
namespace Go.Proofs.Ytlahfglblgppgaa
open Go.RowKit

def eqwOf (p s : Int) (xss : List (List Int)) (t : Int) : List Int × Int := if numCode p s xss t = 0 then (List.replicate (2 * xss.length) t, 0) else ([], numCode p s xss t)
theorem numCode_ok {p s : Int} {xss : List (List Int)} {t : Int} (h : numCode p s xss t = 0) : grB s xss = true ∧ primeB p = true ∧ 0 ≤ t ∧ t < p := by
  unfold numCode at h
  split at h
  · rename_i hg
    split at h
    · rename_i hp
      split at h
      · rename_i hr
        simp only [inR, Bool.and_eq_true, decide_eq_true_eq] at hr
        exact ⟨hg, hp, hr⟩
      · omega
    · omega
  · omega

set_option maxHeartbeats 1600000 in
theorem implEqw {lo hi : Nat} (p s : Int) (a : Option Addr) (n c : Nat) (xss : List (List Int)) (t : Int) (w : World) (h : RdR lo hi w (.slice a n c) xss) (hn : xss.length = n) :
    Calls Try.prog 20 #[.int .i64 p, .agg #[.int .i64 s, .slice a n c], .int .i64 t] w fun e w' => ∃ a' c', e = .returned (.tuple #[.slice a' (eqwOf p s xss t).1.length c', .int .i64 (eqwOf p s xss t).2]) ∧ OwI w.heap.size w'.heap.size w' (.slice a' (eqwOf p s xss t).1.length c') (eqwOf p s xss t).1 ∧ Below w.heap.size w w' := by
  have hb0 : ∀ o, Below w.heap.size w (w.alloc o) := fun o => (Below.refl _ _).alloc (Nat.le_refl _) o
  have HN := Lib.hid hn
  have HR := Lib.hid h
  obtain ⟨P, hP⟩ : ∃ P, P = eqwOf p s xss t := ⟨_, rfl⟩
  rw [← hP]
  unfold eqwOf at hP
  rw [hn] at hP
  have HP := Lib.hid hP
  clear hn h hP
  go_enter Try.func20, Try.ntmps20
  go_wp2_with fail
  refine calls_gen (fun W => Below w.heap.size w W ∧ W.cell? ⟨w.heap.size, 0, none⟩ = some (.int .i64 s) ∧ W.cell? ⟨w.heap.size, 1, none⟩ = some (.slice a n c)) ⟨hb0 _, by go_simp, by go_simp⟩ ?_
  rintro W ⟨hB, k0, k1⟩
  refine (checkResidue p s a n c xss t W (HR.out.below hB) HN.out).mono ?_
  rintro e w1 ⟨rfl, b1⟩
  replace k0 := b1.keep k0
  replace k1 := b1.keep k1
  replace hB := hB.next b1
  clear b1
  have HOK := Lib.hid (fun h => numCode_ok (p := p) (s := s) (xss := xss) (t := t) h)
  generalize numCode p s xss t = cd at HP HOK ⊢
  by_cases hc : cd = 0
  case neg =>
    have hP := HP.out
    rw [if_neg hc] at hP
    have hcb : (cd != 0) = true := by simpa using hc
    subst hP
    clear HP HOK hc k0 k1
    go_wp2
    refine bodyPost_ret (v := .tuple #[.slice none 0 0, .int .i64 cd]) (by simp [results, Try.results20, go_sem]) rfl ⟨none, 0, rfl, OwI.nil' _ _ _, hB⟩
  have hP := HP.out
  rw [if_pos hc] at hP
  obtain ⟨hg, hp, ht0, ht1⟩ := HOK.out hc
  have hp2 := primeB_hd hp
  have hn10 : n ≤ 10 := by have := grB_iff hg; have := HN.out; omega
  have ht : I64 t := by unfold I64; omega
  have hm1 : IntKind.i64.wrap (2 * (n : Int)) = ((2 * n : Nat) : Int) := by rw [show 2 * (n : Int) = ((2 * n : Nat) : Int) by omega]; exact IntWalk.i64_in _ (by omega)
  obtain ⟨C, hC⟩ : ∃ C, C = 2 * n := ⟨_, rfl⟩
  rw [← hC] at hP hm1
  have hC20 : C ≤ 20 := by omega
  subst hP
  subst hc
  clear HP HOK hg hp hp2 hC ht0 ht1
  have hA : Below w1.heap.size w1 (w1.alloc (.cells #[.int .i64 t] 2)) := (Below.refl _ _).alloc (Nat.le_refl _) _
  have k2 := hA.keep k1
  have hsz : w.heap.size ≤ (w1.alloc (.cells #[.int .i64 t] 2)).heap.size := by have := hB.size; have := hA.size; omega
  have k3 : (w1.alloc (.cells #[.int .i64 t] 2)).cell? ⟨w1.heap.size, 0, none⟩ = some (.int .i64 t) := by go_simp
  have HBA := Lib.hid (⟨hB.next hA, hsz⟩ : _ ∧ _)
  clear hB hA hsz k0 k1
  go_wp2_with fail
  generalize w1.alloc (.cells #[.int .i64 t] 2) = w2 at *
  refine (slRepeat w1.heap.size 0 1 C t _ hC20 k3 ht).mono ?_
  rintro e w3 ⟨a', c', rfl, o3, b3⟩
  have HF := Lib.hid (⟨OwI.mono o3 HBA.out.2 (Nat.le_refl _), HBA.out.1.next b3⟩ : _ ∧ _)
  clear o3 b3 k2 k3
  go_wp2
  refine bodyPost_ret (v := .tuple #[.slice a' C c', .int .i64 0]) (by simp [results, Try.results20, go_sem]) rfl ⟨a', c', by simp, by simpa using HF.out.1, HF.out.2⟩

set_option maxHeartbeats 1600000 in
theorem specEqw {lo hi : Nat} (p s : Int) (a : Option Addr) (n c : Nat) (xss : List (List Int)) (t : Int) (w : World) (h : RdR lo hi w (.slice a n c) xss) (hn : xss.length = n) :
    Calls Try.prog 18 #[.int .i64 p, .agg #[.int .i64 s, .slice a n c], .int .i64 t] w fun e w' => ∃ a' c', e = .returned (.tuple #[.slice a' (eqwOf p s xss t).1.length c', .int .i64 (eqwOf p s xss t).2]) ∧ OwI w.heap.size w'.heap.size w' (.slice a' (eqwOf p s xss t).1.length c') (eqwOf p s xss t).1 ∧ Below w.heap.size w w' := by
  obtain ⟨i0, hi', z0, z1, z2⟩ := info_parts Try.info2
  have hb0 : ∀ o, Below w.heap.size w (w.alloc o) := fun o => (Below.refl _ _).alloc (Nat.le_refl _) o
  have HN := Lib.hid hn
  have HR := Lib.hid h
  obtain ⟨P, hP⟩ : ∃ P, P = eqwOf p s xss t := ⟨_, rfl⟩
  rw [← hP]
  unfold eqwOf at hP
  rw [hn] at hP
  have HP := Lib.hid hP
  clear hn h hP
  go_enter Try.func18, Try.ntmps18
  go_wp2_with fail
  refine calls_gen (fun W => Below w.heap.size w W ∧ W.cell? ⟨w.heap.size, 0, none⟩ = some (.int .i64 s) ∧ W.cell? ⟨w.heap.size, 1, none⟩ = some (.slice a n c)) ⟨hb0 _, by go_simp, by go_simp⟩ ?_
  rintro W ⟨hB, k0, k1⟩
  refine (l06Number p s a n c xss t W (HR.out.below hB) HN.out).mono ?_
  rintro e w1 ⟨rfl, b1⟩
  replace k0 := b1.keep k0
  replace k1 := b1.keep k1
  replace hB := hB.next b1
  clear b1
  have HOK := Lib.hid (fun h => numCode_ok (p := p) (s := s) (xss := xss) (t := t) h)
  generalize numCode p s xss t = cd at HP HOK ⊢
  by_cases hc : cd = 0
  case neg =>
    have hP := HP.out
    rw [if_neg hc] at hP
    have hcb : (cd != 0) = true := by simpa using hc
    subst hP
    clear HP HOK hc k0 k1
    go_wp2
    refine bodyPost_ret (v := .tuple #[.slice none 0 0, .int .i64 cd]) (by simp [results, Try.results18, go_sem]) rfl ⟨none, 0, rfl, OwI.nil' _ _ _, hB⟩
  have hP := HP.out
  rw [if_pos hc] at hP
  obtain ⟨hg, hp, ht0, ht1⟩ := HOK.out hc
  have hp2 := primeB_hd hp
  have hn10 : n ≤ 10 := by have := grB_iff hg; have := HN.out; omega
  have ht : I64 t := by unfold I64; omega
  have hm1 : IntKind.i64.wrap (2 * (n : Int)) = ((2 * n : Nat) : Int) := by rw [show 2 * (n : Int) = ((2 * n : Nat) : Int) by omega]; exact IntWalk.i64_in _ (by omega)
  obtain ⟨C, hC⟩ : ∃ C, C = 2 * n := ⟨_, rfl⟩
  rw [← hC] at hP hm1
  have hC20 : C ≤ 20 := by omega
  subst hP
  subst hc
  have HB := Lib.hid hB
  have hl0 := World.ownsRow_lit (base := w1.heap.size) (e := 2) (size := 1) w1 #[] 0 (Nat.le_refl _) (by unfold maxLen; omega) rfl
  have hu1 : Below w1.heap.size w1 (w1.alloc (.cells #[] 2)) := (Below.refl _ _).alloc (Nat.le_refl _) _
  have HC := Lib.hid hC20
  clear HP HOK hg hp hp2 hC ht0 ht1 hB k0
  go_wp2_with fail
  go_loopw [9, 10] (fun v i wr => ∃ (k g c' : Nat), k ≤ C ∧ i = .int .i64 k ∧ v = .slice (some ⟨g, 0, none⟩) k c' ∧ wr.ownsRow w1.heap.size 2 1 (.slice (some ⟨g, 0, none⟩) k c') k (List.replicate k (Value.int .i64 t)) ∧ Below w1.heap.size w1 wr) (fun _ i _ => C - (intOf i).toNat)
  case atStart => exact ⟨0, w1.heap.size, 0, Nat.zero_le _, rfl, rfl, hl0, hu1⟩
  case round =>
    clear hl0 hu1
    obtain ⟨k, g, c', hk, rfl, rfl, hown, hU⟩ := hrel
    have k2 := hU.keep k1
    by_cases hlt : k < C
    · have hg0 := (hown.lt g rfl).1
      have hownV := hown.alloc (.cells #[.int .i64 t] 2)
      have hnews := news_one wr 2 (.int .i64 t)
      have hs3 := hU.size
      have hU2 := hU.alloc hU.size (.cells #[.int .i64 t] 2)
      have hU2s := hU2.size
      have HU := Lib.hid (⟨hU, hU2⟩ : _ ∧ _)
      clear hU hU2 hown
      go_wp2_with (at_builtin; refine wpList_append_lies _ rfl _ _ 26 rfl w1.heap.size 2 i0 (.int .i64 0) 1 8 Try.underlying26 hi' z0 z1 z2 rfl (by decide) _ _ _ rfl hownV ⟨wr.heap.size, 0, none⟩ 1 1 [.int .i64 t] rfl rfl ?d1 ?d2 (by decide) ?d3 ?d4 ?d5 _ rfl ?_)
      case d1 => exact hnews
      case d2 => first | (intro u hu; simp at hu; subst hu; rfl) | rfl | simp
      case d3 => unfold maxLen; omega
      case d4 => omega
      case d5 => simp; omega
      intro g4 c4 w4 hown3 hgr hlie hlt3
      replace hown3 : w4.ownsRow w1.heap.size 2 1 (.slice (some ⟨g4, 0, none⟩) (k + 1) c4) (k + 1) (List.replicate (k + 1) (Value.int .i64 t)) := by
        rw [List.replicate_succ']
        simpa using hown3
      have hb4 := HU.out.2.grown hgr hU2s (fun q hq => by
        have : g = q := by simpa [Value.ownBlock] using hq
        omega)
      have F := Lib.hid (⟨hown3, hb4⟩ : _ ∧ _)
      clear hown3 hb4 hgr hlie
      go_wp2
      go_roundw
      case rel => exact ⟨k+1, g4, c4, by omega, by go_num, rfl, F.out⟩
      case measure => simp [intOf]; omega
    · obtain rfl : k = C := by omega
      have hown2 : wr.ownsRow w1.heap.size 2 1 (.slice (some ⟨g, 0, none⟩) k c') k ((List.replicate k t).map (Value.int .i64)) := by rw [List.map_replicate]; exact hown
      have HO := Lib.hid (OwI.mono (OwI.mk hown2 (by omega) (fun x hx => by rw [List.eq_of_mem_replicate hx]; exact ht)) HB.out.size (Nat.le_refl _))
      have HBW := Lib.hid (HB.out.next hU)
      clear hown hown2 hU
      go_wp2
      refine bodyPost_ret (v := .tuple #[.slice (some ⟨g, 0, none⟩) k c', .int .i64 0]) (by simp [results, Try.results18, go_sem]) rfl ⟨some ⟨g, 0, none⟩, c', by simp, by simpa using HO.out, HBW.out⟩

end Go.Proofs.Ytlahfglblgppgaa
