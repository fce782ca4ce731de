/- The program's directed edges: their memory is new. -/
import Derived.Test.YtgcidkcedfliiaaCoreB
import Derived.Deep.RegionHeld3
set_option linter.unusedSimpArgs false
set_option linter.unusedVariables false
namespace Go.Proofs.Ytgcidkcedfliiaa
open Go.RowKit

set_option maxRecDepth 100000 in
set_option maxHeartbeats 6400000 in
theorem directedOfL {lo hi : Nat} (s : Int) (a : Option Addr) (n c : Nat) (xss : List (List Int)) (w : World) (h : RdR lo hi w (.slice a n c) xss) (hn : xss.length = n) (hg : grB s xss = true) :
    Calls Try.prog 94 #[.agg #[.int .i64 s, .slice a n c]] w fun e w' => ∃ a' c', e = .returned (.slice a' (2 * n) c') ∧ RdE w' a' (dirE (pairs xss)) ∧ Below w.heap.size w w' ∧ ∀ b, a' = some ⟨b, 0, none⟩ → w.heap.size ≤ b := by
  obtain ⟨i0, hi', z0, z1, z2⟩ := info_parts Try.info64
  have hb0 : ∀ o, Below w.heap.size w (w.alloc o) := fun o => (Below.refl _ _).alloc (Nat.le_refl _) o
  obtain ⟨hs1, hs2, h3, h4⟩ := grB_iff hg
  have hn10 : n ≤ 10 := by omega
  have HEO := Lib.hid (fun W' (h : RdR lo hi W' (.slice a n c) xss) => edgesOf s a n c xss W' h hg hn)
  obtain ⟨es, hes⟩ : ∃ es, es = pairs xss := ⟨_, rfl⟩
  have HEL := Lib.hid (show es.length = n by rw [hes, pairs_len]; exact hn)
  have HN := Lib.hid hn
  have HES := Lib.hid hes
  rw [← hes]
  clear hn hg h3 h4 hes
  go_enter Try.func94, Try.ntmps94
  go_wp2_with fail
  refine calls_gen (fun W => Below w.heap.size w W ∧ w.heap.size < W.heap.size) ⟨hb0 _, by simp⟩ ?_
  rintro W ⟨hB, hz⟩
  refine (HEO.out W (h.below hB)).mono ?_
  rintro e w2 ⟨a2, c2, rfl, o2, b2⟩
  replace hB := hB.next b2
  have HRE := Lib.hid (RdE.mk o2 (by rw [pairs_len]; exact HN.out))
  rw [← HES.out] at HRE
  have HK := Lib.hid hB
  clear o2 b2 hB hz
  go_wp2
  go_loopw [9, 3] (fun i kv wr => ∃ q m : Nat, q ≤ n ∧ i = .int .i64 q ∧ m = 2 * q ∧ wr.ownsRow w2.heap.size 64 2 kv m (flat (dirE (es.take q))) ∧ Below w2.heap.size w2 wr) (fun i _ _ => n - (intOf i).toNat)
  case atStart => exact ⟨0, 0, Nat.zero_le _, rfl, rfl, World.ownsRow_nil _ _ _ _, Below.refl _ _⟩
  case round =>
    rename_i hrel
    obtain ⟨q, m, hq, rfl, hmq, hown, hB⟩ := hrel
    have HM := Lib.hid hmq
    have hm20 : m ≤ 20 := by omega
    clear hmq
    by_cases hlq : q < n
    · have hqe : q < es.length := by rw [HEL.out]; exact hlq
      obtain ⟨b, rfl, hb2, h1, h2⟩ := HRE.out q hqe
      replace h1 := hB.keep h1
      replace h2 := hB.keep h2
      have hst := dirE_step hqe
      generalize (es.getD q (0, 0)).1 = p0 at *
      generalize (es.getD q (0, 0)).2 = p1 at *
      have HST := Lib.hid hst
      have HOWN := Lib.hid (⟨hown, hB⟩ : _ ∧ _)
      clear hst
      go_wp2
      have hA := (Below.refl wr.heap.size wr).alloc (Nat.le_refl _) (.cells #[.int .i64 p0, .int .i64 p1] 64)
      have z3 : (wr.alloc (.cells #[.int .i64 p0, .int .i64 p1] 64)).cell? ⟨wr.heap.size, 0, none⟩ = some (.int .i64 p0) := by go_simp
      have z4 : (wr.alloc (.cells #[.int .i64 p0, .int .i64 p1] 64)).cell? ⟨wr.heap.size, 1, none⟩ = some (.int .i64 p1) := by go_simp
      have ownV := ownsRow_chg hown (hA.chg 0 0) (fun _ _ => .inr (Nat.zero_le _))
      obtain ⟨V, hV⟩ : ∃ V, V = wr.alloc (.cells #[.int .i64 p0, .int .i64 p1] 64) := ⟨_, rfl⟩
      rw [← hV] at z3 z4 hA ownV ⊢
      have hBV := hB.next hA
      clear hV hown h1 h2
      have hm63 : m + 2 ≤ maxLen := by unfold maxLen; omega
      have hby : (m + 2) * 16 ≤ 140737488355328 := by omega
      go_region_held3 (fun W' => W'.cell? ⟨wr.heap.size, 0, none⟩ = some (.int .i64 p0) ∧ W'.cell? ⟨wr.heap.size, 1, none⟩ = some (.int .i64 p1))
        (first | (exact ⟨z3, z4⟩) | (exact ⟨z3c, z4c⟩) | (exact ⟨z3b, z4b⟩) | go_keep)
        (first
          | (go_at_call 77; refine (reversed p0 p1 _).mono ?_; rintro e w5 ⟨rfl, b5⟩; have hV5 : Below V.heap.size V w5 := (by first | exact b5 | exact (Qt.refl V).drew.below.next b5); have z3b := hV5.keep z3; have z4b := hV5.keep z4; have ownX := ownsRow_chg ownV (hV5.chg 0 0) (fun _ _ => .inr (Nat.zero_le _)); have hBX := hBV.next hV5; have hszX := hBX.size; have ownY := fun o => ownX.alloc o)
          | (refine step_append_lies _ rfl (.tmp 13) (.tmp 17) 61 rfl w2.heap.size 64 i0 (.agg #[.int .i64 0, .int .i64 0]) 2 16 Try.underlying61 hi' z0 z1 z2 rfl (by decide) u3 m (flat (dirE (es.take q))) (by simp [Act.eval, Act.put]) (ownY _) ⟨w5.heap.size, 0, none⟩ 2 2 [.int .i64 p0, .int .i64 p1, .int .i64 p1, .int .i64 p0] (by simp [Act.eval, Act.put]) rfl (fun j u hj => by have := news4 w5 64 (.int .i64 p0) (.int .i64 p1) (.int .i64 p1) (.int .i64 p0) j u hj; exact this) (fun u hu => by simp at hu; rcases hu with rfl | rfl | rfl | rfl <;> rfl) (by decide) hm63 hby (by simp; omega) (w5.heap.size + 1) (by simp) ?_; intro g2 c3 w3 hown3 hgr hlie hlt3; have hgr2 : (w5.alloc (.cells #[.int .i64 p0, .int .i64 p1, .int .i64 p1, .int .i64 p0] 64)).grownBy w3 u3.ownBlock := ⟨hgr.os, hgr.tape, hgr.output, hgr.size, hgr.block⟩; have hcc := grown_own hBX ownX (Nat.le_refl _) hgr2; have z3c : w3.cell? ⟨wr.heap.size, 0, none⟩ = some (.int .i64 p0) := hgr2.cell (((Below.refl w5.heap.size w5).alloc (Nat.le_refl _) _).keep z3b) (fun e => by have := (HOWN.out.1.lt wr.heap.size e.symm).2; omega); have z4c : w3.cell? ⟨wr.heap.size, 1, none⟩ = some (.int .i64 p1) := hgr2.cell (((Below.refl w5.heap.size w5).alloc (Nat.le_refl _) _).keep z4b) (fun e => by have := (HOWN.out.1.lt wr.heap.size e.symm).2; omega)))
      all_goals
        obtain ⟨hB3, hz3, _, _⟩ := hcc
        have e9 : flat (dirE (es.take q)) ++ [.int .i64 p0, .int .i64 p1, .int .i64 p1, .int .i64 p0] = flat (dirE (es.take (q + 1))) := by rw [HST.out, flat_snoc2]
        rw [e9] at hown3
        have HF := Lib.hid (⟨hown3, hB3⟩ : _ ∧ _)
        clear e9 hown3 hB3 hgr hgr2 hlie ownX ownY ownV
        go_wp2
        go_roundw
        case rel => exact ⟨q+1, m+2, by omega, by go_num, by have := HM.out; omega, HF.out⟩
        case measure => simp [intOf]; omega
    · obtain rfl : q = n := by omega
      rw [List.take_of_length_le (by rw [HEL.out]; exact Nat.le_refl _)] at hown
      obtain ⟨ao, co, hkv⟩ : ∃ ao co, u3 = .slice ao m co := by
        rcases hown.2 with ⟨h, h'⟩ | ⟨g, cap, cur, h, _⟩
        · exact ⟨none, 0, by rw [h, h']⟩
        · exact ⟨_, _, h⟩
      subst hkv
      obtain rfl := HM.out
      have hE := RdE.mk hown (by rw [dirE_len, HEL.out])
      have HLO := Lib.hid (fun b (e : ao = some (⟨b, 0, none⟩ : Addr)) => show w.heap.size ≤ b from Nat.le_trans HK.out.size ((hown.lt b (by rw [e]; rfl)).1))
      have HH := Lib.hid (⟨hE, HK.out.next hB⟩ : _ ∧ _)
      clear hown hE hB
      go_wp2
      go_ret
      exact ⟨ao, ⟨co, rfl⟩, HH.out.1, HH.out.2, HLO.out⟩

end Go.Proofs.Ytgcidkcedfliiaa
