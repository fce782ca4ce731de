/- Determinants modulo a prime, of the program. -/
import Derived.Test.YtebgbplhcaocoaaResP
import Derived.Test.YtebgbplhcaocoaaWz
set_option linter.unusedSimpArgs false
set_option linter.unusedVariables false
set_option maxRecDepth 100000
namespace Go.Proofs.Ytebgbplhcaocoaa
open Go.RowKit

set_option maxHeartbeats 1600000 in
theorem residuesOf (es : List (Int × Int)) (a : Option Addr) (n c : Nat) (w : World) (h : RdP w a es) (hl : es.length = n) (hn : n ≤ 100) (hI : ∀ e ∈ es, I64 e.1) :
    Calls Try.prog 107 #[.slice a n c] w fun e w' => e = .returned (.slice (some ⟨w.heap.size, 0, none⟩) n n) ∧ OwI w.heap.size w'.heap.size w' (.slice (some ⟨w.heap.size, 0, none⟩) n n) (es.map Prod.fst) ∧ Below w.heap.size w w' := by
  obtain ⟨i0, hi', z0, z1, z2⟩ := info_parts Try.info2
  have HR := Lib.hid (fun W (hB : Below w.heap.size w W) => h.below hB)
  have HL := Lib.hid hl
  obtain ⟨xs, hxs⟩ : ∃ xs, xs = es.map Prod.fst := ⟨_, rfl⟩
  rw [← hxs]
  have HXL := Lib.hid (show xs.length = n by rw [hxs, List.length_map]; exact hl)
  have HXG := Lib.hid (fun j (hj : j < n) => show xs.getD j 0 = (es.getD j (0, 0)).1 by
    have : j < es.length := by omega
    rw [hxs]; simp [List.getD, List.getElem?_eq_getElem this])
  have HXI := Lib.hid (show ∀ x ∈ xs, I64 x from fun x hx => by
    rw [hxs] at hx
    obtain ⟨e, he, rfl⟩ := List.mem_map.1 hx
    exact hI e he)
  clear hxs hI h hl
  go_enter Try.func107, Try.ntmps107
  go_wp2_with (at_make; refine wpList_make_full _ rfl _ _ 37 rfl w.heap.size 2 i0 (.int .i64 0) 1 Try.underlying37 hi' z0 z1 _ _ _ _ n rfl rfl rfl rfl ?c1 ?c2 ?c3 ?_)
  case c1 => rw [z2]; omega
  case c2 => unfold maxLen; omega
  case c3 => exact Nat.le_refl _
  intro w1 hown hgr
  rw [setTo_zero xs n] at hown
  have hbl : Below w.heap.size w w1 := (Below.refl _ _).grown hgr (Nat.le_refl _) (by simp)
  clear hgr
  obtain ⟨G, hG⟩ : ∃ G, G = w.heap.size := ⟨_, rfl⟩
  rw [← hG] at hown ⊢
  have HG := Lib.hid hG
  have HS := Lib.hid (⟨hown, hbl⟩ : _ ∧ _)
  clear hG hown hbl
  go_wp2
  go_loopw [11] (fun v wr => ∃ k : Nat, k ≤ n ∧ v = .int .i64 k ∧ wr.ownsRow G 2 1 (.slice (some ⟨G, 0, none⟩) n n) n (setTo xs k n) ∧ Below w.heap.size w wr) (fun v _ => n - (intOf v).toNat)
  case atStart => exact ⟨0, Nat.zero_le _, rfl, HS.out⟩
  case round =>
    clear HS
    obtain ⟨k, hk, rfl, hown, hB⟩ := hrel
    by_cases hlt : k < n
    · obtain ⟨b, off, rfl, g0, g1⟩ := HR.out wr hB k (by rw [HL.out]; exact hlt)
      rw [← HXG.out k hlt] at g0
      have hA : Below wr.heap.size wr (wr.alloc (.cells #[.int .i64 (xs.getD k 0), .int .i64 (es.getD k (0, 0)).2] 119)) := (Below.refl _ _).alloc (Nat.le_refl _) _
      have hownA := ownsRow_chg hown (hA.chg 0 0) (fun _ _ => .inr (Nat.zero_le _))
      have c0 := (hownA.cellAt k (by omega)).trans (setTo_get xs k n HXL.out hlt)
      have f0 := hownA.frozenAt k
      have v0 : (wr.alloc (.cells #[.int .i64 (xs.getD k 0), .int .i64 (es.getD k (0, 0)).2] 119)).cell? ⟨wr.heap.size, 0, none⟩ = some (.int .i64 (xs.getD k 0)) := by go_simp
      have hst := (hownA.stored k (.int .i64 (xs.getD k 0))).1
      rw [setTo_step xs k n HXL.out hlt] at hst
      have hb2 := (hB.next hA).setCell (p := ⟨G, k, none⟩) (Nat.le_of_eq HG.out.symm) (.int .i64 (xs.getD k 0))
      have HF := Lib.hid (⟨hst, hb2⟩ : _ ∧ _)
      have hkn : (k : Int) < (n : Int) := by omega
      clear hst hb2 hownA hown hB hA
      generalize (es.getD k (0, 0)).2 = q at *
      generalize xs.getD k 0 = x at *
      go_wp2
      go_roundw
      case rel => exact ⟨k+1, by omega, by go_num, HF.out⟩
      case measure => simp [intOf]; omega
    · obtain rfl : k = n := by omega
      rw [setTo_all xs k HXL.out] at hown
      have HO := Lib.hid (⟨OwI.mk hown (by omega) HXI.out, hB⟩ : _ ∧ _)
      clear hown hB
      go_wp2
      go_ret
      exact ⟨by rw [← HG.out]; rfl, by rw [← HG.out]; exact HO.out.1, HO.out.2⟩

end Go.Proofs.Ytebgbplhcaocoaa
