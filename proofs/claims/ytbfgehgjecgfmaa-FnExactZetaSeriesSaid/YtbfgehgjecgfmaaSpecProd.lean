/- Products of square rows, by the model. -/
import Derived.Test.YtbfgehgjecgfmaaSpecMat
import Derived.Test.YtbfgehgjecgfmaaProd
import Derived.StillTailTactics
set_option linter.unusedSimpArgs false
set_option linter.unusedVariables false
namespace Go.Proofs.Ytbfgehgjecgfmaa
open Go.RowKit

/-- a row of the product, the first j products added up; of the next ones, those below k -/
def prow (A B : Nat → Nat → Int) (i N j k : Nat) : List Value := (List.range N).map (fun q => Value.int .i64 (if q < k then dotW (A i) (fun r => B r q) (j + 1) else dotW (A i) (fun r => B r q) j))
theorem prow_zero (A B : Nat → Nat → Int) (i N : Nat) : (madeCells #[Value.int .i64 0] N).toList = prow A B i N 0 0 := by
  rw [toList_madeCells_one]
  apply List.ext_getElem
  · simp [prow]
  · intro j h1 h2
    simp [prow, dotW]
theorem prow_skip (A B : Nat → Nat → Int) (i N j : Nat) (h : A i j = 0) : prow A B i N j 0 = prow A B i N (j + 1) 0 := by
  unfold prow
  refine List.map_congr_left fun q hq => ?_
  simp only [Nat.not_lt_zero, if_false]
  rw [dotW_skip h]
theorem prow_next (A B : Nat → Nat → Int) (i N j : Nat) : prow A B i N j N = prow A B i N (j + 1) 0 := by
  unfold prow
  refine List.map_congr_left fun q hq => ?_
  rw [if_pos (by simpa using hq)]
  simp
theorem prow_get (A B : Nat → Nat → Int) {i N j k : Nat} (hk : k < N) : (prow A B i N j k)[k]? = some (.int .i64 (dotW (A i) (fun r => B r k) j)) := by
  simp [prow, hk]
theorem prow_put (A B : Nat → Nat → Int) {i N j k : Nat} (hk : k < N) : (prow A B i N j k).set k (.int .i64 (wrap64 (dotW (A i) (fun r => B r k) j + wrap64 (A i j * B j k)))) = prow A B i N j (k + 1) := by
  apply List.ext_getElem
  · simp [prow]
  · intro q h1 h2
    rw [List.getElem_set]
    by_cases e : k = q
    · subst e; simp [prow, dotW]
    · rw [if_neg e]
      have : (q < k) ↔ (q < k + 1) := by omega
      simp [prow, this]
theorem prow_all (A B : Nat → Nat → Int) (i N : Nat) : prow A B i N N 0 = ((List.range N).map (mulM N A B i)).map (Value.int .i64) := by
  unfold prow
  rw [List.map_map]
  refine List.map_congr_left fun q hq => ?_
  simp [mulM]
theorem mulM_I64 (N : Nat) (A B : Nat → Nat → Int) (i j : Nat) : I64 (mulM N A B i j) := dotW_I64 _ _ _

set_option maxRecDepth 100000 in
set_option maxHeartbeats 6400000 in
theorem l02Product_pos {lo hi lo1 hi1 : Nat} (aa : Option Addr) (N ca : Nat) (ab : Option Addr) (cb : Nat) (A B : Nat → Nat → Int) (w : World) (hN20 : N ≤ 1000) (hA : RdR lo hi w (.slice aa N ca) (tab N A)) (hB : RdR lo1 hi1 w (.slice ab N cb) (tab N B)) (h0 : 0 < N) :
    Calls Try.prog 87 #[.slice aa N ca, .slice ab N cb] w fun e w' => ∃ a' c', e = .returned (.slice a' N c') ∧ OwR w.heap.size w'.heap.size w' (.slice a' N c') (tab N (mulM N A B)) ∧ Below w.heap.size w w' := by
  obtain ⟨i0, hi', z0, z1, z2⟩ := info_parts Try.info2
  obtain ⟨j0, hj', y0, y1, y2⟩ := info_parts Try.info26
  have HA := Lib.hid hA
  have HB := Lib.hid hB
  have hw0 : 0 < w.heap.size := by
    obtain ⟨b, off, b', off', c', _, e2, _⟩ := hA.ent (i := 0) (j := 0) (by omega) (by omega)
    have := World.block_lt_of_cell? w _ e2
    omega
  have HTL := Lib.hid (show (tab N (mulM N A B)).length = N from tab_len _ _)
  have hl0 := World.ownsRow_lit (base := w.heap.size) (e := 26) (size := 1) w #[] 0 (Nat.le_refl _) (by unfold maxLen; omega) rfl
  have hP0 : OwP w.heap.size 0 (w.alloc (.cells #[] 26)) w.heap.size 0 0 [] [] := OwP.empty hl0 (by omega)
  have HP0 := Lib.hid (⟨hP0, (Below.refl w.heap.size w).alloc (Nat.le_refl _) (.cells #[] 26)⟩ : _ ∧ _)
  obtain ⟨L, hL⟩ : ∃ L, L = w.heap.size := ⟨_, rfl⟩
  rw [← hL] at HP0
  have HLL := Lib.hid hL
  have hLw : w.heap.size ≤ L := by omega
  have hL0 : 0 < L := by omega
  clear hA hB hl0 hP0 hw0
  go_enter Try.func87, Try.ntmps87
  go_wp2
  rw [← hL]
  clear hL
  go_loopw [6, 5] (fun i v wr => ∃ (k : Nat) (rvs : List Value) (g cc : Nat), k ≤ N ∧ i = .int .i64 k ∧ v = .slice (some ⟨g, 0, none⟩) k cc ∧ OwP L 0 wr g k cc rvs ((tab N (mulM N A B)).take k) ∧ Below L w wr) (fun i _ _ => N - (intOf i).toNat)
  case atStart => exact ⟨0, [], L, 0, Nat.zero_le _, rfl, rfl, HP0.out⟩
  case round =>
    clear HP0
    obtain ⟨k, rvs, g, cc, hk, rfl, rfl, hP, hB⟩ := hrel
    obtain ⟨U, rfl⟩ : ∃ U, U = wr := ⟨_, rfl⟩
    by_cases hlt : k < N
    · have hst := tab_take (mulM N A B) hlt
      have HST := Lib.hid hst
      have HPB := Lib.hid (⟨hP, hB⟩ : _ ∧ _)
      clear hst hP hB
      go_wp2_with (at_make; refine wpList_make_full _ rfl _ _ 26 rfl U.heap.size 2 i0 (.int .i64 0) 1 Try.underlying26 hi' z0 z1 _ _ _ _ N rfl rfl rfl rfl ?c1 ?c2 ?c3 ?_)
      case c1 => rw [z2]; omega
      case c2 => unfold maxLen; omega
      case c3 => exact Nat.le_refl _
      intro w1 hown hgr
      rw [prow_zero A B k N] at hown
      have hb1 : Below U.heap.size U w1 := (Below.refl _ _).grown hgr (Nat.le_refl _) (fun j hj => by cases hj)
      clear hgr
      have HW1 := Lib.hid (⟨hown, hb1⟩ : _ ∧ _)
      clear hown hb1
      obtain ⟨R, hR⟩ : ∃ R, R = U.heap.size := ⟨_, rfl⟩
      have HRR := Lib.hid hR
      rw [← hR] at HW1 ⊢
      clear hR
      go_wp2
      go_loopw [8] (fun i wr' => ∃ f : Nat, f ≤ N ∧ i = .int .i64 f ∧ wr'.ownsRow R 2 1 (.slice (some ⟨R, 0, none⟩) N N) N (prow A B k N f 0) ∧ Below R U wr') (fun i _ => N - (intOf i).toNat)
      case atStart => exact ⟨0, Nat.zero_le _, rfl, HW1.out⟩
      case round =>
        rename_i hrel
        clear HW1
        obtain ⟨f, hf, rfl, hown, hb⟩ := hrel
        by_cases hlf : f < N
        · have hbw : Below L w wr := HPB.out.2.trans (hb.mono (by rw [HRR.out]; exact Nat.le_trans HPB.out.1.lt.1 (Nat.le_of_lt HPB.out.1.lt.2)))
          rw [HLL.out] at hbw
          obtain ⟨ba, oa, bA, oA, cA, rfl, a1, a2⟩ := (HA.out.below hbw).ent (i := k) (j := f) hlt hlf
          clear hbw
          by_cases hx : A k f = 0
          · have hsk := prow_skip A B k N f hx
            rw [hx] at a2
            rw [hsk] at hown
            have HF := Lib.hid (⟨hown, hb⟩ : _ ∧ _)
            clear hsk hown hb hx
            go_wp2
            go_roundw
            case rel => exact ⟨f+1, by omega, by go_num, HF.out⟩
            case measure => simp [intOf]; omega
          · have hxb : (A k f == 0) = false := by simpa using hx
            have HF := Lib.hid (⟨hown, hb⟩ : _ ∧ _)
            obtain ⟨U2, rfl⟩ : ∃ U2, U2 = wr := ⟨_, rfl⟩
            clear hown hb hx
            generalize hxx : A k f = xx at a2 hxb
            have HXX := Lib.hid hxx
            clear hxx
            go_wp2
            go_loopw [9] (fun i wr' => ∃ q : Nat, q ≤ N ∧ i = .int .i64 q ∧ wr'.ownsRow R 2 1 (.slice (some ⟨R, 0, none⟩) N N) N (prow A B k N f q) ∧ Below R U wr') (fun i _ => N - (intOf i).toNat)
            case atStart => exact ⟨0, Nat.zero_le _, rfl, HF.out⟩
            case round =>
              rename_i hrel
              clear HF a1 a2 hxb
              obtain ⟨q, hq, rfl, hown, hb⟩ := hrel
              by_cases hlq : q < N
              · have hbw : Below L w wr := HPB.out.2.trans (hb.mono (by rw [HRR.out]; exact Nat.le_trans HPB.out.1.lt.1 (Nat.le_of_lt HPB.out.1.lt.2)))
                rw [HLL.out] at hbw
                obtain ⟨ba2, oa2, bA, oA, cA, hee, a1, a2⟩ := (HA.out.below hbw).ent (i := k) (j := f) hlt hlf
                obtain ⟨rfl, rfl⟩ : ba2 = ba ∧ oa2 = oa := by simp at hee; exact ⟨hee.1.symm, hee.2.symm⟩
                obtain ⟨bb, ob, bB, oB, cB, rfl, d1, d2⟩ := (HB.out.below hbw).ent (i := f) (j := q) hlf hlq
                have hst := prow_put A B (i := k) (N := N) (j := f) hlq
                have h3 := (hown.cellAt q (by omega)).trans (prow_get A B hlq)
                generalize A k f = x at a2 hst
                generalize B f q = y at d2 hst
                generalize dotW (A k) (fun r => B r q) f = d at h3 hst
                obtain ⟨m, hm⟩ : ∃ m, m = wrap64 (x * y) := ⟨_, rfl⟩
                obtain ⟨s, hs⟩ : ∃ s, s = wrap64 (d + m) := ⟨_, rfl⟩
                rw [← hm, ← hs] at hst
                have t1 : IntKind.i64.wrap (x * y) = m := by rw [IntWalk.i64_left, hm]
                have t2 : IntKind.i64.wrap (d + m) = s := by rw [IntWalk.i64_left, hs]
                have t3 : wrap64 (x * y) = m := hm.symm
                have t4 : wrap64 (d + m) = s := hs.symm
                have hownD : wr.drew.ownsRow R 2 1 (.slice (some ⟨R, 0, none⟩) N N) N (prow A B k N f q) := ownsRow_chg hown ((Qt.refl wr).drew.chg 0 0) (fun _ _ => .inr (Nat.zero_le _))
                have hsto := (hownD.stored q (.int .i64 s)).1
                have hfr := hownD.frozenAt q
                rw [hst] at hsto
                have HF := Lib.hid (⟨hsto, hb.drew.setCell (p := ⟨R, q, none⟩) (Nat.le_refl _) _⟩ : _ ∧ Below R U (wr.drew.setCell ⟨R, q, none⟩ (.int .i64 s)))
                have g2 : wr.drew.cell? ⟨R, q, none⟩ = some (.int .i64 d) := h3
                clear hst hm hs hsto hownD hown hb hbw hee
                go_wp2
                go_still_tail 23, (by kernel_rfl)
                change wpList _ _ _ _ _ wr.drew
                clear a1 a2 d1 d2 h3
                generalize wr.drew = V at HF g2 hfr ⊢
                go_wp2
                go_roundw
                case rel => exact ⟨q+1, by omega, by go_num, HF.out⟩
                case measure => simp [intOf]; omega
              · obtain rfl : q = N := by omega
                rw [prow_next] at hown
                have HF := Lib.hid (⟨hown, hb⟩ : _ ∧ _)
                clear hown hb
                go_wp2
                go_roundw
                case rel => exact ⟨f+1, by omega, by go_num, HF.out⟩
                case measure => simp [intOf]; omega
        · obtain rfl : f = N := by omega
          rw [prow_all] at hown
          have hO : OwI R wr.heap.size wr (.slice (some ⟨R, 0, none⟩) f f) ((List.range f).map (mulM f A B k)) := OwI.mk hown (by omega) (fun x hx => by
            simp only [List.mem_map] at hx
            obtain ⟨j, _, rfl⟩ := hx
            exact mulM_I64 _ _ _ k j)
          obtain ⟨hP, hB⟩ := HPB.out
          rw [HRR.out] at hO hb
          have hownV := (hP.below hb).out.alloc (.cells #[.slice (some ⟨R, 0, none⟩) f f] 26)
          have hnews := news_one wr 26 (.slice (some ⟨R, 0, none⟩) f f)
          have hszw := hb.size
          have hlt2 : L ≤ g ∧ g < U.heap.size := hP.lt
          rw [← HRR.out] at hO
          have HP := Lib.hid (⟨hO, hP, hB, hb⟩ : _ ∧ _ ∧ _ ∧ _)
          clear hO hP hB hown hb
          go_wp2_with (at_builtin; refine wpList_append_lies _ rfl _ _ 22 rfl L 26 j0 (.slice none 0 0) 1 24 Try.underlying22 hj' y0 y1 y2 rfl (by decide) _ _ _ rfl hownV ⟨wr.heap.size, 0, none⟩ 1 1 [.slice (some ⟨R, 0, none⟩) f f] rfl rfl ?c1 ?c2 (by decide) ?c3 ?c4 ?c5 _ rfl ?_)
          case c1 => exact hnews
          case c2 => first | (intro u hu; simp at hu; subst hu; rfl) | rfl | simp
          case c3 => unfold maxLen; omega
          case c4 => omega
          case c5 => simp; omega
          intro g2 c3 w3 hown3 hgr hlie hlt3
          obtain ⟨hO, hP, hB, hb⟩ := HP.out
          rw [HRR.out] at hO hown3
          have hV3 := hP.snocF (hi := wr.heap.size) (by omega) hb hO hown3 hgr (hlie.imp id (fun e => by rw [e]; simp))
          have hb3 : Chg g (g + 1) U w3 := snocC hb hgr
          rw [← HST.out] at hV3
          have hB3 := hB.chgn hb3 hlt2.1 (by omega)
          have HF := Lib.hid (⟨hV3, hB3⟩ : _ ∧ _)
          clear hO hP hB hb hV3 hb3 hB3 hown3 hgr hlie hnews hownV
          go_wp2
          go_roundw
          case rel => exact ⟨k+1, _, g2, c3, by omega, by go_num, rfl, HF.out⟩
          case measure => simp [intOf]; omega
    · obtain rfl : k = N := by omega
      rw [List.take_of_length_le (by rw [HTL.out]; exact Nat.le_refl _)] at hP
      have hbig : k ≤ 8796093022208 := by omega
      have hO := OwR.mono (hP.owr hbig) hLw (Nat.le_refl _)
      rw [HLL.out] at hB
      have HF := Lib.hid (⟨hO, hB⟩ : _ ∧ _)
      clear hO hbig hP hB
      go_wp2
      go_ret
      exact ⟨_, _, rfl, HF.out⟩

set_option maxRecDepth 100000 in
theorem l02Product_zero (aa : Option Addr) (ca : Nat) (ab : Option Addr) (cb : Nat) (A B : Nat → Nat → Int) (w : World) :
    Calls Try.prog 87 #[.slice aa 0 ca, .slice ab 0 cb] w fun e w' => ∃ a' c', e = .returned (.slice a' 0 c') ∧ OwR w.heap.size w'.heap.size w' (.slice a' 0 c') (tab 0 (mulM 0 A B)) ∧ Below w.heap.size w w' := by
  have hl0 := World.ownsRow_lit (base := w.heap.size) (e := 26) (size := 1) w #[] 0 (Nat.le_refl _) (by unfold maxLen; omega) rfl
  have hO : OwR w.heap.size (w.alloc (.cells #[] 26)).heap.size (w.alloc (.cells #[] 26)) (.slice (some ⟨w.heap.size, 0, none⟩) 0 0) (tab 0 (mulM 0 A B)) := OwR.nil hl0 (Nat.le_refl _)
  have HF := Lib.hid (⟨hO, (Below.refl w.heap.size w).alloc (Nat.le_refl _) (.cells #[] 26)⟩ : _ ∧ _)
  clear hO hl0
  go_enter Try.func87, Try.ntmps87
  go_wp2
  refine wp_loop_rounds 1 ?_
  rw [rounds_succ]
  go_wp2
  go_ret
  exact ⟨_, _, rfl, HF.out⟩
theorem l02Product {lo hi lo1 hi1 : Nat} (aa : Option Addr) (N ca : Nat) (ab : Option Addr) (cb : Nat) (A B : Nat → Nat → Int) (w : World) (hN20 : N ≤ 1000) (hA : RdR lo hi w (.slice aa N ca) (tab N A)) (hB : RdR lo1 hi1 w (.slice ab N cb) (tab N B)) :
    Calls Try.prog 87 #[.slice aa N ca, .slice ab N cb] w fun e w' => ∃ a' c', e = .returned (.slice a' N c') ∧ OwR w.heap.size w'.heap.size w' (.slice a' N c') (tab N (mulM N A B)) ∧ Below w.heap.size w w' := by
  by_cases h : N = 0
  · subst h; exact l02Product_zero aa ca ab cb A B w
  · exact l02Product_pos aa N ca ab cb A B w hN20 hA hB (by omega)

end Go.Proofs.Ytbfgehgjecgfmaa
