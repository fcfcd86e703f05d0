/-
  The law ReasmNeeds: its walk.
-/
import Derived.Test.YtgmgnokmeocmjaaReasmV4
namespace Go.Proofs.Ytgmgnokmeocmjaa
set_option linter.unusedVariables false
open Go.RowKit

/-- Just the bytes that were needed, behind a head: one frame. -/
theorem need_just {l more : List UInt8} {most : Int} (h : parseK l most = 16) (h9 : 9 ≤ l.length) (hm : (more.length : Int) = needI l) : ∃ f, allF most (l ++ more).length (l ++ more) = some ([f], []) := by
  have hlen : (l ++ more).length = l.length + more.length := List.length_append
  unfold needI at hm
  rw [if_neg (by omega)] at hm
  rcases parseK_16 h with h | ⟨_, h2, h3⟩
  · omega
  have ht : (l ++ more).take 3 = l.take 3 := List.take_append_of_le_length (by omega)
  have h0 : parseK (l ++ more) most = 0 := by
    unfold parseK
    rw [ht, if_neg (by omega), if_neg (by omega), if_neg (by omega)]
  obtain ⟨m, _, hA⟩ := allF_0 (Nat.le_refl _) h0
  have hd : (l ++ more).drop (lenF (l ++ more)) = [] := by
    apply List.drop_of_length_le
    unfold lenF
    rw [ht]
    omega
  rw [hd, allF_16 (r := []) rfl] at hA
  exact ⟨_, hA⟩
theorem need_less {l more : List UInt8} {most : Int} (h : parseK l most = 16) (hm : (more.length : Int) < needI l) : allF most (l ++ more).length (l ++ more) = some ([], l ++ more) :=
  allF_16 (parse_need h hm)
theorem need_le {l : List UInt8} (h : parseK l 300 = 16) : 1 ≤ needI l ∧ needI l ≤ 309 := by
  refine ⟨(needI_pos h).1, ?_⟩
  have := numL_take3 l
  unfold needI
  rcases parseK_16 h with h | ⟨h1, h2, h3⟩
  · rw [if_pos h]; omega
  · rw [if_neg (by omega)]; omega

theorem fill_set (n k : Nat) (b : UInt8) (h : k < n) : (bytesA (List.replicate k b ++ List.replicate (n - k) 0)).setIfInBounds k (byteV b) = bytesA (List.replicate (k + 1) b ++ List.replicate (n - (k + 1)) 0) := by
  apply Array.ext'
  obtain ⟨m, rfl⟩ : ∃ m, n = k + (m + 1) := ⟨n - k - 1, by omega⟩
  rw [show k + (m + 1) - k = m + 1 by omega, show k + (m + 1) - (k + 1) = m by omega]
  simp only [bytesA, Array.toList_setIfInBounds, List.map_append, List.map_replicate, List.replicate_succ (n := m)]
  rw [List.set_append_right _ _ (by simp), List.replicate_succ']
  simp

set_option maxRecDepth 100000 in
set_option maxHeartbeats 12800000 in
theorem ReasmNeeds_any (A : Option Addr) (bs : List UInt8) (c : Nat) (z : Int) (w : World) (hlc : bs.length ≤ c) (hcm : c ≤ maxLen) (hA : BS w A bs) (hz : (Lit.int .u8 z).wf = true) :
    Calls Try.prog 5 #[.slice A bs.length c, .int .u8 z] w fun e w' => e = .returned (.bool true) ∧ Below w.heap.size w w' := by
  have HW := Lib.hid awake_true
  have hz0 := wf_u8_bd hz
  have hzb := byte_mk z (by omega) (by omega)
  generalize UInt8.ofNat z.toNat = cb at hzb
  have HZB := Lib.hid hzb
  clear hz hzb
  by_cases h2 : 200 < bs.length
  · have h2' : (200 : Int) < (bs.length : Int) := by omega
    go_enter Try.func5, Try.ntmps5
    go_wp2_with fail
    with_reducible refine (HW.out _).mono ?_
    rintro e w3 ⟨rfl, hf3⟩
    have HF3 := Lib.hid hf3
    clear hf3
    go_wp2
    go_ret
    exact ⟨rfl, HF3.out⟩
  · have h2' : ¬ (200 : Int) < (bs.length : Int) := by omega
    have HA := Lib.hid hA
    obtain ⟨r, hr⟩ : ∃ r, allF 300 (([] : List UInt8) ++ bs).length ([] ++ bs) = r := ⟨_, rfl⟩
    have HALL := Lib.hid hr
    clear hA hr
    cases r with
    | none =>
      go_enter Try.func5, Try.ntmps5
      go_wp2_with fail
      with_reducible refine (rnew 300 _ (by omega) (by omega)).mono ?_
      rintro e w1 ⟨p, rfl, hp, hr1, hf1⟩
      have HR1 := Lib.hid hr1
      have HF1 := Lib.hid hf1
      clear hr1 hf1
      go_wp2_with fail
      (with_reducible refine (rfeed_none p 300 [] _ A bs.length c bs w1 HR1.out rfl (HA.out.fresh HF1.out) (by omega) HALL.out).mono ?_)
      rintro e w5 ⟨rfl, hd5, hO5⟩
      have HD5 := Lib.hid hd5
      have HF5 : Hid (Fresh w w5) := Below.trans HF1.out (Only.below hO5 HF1.out.size (fun k hk => by
        rcases hk with rfl | hk
        · exact hp
        · cases hk))
      clear hd5 hO5
      go_wp2_with fail
      with_reducible refine (rneeds_dead p _ HD5.out).mono ?_
      rintro e w6 ⟨rfl, rfl⟩
      go_wp2_with fail
      with_reducible refine (rdead_yes p _ HD5.out).mono ?_
      rintro e w6 ⟨rfl, rfl⟩
      go_wp2_with fail
      with_reducible refine (rdead_yes p _ HD5.out).mono ?_
      rintro e w6 ⟨rfl, rfl⟩
      go_wp2_with fail
      with_reducible refine (HW.out _).mono ?_
      rintro e w6 ⟨rfl, hf6⟩
      have HF6 := Lib.hid (HF5.out.trans hf6)
      clear hf6
      go_wp2
      go_ret
      exact ⟨rfl, HF6.out⟩
    | some P =>
      obtain ⟨fs, l⟩ := P
      have hinv : parseK l 300 = 16 := allF_rest _ _ (Nat.le_refl _) _ HALL.out
      have hll : l.length ≤ bs.length := (allF_suffix _ _ _ HALL.out).2
      obtain ⟨n, hn⟩ : ∃ n : Nat, needI l = (n : Int) := ⟨(needI l).toNat, by have := needI_pos hinv; omega⟩
      have hnl := need_le hinv
      rw [hn] at hnl
      have HN := Lib.hid hn
      have hn1 : ¬ (n : Int) < 1 := by omega
      have hn4 : ¬ (400 : Int) < (n : Int) := by omega
      have hmk := run_makeZ (P := Try.prog) Try.underlying29 u8_info rfl n (n : Int) (by omega) (by omega) (by omega)
      have HLess : Hid (allF 300 (l ++ List.replicate (n - 1) cb).length (l ++ List.replicate (n - 1) cb) = some ([], l ++ List.replicate (n - 1) cb)) := need_less hinv (by rw [List.length_replicate, hn]; omega)
      have HJust : Hid (9 ≤ l.length → ∃ f, allF 300 (l ++ List.replicate n cb).length (l ++ List.replicate n cb) = some ([f], [])) := fun h9 => need_just hinv h9 (by rw [List.length_replicate, hn])
      clear hn hinv
      go_enter Try.func5, Try.ntmps5
      go_wp2_with fail
      with_reducible refine (rnew 300 _ (by omega) (by omega)).mono ?_
      rintro e w1 ⟨p, rfl, hp, hr1, hf1⟩
      have HR1 := Lib.hid hr1
      have HF1 := Lib.hid hf1
      clear hr1 hf1
      go_wp2_with fail
      (with_reducible refine (rfeed p 300 [] _ A bs.length c bs _ w1 HR1.out rfl (HA.out.fresh HF1.out) (by omega) HALL.out).mono ?_)
      rintro e w5 ⟨h5, _⟩
      obtain ⟨A5, n5, c5, fs5, v5, rfl, hn5, ho5, hfs5, hr5, hO5, hv5, _⟩ := h5 _ rfl
      have HR5 := Lib.hid hr5
      have HF5 : Hid (Fresh w w5) := Below.trans HF1.out (Only.below hO5 HF1.out.size (fun k hk => by
        rcases hk with rfl | hk
        · exact hp
        · cases hk))
      have HV5 : Hid (∀ k, v5.ownBlock = some k → w.heap.size ≤ k) := fun k hk => by
        rcases hv5 k hk with h | h
        · cases h
        · have := HF1.out.size; omega
      clear hr5 hO5 hv5 h5 ho5 hfs5 hn5
      go_wp2_with fail
      with_reducible refine (rneeds p 300 l v5 _ HR5.out).mono ?_
      rintro e w6 ⟨rfl, rfl⟩
      rw [HN.out]
      go_wp2_with fail
      with_reducible refine (rdead_no p 300 l v5 _ HR5.out).mono ?_
      rintro e w6 ⟨rfl, rfl⟩
      go_wp2_with fail
      with_reducible refine (rwaiting p 300 l v5 _ HR5.out).mono ?_
      rintro e w6 ⟨rfl, rfl⟩
      go_wp2_with fail
      with_reducible refine (rcopy p 300 l v5 _ HR5.out).mono ?_
      rintro e w7 ⟨q, u, rfl, hq, hc7, hu, hf7⟩
      have HC7 := Lib.hid hc7
      have HR7 := Lib.hid (HR5.out.fresh hf7)
      have HF7 := Lib.hid (HF5.out.trans hf7)
      have hpw5 := HR5.out.blk.lt
      have HPQ : Hid (p ≠ q ∧ u.ownBlock ≠ some p ∧ ∀ k, v5.ownBlock = some k → k ≠ q ∧ u.ownBlock ≠ some k) := by
        refine ⟨by omega, fun e => ?_, fun k hk => ?_⟩
        · have := hu p e; omega
        · have h1 := (HR5.out.ne k hk).2
          exact ⟨by omega, fun e => by have := hu k e; omega⟩
      have HU : Hid (w.heap.size ≤ q ∧ ∀ k, u.ownBlock = some k → w.heap.size ≤ k) := ⟨by have := HF5.out.size; omega, fun k hk => by have := hu k hk; have := HF5.out.size; omega⟩
      clear hc7 hf7 hu hpw5
      go_wp2
      go_loopw [64] (fun i wr => ∃ k : Nat, k ≤ n ∧ i = .int .i64 (k : Int) ∧ Fresh w7 wr ∧ Blk wr w7.heap.size 5 (bytesA (List.replicate k cb ++ List.replicate (n - k) 0))) (fun i _ => n - (intOf i).toNat)
      case atStart => exact ⟨0, Nat.zero_le _, rfl, Fresh.alloc _ _, by rw [madeCells_zero]; exact Blk.new _ _ _⟩
      case round =>
        obtain ⟨k, hk, rfl, hf8, hb8⟩ := hrel
        have HF8 := Lib.hid hf8
        have HB8 := Lib.hid hb8
        clear hf8 hb8
        by_cases hlt : k < n
        · have hlt' : (k : Int) < (n : Int) := by omega
          have hfz := HB8.out.frozen k
          obtain ⟨old, hold⟩ : ∃ old, wr.cell? ⟨w7.heap.size, k, none⟩ = some old := by
            rw [HB8.out.cell k]
            exact ⟨_, Array.getElem?_eq_getElem (by rw [bytesA_size]; simp; omega)⟩
          have hS := Lib.hid (fill_set n k cb hlt)
          have hB9 := Lib.hid (HB8.out.set k (.int .u8 z))
          have hG9 : Hid (Fresh w7 (wr.setCell ⟨w7.heap.size, k, none⟩ (.int .u8 z))) := Below.trans HF8.out (Only.below (Only.setCell wr ⟨w7.heap.size, k, none⟩ _) HF8.out.size (fun i e => by simp at e; omega))
          go_wp2
          go_roundw
          case rel => exact ⟨k + 1, by omega, by go_num, hG9.out, by rw [← hS.out, ← HZB.out]; exact hB9.out⟩
          case measure => simp [intOf]; omega
        · obtain rfl : k = n := by omega
          rw [Nat.sub_self, List.replicate_zero, List.append_nil] at HB8
          have HBS := Lib.hid (BS.row HB8.out)
          have HT1 := Lib.hid (HBS.out.take (k - 1))
          have htk : (List.replicate k cb).take (k - 1) = List.replicate (k - 1) cb := by rw [List.take_replicate]; congr 1; omega
          rw [htk] at HT1
          have hk1 : (k : Int) - 1 = ((k - 1 : Nat) : Int) := by omega
          have hcut := run_cut_to (P := Try.prog) Try.underlying29 u8_size (some ⟨w7.heap.size, 0, none⟩) k k (k - 1) (by omega)
          rw [← hk1] at hcut
          have HC8 := Lib.hid (HC7.out.fresh HF8.out)
          have HR8 := Lib.hid (HR7.out.fresh HF8.out)
          have HF8' := Lib.hid (HF7.out.trans HF8.out)
          have hpl7 := HR7.out.blk.lt
          have HVN : Hid (∀ kk, v5.ownBlock = some kk → kk ≠ w7.heap.size) := fun kk hk e => by
            have := (HR7.out.ne kk hk).2
            omega
          have HQN : Hid (q ≠ w7.heap.size ∧ u.ownBlock ≠ some w7.heap.size) := ⟨by have := HC7.out.blk.lt; omega, fun e => by have := (HC7.out.ne _ e).2; omega⟩
          clear htk hk1 hlt
          go_wp2_with fail
          (with_reducible refine (rfeed q 300 l u (some ⟨w7.heap.size, 0, none⟩) (k - 1) k (List.replicate (k - 1) cb) _ wr HC8.out (by rw [List.length_replicate]) HT1.out (by omega) HLess.out).mono ?_)
          rintro e w9 ⟨h9, _⟩
          obtain ⟨A9, n9, c9, fs9, v9, rfl, hn9, ho9, hfs9, hr9, hO9, hv9, _⟩ := h9 _ rfl
          have hn0 : n9 = 0 := hn9
          subst hn0
          have HR9 : Hid (RsAt w9 p 300 l v5) := HR8.out.only hO9 (by
            rintro (e | e)
            · exact HPQ.out.1 e
            · exact HPQ.out.2.1 e) (fun kk hk => by
            rintro (e | e)
            · exact (HPQ.out.2.2 kk hk).1 e
            · exact (HPQ.out.2.2 kk hk).2 e)
          have HBS9 : Hid (BS w9 (some ⟨w7.heap.size, 0, none⟩) (List.replicate k cb)) := HBS.out.only hO9 (fun b o e => by
            simp at e
            obtain ⟨rfl, _⟩ := e
            rintro (e | e)
            · exact HQN.out.1 e.symm
            · exact HQN.out.2 e)
          have HF9 : Hid (Fresh w w9) := Below.trans HF8'.out (Only.below hO9 HF8'.out.size (fun kk hk => by
            rcases hk with rfl | hk
            · exact HU.out.1
            · exact HU.out.2 _ hk))
          clear hn9 h9 ho9 hfs9 hr9 hO9 hv9
          obtain ⟨r2, hr2⟩ : ∃ r2, allF 300 (l ++ List.replicate k cb).length (l ++ List.replicate k cb) = r2 := ⟨_, rfl⟩
          have HR2 := Lib.hid hr2
          clear hr2
          by_cases hl9 : 9 ≤ l.length
          · have hl9' : (9 : Int) ≤ (l.length : Int) := by omega
            obtain ⟨f, hf⟩ := HJust.out hl9
            rw [HR2.out] at hf
            subst hf
            go_wp2_with fail
            (with_reducible refine (rfeed p 300 l v5 (some ⟨w7.heap.size, 0, none⟩) k k (List.replicate k cb) _ w9 HR9.out (by rw [List.length_replicate]) HBS9.out (by omega) HR2.out).mono ?_)
            rintro e w10 ⟨h10, _⟩
            obtain ⟨A10, n10, c10, fs10, v10, rfl, hn10, ho10, hfs10, hr10, hO10, hv10, _⟩ := h10 _ rfl
            have hn0 : n10 = 1 := hn10
            subst hn0
            have HR10 := Lib.hid hr10
            have HF10 : Hid (Fresh w w10) := Below.trans HF9.out (Only.below hO10 HF9.out.size (fun kk hk => by
              rcases hk with rfl | hk
              · exact hp
              · exact HV5.out _ hk))
            clear hn10 h10 ho10 hfs10 hr10 hO10 hv10
            go_wp2_with fail
            with_reducible refine (rwaiting p 300 [] v10 _ HR10.out).mono ?_
            rintro e w11 ⟨rfl, rfl⟩
            go_wp2_with fail
            with_reducible refine (HW.out _).mono ?_
            rintro e w11 ⟨rfl, hf11⟩
            have HF11 := Lib.hid (HF10.out.trans hf11)
            clear hf11
            go_wp2
            go_ret
            exact ⟨rfl, HF11.out⟩
          · have hl9' : ¬ (9 : Int) ≤ (l.length : Int) := by omega
            have HFV := Lib.hid (rfeedV p 300 (some l) _ v5 (some ⟨w7.heap.size, 0, none⟩) k k (List.replicate k cb) w9 (show RsV w9 p 300 (some l) v5 from HR9.out) (by rw [List.length_replicate]) HBS9.out (by omega) rfl)
            go_wp2_with fail
            with_reducible refine HFV.out.mono ?_
            rintro e w10 ⟨A10, n10, c10, z10, v10, rfl, hr10, hO10, hv10⟩
            have HF10 : Hid (Fresh w w10) := Below.trans HF9.out (Only.below hO10 HF9.out.size (fun kk hk => by
              rcases hk with rfl | hk
              · exact hp
              · exact HV5.out _ hk))
            clear hr10 hO10 hv10
            go_wp2_with fail
            with_reducible refine (HW.out _).mono ?_
            rintro e w11 ⟨rfl, hf11⟩
            have HF11 := Lib.hid (HF10.out.trans hf11)
            clear hf11
            go_wp2
            go_ret
            exact ⟨rfl, HF11.out⟩
end Go.Proofs.Ytgmgnokmeocmjaa
