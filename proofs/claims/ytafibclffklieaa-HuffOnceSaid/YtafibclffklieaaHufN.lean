/-
  The law HuffOnce.
-/
import Derived.Test.YtafibclffklieaaHufI
import Derived.Test.YtafibclffklieaaShapeW
namespace Go.Proofs.Ytafibclffklieaa
set_option linter.unusedVariables false
set_option linter.unusedSimpArgs false
open Go.RowKit
section
variable {p : Nat} {w w' : World} {A : Option Addr} {l : List UInt8}
/-- Bytes that stay, whatever is done to block p. -/
def Keeps (p : Nat) (w : World) (A : Option Addr) (l : List UInt8) : Prop := ∀ w', Only (· = p) w w' → BS w' A l
theorem Keeps.on (h : Keeps p w A l) (ho : Only (· = p) w w') : Keeps p w' A l := fun _ h2 => h _ (ho.trans h2)
theorem Keeps.bs (h : Keeps p w A l) : BS w A l := h _ (Only.refl _ _)
theorem Keeps.own {base c : Nat} (h : Own w base 5 1 (.slice A l.length c) l.length (l.map byteV)) (hp : p < base) : Keeps p w A l := fun w' ho =>
  (h.only ho (fun k hk e => by have := (h.lt k hk).1; omega)).bytes.1
theorem Keeps.str (h : Keeps p w A l) (c : Nat) : (convert 27 9 (.slice A l.length c)).run Try.prog w = .ok (.string (strB l)) w :=
  run_str (P := Try.prog) h.bs 27 9 5 Try.underlying27 Try.underlying5 Try.underlying9 c
/-- A coder made, somewhere. -/
theorem CodAt.coder {h : CodAt w p (hdC 1 0 1) Cod.made} : CoderAt w p true := h
def OnceEnc (p : Nat) (l : List UInt8) (w : World) (e : Ending) (w' : World) : Prop := ∃ (O : List UInt8) (A : Option Addr) (c : Nat), e = .returned (.slice A O.length c) ∧ IsEnc l O ∧ Keeps p w' A O ∧ CoderAt w' p true ∧ Only (· = p) w w'
theorem once_enc (r : Bool) (c : Nat) (h : CoderAt w p r) (hA : ∀ b o, A = some ⟨b, o, none⟩ → 0 < l.length → b ≠ p) (hB : BS w A l) (hl : l.length ≤ 100000000) :
    Calls Try.prog 21 #[.pointer (some ⟨p, 0, none⟩), .slice A l.length c] w (OnceEnc p l w) :=
  (hf_encode p r A c l w h hA hB hl).mono (fun e w' hh => by
    obtain ⟨O, A9, c9, he, henc, base, hb, hown, hc, ho⟩ := hh
    exact ⟨O, A9, c9, he, henc, Keeps.own hown (by have := h.lt; omega), hc, ho⟩)
def OnceDec (p : Nat) (D : List Bool) (w : World) (e : Ending) (w' : World) : Prop := ∃ (A : Option Addr) (c : Nat), e = .returned (.tuple #[.slice A (decE D).2.length c, .int .i64 ((decE D).1 : Int)]) ∧ Keeps p w' A (decE D).2 ∧ CoderAt w' p true ∧ Only (· = p) w w'
theorem once_dec (r : Bool) (c : Nat) (h : CoderAt w p r) (hA : ∀ b o, A = some ⟨b, o, none⟩ → 0 < l.length → b ≠ p) (hB : BS w A l) (hl : l.length ≤ 100000000) :
    Calls Try.prog 20 #[.pointer (some ⟨p, 0, none⟩), .slice A l.length c] w (OnceDec p (bitsL l) w) :=
  (hf_decode p r A c l w h hA hB hl).mono (fun e w' hh => by
    obtain ⟨A9, c9, base, he, hb, hown, hc, ho⟩ := hh
    exact ⟨A9, c9, he, Keeps.own hown (by have := h.lt; omega), hc, ho⟩)
def FreeEnc (p : Nat) (l : List UInt8) (w : World) (e : Ending) (w' : World) : Prop := ∃ (O : List UInt8) (A : Option Addr) (c : Nat), e = .returned (.slice A O.length c) ∧ IsEnc l O ∧ Keeps p w' A O ∧ Fresh w w'
theorem free_enc (c : Nat) (hp : p < w.heap.size) (hB : BS w A l) (hl : l.length ≤ 100000000) :
    Calls Try.prog 11 #[.slice A l.length c] w (FreeEnc p l w) :=
  (huff_encode A c l w hB hl).mono (fun e w' hh => by
    obtain ⟨O, A9, c9, he, henc, hown, hf⟩ := hh
    exact ⟨O, A9, c9, he, henc, Keeps.own hown hp, hf⟩)
def FreeDec (p : Nat) (D : List Bool) (w : World) (e : Ending) (w' : World) : Prop := ∃ (A : Option Addr) (c : Nat), e = .returned (.tuple #[.slice A (decE D).2.length c, .int .i64 ((decE D).1 : Int)]) ∧ Keeps p w' A (decE D).2 ∧ Fresh w w'
theorem free_dec (c : Nat) (hp : p < w.heap.size) (hB : BS w A l) (hl : l.length ≤ 100000000) :
    Calls Try.prog 15 #[.slice A l.length c] w (FreeDec p (bitsL l) w) :=
  (huff_decode A c l w hB hl).mono (fun e w' hh => by
    obtain ⟨A9, c9, he, hown, hf⟩ := hh
    exact ⟨A9, c9, he, Keeps.own hown hp, hf⟩)
end
set_option maxRecDepth 100000 in
set_option maxHeartbeats 6400000 in
theorem HuffOnce_any (s : BSls) (w : World) (hs : s.Ok w) :
    Calls Try.prog 7 #[.slice s.A s.xs.length s.c] w fun e w' => e = .returned (.bool true) ∧ Below w.heap.size w w' := by
  have HW := Lib.hid hf_awake
  have HNEW := Lib.hid (hf_new w)
  have HSO := Lib.hid hs
  obtain ⟨SA, sc, xs⟩ := s
  simp only at *
  obtain ⟨n, hn⟩ : ∃ n, xs.length = n := ⟨_, rfl⟩
  have HN := Lib.hid hn
  have hle : n ≤ 9000000000000000 := by have h1 := hs.le; have h2 := hs.max; simp only at h1 h2; omega
  rw [hn]
  clear hs hn
  by_cases h20 : 20 < n
  · have h20' : (20 : Int) < (n : Int) := by omega
    have h20d : decide ((20 : Int) < (n : Int)) = true := by simpa using h20'
    go_enter Try.func7, Try.ntmps7
    go_wp2_with fail
    with_reducible refine HNEW.out.mono ?_
    rintro e w1 ⟨p, rfl, _, _, hf1⟩
    go_wp2_with (go_at_call 9; with_reducible refine (HW.out _).mono ?_; rintro e w6 ⟨rfl, hf6⟩)
    go_ret
    exact ⟨rfl, hf1.trans hf6⟩
  have h20' : ¬ (20 : Int) < (n : Int) := by omega
  have h20d : decide ((20 : Int) < (n : Int)) = false := by simpa using h20'
  go_enter Try.func7, Try.ntmps7
  go_wp2_with fail
  with_reducible refine HNEW.out.mono ?_
  rintro e w1 ⟨p, rfl, hb1, hp1, hf1⟩
  have HC1 := Lib.hid (coder_new hb1)
  have HF1 := Lib.hid hf1
  have HP := Lib.hid hp1
  have HMD0 := Lib.hid (hf_made p false w1 HC1.out)
  have HMD : Hid (∀ W, CoderAt W p true → Calls Try.prog 18 #[.pointer (some ⟨p, 0, none⟩)] W fun e w' => e = .returned (.int .i64 1) ∧ W = w') := Lib.hid (fun W h => hf_made p true W h)
  clear hb1 hf1 hp1
  go_wp2_with (go_at_call 18; with_reducible refine HMD0.out.mono ?_; rintro e w2 ⟨rfl, rfl⟩)
  go_loopw [34] (fun i wr => ∃ (k : Nat) (r : Bool), k ≤ n ∧ i = .int .i64 (k : Int) ∧ CoderAt wr p r ∧ Fresh w wr) (fun i _ => n - (intOf i).toNat)
  case atStart => exact ⟨0, false, by omega, rfl, HC1.out, HF1.out⟩
  case round =>
    obtain ⟨k, r, hk, rfl, hc, hf⟩ := hrel
    have HC := Lib.hid hc
    have HF := Lib.hid hf
    clear hc hf
    by_cases hlt : k < n
    · have hlt' : (k : Int) < (n : Int) := by omega
      have h0 : (0 : Int) ≤ (k : Int) := by omega
      have hkx : k < xs.length := by rw [HN.out]; exact hlt
      obtain ⟨bq, o, rfl, hbq, hcell⟩ := HSO.out.rows.one k xs[k] (List.getElem?_eq_getElem hkx)
      have hx := HSO.out.ok xs[k] (List.getElem_mem hkx)
      generalize xs[k] = x at *
      obtain ⟨B, bc, b⟩ := x
      have hcell2 := HF.out.cell (p := ⟨bq, o + k, none⟩) hbq
      rw [hcell] at hcell2
      simp only [BSl.cells, List.getElem?_cons_zero] at hcell2
      have HBS := Lib.hid hx.bs
      simp only at HBS
      have HNP : Hid (∀ b' o', B = some ⟨b', o', none⟩ → 0 < b.length → b' ≠ p) := Lib.hid (fun b' o' e hn => by
        obtain ⟨b2, o2, e2, hlt2, _⟩ := HBS.out hn
        rw [e] at e2
        simp at e2
        have := HP.out
        omega)
      clear hx hcell
      by_cases hbl : 100 < b.length
      · have hbl' : (100 : Int) < (b.length : Int) := by omega
        generalize b.length = m at *
        go_wp2_with (go_at_call 9; with_reducible refine (HW.out _).mono ?_; rintro e w6 ⟨rfl, hf6⟩)
        exact bodyPost_ret (v := .bool true) (by simp [results, Try.f7, go_sem]) rfl ⟨rfl, HF.out.trans hf6⟩
      have hbl' : ¬ (100 : Int) < (b.length : Int) := by omega
      have HKB : Hid (∀ W, Fresh w W → Keeps p W B b) := Lib.hid (fun W hf W' ho hn => ((HBS.out.fresh hf).only ho (fun b' o' e hb => HNP.out b' o' e hn hb)) hn)
      have HCC : Hid (∀ W r, CoderAt W p r → Calls Try.prog 19 #[.pointer (some ⟨p, 0, none⟩), .int .i64 (k : Int)] W fun e w' => e = .returned (.tuple #[.int .u32 (numF k : Int), .int .i64 (ln k : Int), .int .i64 0]) ∧ CoderAt w' p true ∧ Only (· = p) W w') := Lib.hid (fun W r h => hf_code p k r W h (by omega))
      have HCF : Hid (∀ W, Calls Try.prog 8 #[.int .i64 (k : Int)] W fun e w' => e = .returned (.tuple #[.int .u32 (numF k : Int), .int .i64 (ln k : Int), .int .i64 0]) ∧ Fresh W w') := Lib.hid (fun W => huff_code k W (by omega))
      obtain ⟨er, O, hde⟩ : ∃ er O, decE (bitsL b) = (er, O) := ⟨_, _, rfl⟩
      obtain ⟨q, hq⟩ : ∃ q, O.length = q := ⟨_, rfl⟩
      obtain ⟨SO, hSO⟩ : ∃ SO, strB O = SO := ⟨_, rfl⟩
      have HDC : Hid (∀ W r, CoderAt W p r → Fresh w W → Calls Try.prog 20 #[.pointer (some ⟨p, 0, none⟩), .slice B b.length bc] W fun e w' => ∃ (A : Option Addr) (c : Nat), e = .returned (.tuple #[.slice A q c, .int .i64 (er : Int)]) ∧ Keeps p w' A O ∧ CoderAt w' p true ∧ Only (· = p) W w') := Lib.hid (fun W r h hf => (once_dec r bc h HNP.out (HKB.out W hf).bs (by omega)).mono (fun e w' hh => by
        obtain ⟨A9, c9, he, hk, hc, ho⟩ := hh
        rw [hde] at he hk
        exact ⟨A9, c9, by rw [he, ← hq], hk, hc, ho⟩))
      have HDF : Hid (∀ W r, CoderAt W p r → Fresh w W → Calls Try.prog 15 #[.slice B b.length bc] W fun e w' => ∃ (A : Option Addr) (c : Nat), e = .returned (.tuple #[.slice A q c, .int .i64 (er : Int)]) ∧ Keeps p w' A O ∧ Fresh W w') := Lib.hid (fun W r h hf => (free_dec bc h.lt (HKB.out W hf).bs (by omega)).mono (fun e w' hh => by
        obtain ⟨A9, c9, he, hk, ho⟩ := hh
        rw [hde] at he hk
        exact ⟨A9, c9, by rw [he, ← hq], hk, ho⟩))
      have HSTR : Hid (∀ W A c, Keeps p W A O → (convert 27 9 (.slice A q c)).run Try.prog W = .ok (.string SO) W) := Lib.hid (fun W A c h => by
        have := h.str c
        rwa [hq, hSO] at this)
      clear hde hq hSO
      have HEC : Hid (∀ W r, CoderAt W p r → Fresh w W → Calls Try.prog 21 #[.pointer (some ⟨p, 0, none⟩), .slice B b.length bc] W (OnceEnc p b W)) := Lib.hid (fun W r h hf => once_enc r bc h HNP.out (HKB.out W hf).bs (by omega))
      have HEF : Hid (∀ W r, CoderAt W p r → Fresh w W → Calls Try.prog 11 #[.slice B b.length bc] W (FreeEnc p b W)) := Lib.hid (fun W r h hf => free_enc bc h.lt (HKB.out W hf).bs (by omega))
      generalize b.length = m at *
      generalize ln k = lk at *
      generalize numF k = nk at *
      go_upto_region 11 with fail
      go_wp2_with (go_at_call 19; with_reducible refine (HCC.out _ _ HC.out).mono ?_; rintro e w3 ⟨rfl, hc3, ho3⟩)
      have HC3 : Hid (CoderAt w3 p true) := Lib.hid hc3
      have HF3 := Lib.hid (Fresh.onlyB HF.out ho3 HP.out)
      clear hc3 ho3 hcell2
      go_wp2_with (go_at_call 8; with_reducible refine (HCF.out _).mono ?_; rintro e w4 ⟨rfl, hf4⟩)
      have HC4 := Lib.hid (HC3.out.fresh hf4)
      have HF4 := Lib.hid (HF3.out.trans hf4)
      clear hf4
      go_wp2_with (go_at_call 20; with_reducible refine (HDC.out _ _ HC4.out HF4.out).mono ?_; rintro e w5 ⟨A5, c5, rfl, hk5, hc5, ho5⟩)
      have HK5 := Lib.hid hk5
      have HC5 := Lib.hid hc5
      have HF5 := Lib.hid (Fresh.onlyB HF4.out ho5 HP.out)
      clear hk5 hc5 ho5
      go_upto_region 15 with (go_at_call 15; with_reducible refine (HDF.out _ _ HC5.out HF5.out).mono ?_; rintro e w6 ⟨A6, c6, rfl, hk6, hf6⟩)
      have HK6 := Lib.hid hk6
      have HK56 := Lib.hid (HK5.out.on (Only.of_fresh hf6))
      have HC6 := Lib.hid (HC5.out.fresh hf6)
      have HF6 := Lib.hid (HF5.out.trans hf6)
      clear hk6 hf6
      have HSK : Hid (∀ w', CoderAt w' p true → Only (· = p) w6 w' → (convert 27 9 (.slice A5 q c5)).run Try.prog w' = .ok (.string SO) w' ∧ (convert 27 9 (.slice A6 q c6)).run Try.prog w' = .ok (.string SO) w' ∧ Only (· = p) w6 w') := Lib.hid (fun w' hc ho => ⟨HSTR.out _ _ _ (HK56.out.on ho), HSTR.out _ _ _ (HK6.out.on ho), ho⟩)
      have s1 : (SO.toList == SO.toList) = true := beq_self_eq_true _
      refine wp_region_held_drew (S := (fun w' => (convert 27 9 (.slice A5 q c5)).run Try.prog w' = .ok (.string SO) w' ∧ (convert 27 9 (.slice A6 q c6)).run Try.prog w' = .ok (.string SO) w' ∧ Only (· = p) w6 w')) (by kernel_rfl) (HSK.out _ (HC6.out.fresh (Fresh.drew _)) (Only.of_fresh (Fresh.drew _))) (fun hHeld => ?_)
      refine wpAnyH_take (i := 0) (v := ?_) rfl (by kernel_rfl) (by kernel_rfl) (by kernel_rfl) (fun _ _ _ h => h) (Or.inl ⟨by rfl, ?_⟩) (by assumption) ?_; rotate_left; focus (intro w hSw; (try dsimp only at hSw); go_simp; (try with_reducible rfl); done)
      (try simp only [Act.put, List.getElem_toArray, List.getElem_cons_zero, List.getElem_cons_succ, List.setIfInBounds_toArray, List.set_cons_zero, List.set_cons_succ])
      refine wpAnyH_take (i := 1) (v := ?_) rfl (by kernel_rfl) (by kernel_rfl) (by kernel_rfl) (fun _ _ _ h => h) (Or.inl ⟨by rfl, ?_⟩) (by assumption) ?_; rotate_left; focus (intro w hSw; (try dsimp only at hSw); go_simp; (try with_reducible rfl); done)
      (try simp only [Act.put, List.getElem_toArray, List.getElem_cons_zero, List.getElem_cons_succ, List.setIfInBounds_toArray, List.set_cons_zero, List.set_cons_succ])
      refine wpAnyH_take (i := 4) (v := ?_) rfl (by kernel_rfl) (by kernel_rfl) (by kernel_rfl) (fun _ _ _ h => h) (Or.inl ⟨by rfl, ?_⟩) (by assumption) ?_; rotate_left; focus (intro w hSw; (try dsimp only at hSw); go_simp; (try with_reducible rfl); done)
      (try simp only [Act.put, List.getElem_toArray, List.getElem_cons_zero, List.getElem_cons_succ, List.setIfInBounds_toArray, List.set_cons_zero, List.set_cons_succ])
      refine wpAnyH_ready (rs := [2]) (by kernel_rfl) (by simp) ?_
      refine AllReadyH.cons rfl (fun K hK => ?_) AllReadyH.nil
      (go_simp; go_at_call 21; (with_reducible refine (HEC.out _ _ (HC6.out.fresh (Fresh.drew _)) (HF6.out.trans (Fresh.drew _))).mono ?_); rintro e w7 ⟨OE, A7, c7, rfl, henc7, hk7, hc7, ho7⟩; have HG7 := Lib.hid (Only.trans (Only.of_fresh (Fresh.drew w6)) ho7); have HC7 := Lib.hid hc7; have HF7 := Lib.hid (Fresh.onlyB HF6.out HG7.out HP.out); have HE7 := Lib.hid henc7; have HK7 := Lib.hid hk7; have hcv7 := hk7.str c7; clear henc7 hk7 hc7 ho7; obtain ⟨SE, hSE⟩ : ∃ SE, strB OE = SE := ⟨_, rfl⟩; have HSE := Lib.hid hSE; rw [hSE] at hcv7; clear hSE)
      refine hK.out _ _ (HSK.out _ HC7.out HG7.out) (fun hHeld => ?_)
      clear hK K
      (try simp only [Act.put, List.getElem_toArray, List.getElem_cons_zero, List.getElem_cons_succ, List.setIfInBounds_toArray, List.set_cons_zero, List.set_cons_succ])
      have s2 : (SE.toList == SE.toList) = true := beq_self_eq_true _
      refine wpAnyH_ready (rs := [3, 5]) (by kernel_rfl) (by simp) ?_
      refine AllReadyH.cons rfl (fun K hK => ?_) (AllReadyH.cons rfl (fun K hK => ?_) AllReadyH.nil)
      go_simp
      refine hK.out _ _ hHeld (fun hHeld => ?_)
      clear hK K
      (try simp only [Act.put, List.getElem_toArray, List.getElem_cons_zero, List.getElem_cons_succ, List.setIfInBounds_toArray, List.set_cons_zero, List.set_cons_succ])
      refine wpAnyH_ready (rs := [5]) (by kernel_rfl) (by simp) ?_
      refine AllReadyH.cons rfl (fun K hK => ?_) AllReadyH.nil
      (go_simp; go_at_call 11; (with_reducible refine (HEF.out _ _ HC7.out HF7.out).mono ?_); rintro e w8 ⟨OE2, A8, c8, rfl, henc8, hk8, hf8⟩; obtain rfl := HE7.out.uniq henc8; have HG8 := Lib.hid (HG7.out.trans (Only.of_fresh hf8)); have HC8 := Lib.hid (HC7.out.fresh hf8); have HF8 := Lib.hid (HF7.out.trans hf8); have hcv8 := hk8.str c8; have hcv78 := (HK7.out.on (Only.of_fresh hf8)).str c7; rw [HSE.out] at hcv8 hcv78; clear henc8 hk8 hf8)
      refine hK.out _ _ (HSK.out _ HC8.out HG8.out) (fun hHeld => ?_)
      clear hK K
      (try simp only [Act.put, List.getElem_toArray, List.getElem_cons_zero, List.getElem_cons_succ, List.setIfInBounds_toArray, List.set_cons_zero, List.set_cons_succ])
      refine wpAnyH_ready (rs := [6]) (by kernel_rfl) (by simp) ?_
      refine AllReadyH.cons rfl (fun K hK => ?_) AllReadyH.nil
      go_simp
      refine hK.out _ _ hHeld (fun hHeld => ?_)
      clear hK K
      (try simp only [Act.put, List.getElem_toArray, List.getElem_cons_zero, List.getElem_cons_succ, List.setIfInBounds_toArray, List.set_cons_zero, List.set_cons_succ])
      rotate_left
      (go_simp; go_at_call 11; (with_reducible refine (HEF.out _ _ HC7.out HF7.out).mono ?_); rintro e w8 ⟨OE2, A8, c8, rfl, henc8, hk8, hf8⟩; obtain rfl := HE7.out.uniq henc8; have HG8 := Lib.hid (HG7.out.trans (Only.of_fresh hf8)); have HC8 := Lib.hid (HC7.out.fresh hf8); have HF8 := Lib.hid (HF7.out.trans hf8); have hcv8 := hk8.str c8; have hcv78 := (HK7.out.on (Only.of_fresh hf8)).str c7; rw [HSE.out] at hcv8 hcv78; clear henc8 hk8 hf8)
      refine hK.out _ _ (HSK.out _ HC8.out HG8.out) (fun hHeld => ?_)
      clear hK K
      (try simp only [Act.put, List.getElem_toArray, List.getElem_cons_zero, List.getElem_cons_succ, List.setIfInBounds_toArray, List.set_cons_zero, List.set_cons_succ])
      refine wpAnyH_ready (rs := [3, 6]) (by kernel_rfl) (by simp) ?_
      refine AllReadyH.cons rfl (fun K hK => ?_) (AllReadyH.cons rfl (fun K hK => ?_) AllReadyH.nil)
      go_simp
      refine hK.out _ _ hHeld (fun hHeld => ?_)
      clear hK K
      (try simp only [Act.put, List.getElem_toArray, List.getElem_cons_zero, List.getElem_cons_succ, List.setIfInBounds_toArray, List.set_cons_zero, List.set_cons_succ])
      refine wpAnyH_ready (rs := [6]) (by kernel_rfl) (by simp) ?_
      refine AllReadyH.cons rfl (fun K hK => ?_) AllReadyH.nil
      go_simp
      refine hK.out _ _ hHeld (fun hHeld => ?_)
      clear hK K
      (try simp only [Act.put, List.getElem_toArray, List.getElem_cons_zero, List.getElem_cons_succ, List.setIfInBounds_toArray, List.set_cons_zero, List.set_cons_succ])
      rotate_left
      go_simp
      refine hK.out _ _ hHeld (fun hHeld => ?_)
      clear hK K
      (try simp only [Act.put, List.getElem_toArray, List.getElem_cons_zero, List.getElem_cons_succ, List.setIfInBounds_toArray, List.set_cons_zero, List.set_cons_succ])
      refine wpAnyH_ready (rs := [3]) (by kernel_rfl) (by simp) ?_
      refine AllReadyH.cons rfl (fun K hK => ?_) AllReadyH.nil
      go_simp
      refine hK.out _ _ hHeld (fun hHeld => ?_)
      clear hK K
      (try simp only [Act.put, List.getElem_toArray, List.getElem_cons_zero, List.getElem_cons_succ, List.setIfInBounds_toArray, List.set_cons_zero, List.set_cons_succ])
      all_goals
        refine wpAnyH_take (i := 7) (v := ?_) rfl (by kernel_rfl) (by kernel_rfl) (by kernel_rfl) (fun _ _ _ h => h) (Or.inl ⟨by rfl, ?_⟩) (by assumption) ?_; rotate_left; focus (intro w hSw; (try dsimp only at hSw); go_simp; (try with_reducible rfl); done)
        (try simp only [Act.put, List.getElem_toArray, List.getElem_cons_zero, List.getElem_cons_succ, List.setIfInBounds_toArray, List.set_cons_zero, List.set_cons_succ])
        refine wpAnyH_take (i := 8) (v := ?_) rfl (by kernel_rfl) (by kernel_rfl) (by kernel_rfl) (fun _ _ _ h => h) (Or.inl ⟨by rfl, ?_⟩) (by assumption) ?_; rotate_left; focus (intro w hSw; (try dsimp only at hSw); go_simp; (try with_reducible rfl); done)
        (try simp only [Act.put, List.getElem_toArray, List.getElem_cons_zero, List.getElem_cons_succ, List.setIfInBounds_toArray, List.set_cons_zero, List.set_cons_succ])
        refine wpAnyH_take (i := 9) (v := ?_) rfl (by kernel_rfl) (by kernel_rfl) (by kernel_rfl) (fun _ _ _ h => h) (Or.inl ⟨by rfl, ?_⟩) (by assumption) ?_; rotate_left; focus (intro w hSw; (try dsimp only at hSw); go_simp; (try with_reducible rfl); done)
        (try simp only [Act.put, List.getElem_toArray, List.getElem_cons_zero, List.getElem_cons_succ, List.setIfInBounds_toArray, List.set_cons_zero, List.set_cons_succ])
        refine wpAnyH_take (i := 10) (v := ?_) rfl (by kernel_rfl) (by kernel_rfl) (by kernel_rfl) (fun _ _ _ h => h) (Or.inl ⟨by rfl, ?_⟩) (by assumption) ?_; rotate_left; focus (intro w hSw; (try dsimp only at hSw); go_simp; (try with_reducible rfl); done)
        (try simp only [Act.put, List.getElem_toArray, List.getElem_cons_zero, List.getElem_cons_succ, List.setIfInBounds_toArray, List.set_cons_zero, List.set_cons_succ])
        refine wpAnyH_take (i := 11) (v := ?_) rfl (by kernel_rfl) (by kernel_rfl) (by kernel_rfl) (fun _ _ _ h => h) (Or.inl ⟨by rfl, ?_⟩) (by assumption) ?_; rotate_left; focus (intro w hSw; (try dsimp only at hSw); go_simp; (try with_reducible rfl); done)
        (try simp only [Act.put, List.getElem_toArray, List.getElem_cons_zero, List.getElem_cons_succ, List.setIfInBounds_toArray, List.set_cons_zero, List.set_cons_succ])
        refine wpAnyH_take (i := 12) (v := ?_) rfl (by kernel_rfl) (by kernel_rfl) (by kernel_rfl) (fun _ _ _ h => h) (Or.inl ⟨by rfl, ?_⟩) (by assumption) ?_; rotate_left; focus (intro w hSw; (try dsimp only at hSw); go_simp; (try with_reducible rfl); done)
        (try simp only [Act.put, List.getElem_toArray, List.getElem_cons_zero, List.getElem_cons_succ, List.setIfInBounds_toArray, List.set_cons_zero, List.set_cons_succ])
        refine wpAnyH_take (i := 13) (v := ?_) rfl (by kernel_rfl) (by kernel_rfl) (by kernel_rfl) (fun _ _ _ h => h) (Or.inl ⟨by rfl, ?_⟩) (by assumption) ?_; rotate_left; focus (intro w hSw; (try dsimp only at hSw); go_simp; (try with_reducible rfl); done)
        (try simp only [Act.put, List.getElem_toArray, List.getElem_cons_zero, List.getElem_cons_succ, List.setIfInBounds_toArray, List.set_cons_zero, List.set_cons_succ])
        refine wpAnyH_take (i := 14) (v := ?_) rfl (by kernel_rfl) (by kernel_rfl) (by kernel_rfl) (fun _ _ _ h => h) (Or.inl ⟨by rfl, ?_⟩) (by assumption) ?_; rotate_left; focus (intro w hSw; (try dsimp only at hSw); go_simp; (try with_reducible rfl); done)
        (try simp only [Act.put, List.getElem_toArray, List.getElem_cons_zero, List.getElem_cons_succ, List.setIfInBounds_toArray, List.set_cons_zero, List.set_cons_succ])
        refine wpAnyH_take (i := 15) (v := ?_) rfl (by kernel_rfl) (by kernel_rfl) (by kernel_rfl) (fun _ _ _ h => h) (Or.inl ⟨by rfl, ?_⟩) (by assumption) ?_; rotate_left; focus (intro w hSw; (try dsimp only at hSw); go_simp; (try with_reducible rfl); done)
        (try simp only [Act.put, List.getElem_toArray, List.getElem_cons_zero, List.getElem_cons_succ, List.setIfInBounds_toArray, List.set_cons_zero, List.set_cons_succ])
        refine wpAnyH_take (i := 16) (v := ?_) rfl (by kernel_rfl) (by kernel_rfl) (by kernel_rfl) (fun _ _ _ h => h) (Or.inl ⟨by rfl, ?_⟩) (by assumption) ?_; rotate_left; focus (intro w hSw; (try dsimp only at hSw); go_simp; (try with_reducible rfl); done)
        (try simp only [Act.put, List.getElem_toArray, List.getElem_cons_zero, List.getElem_cons_succ, List.setIfInBounds_toArray, List.set_cons_zero, List.set_cons_succ])
        refine wpAnyH_take (i := 17) (v := ?_) rfl (by kernel_rfl) (by kernel_rfl) (by kernel_rfl) (fun _ _ _ h => h) (Or.inl ⟨by rfl, ?_⟩) (by assumption) ?_; rotate_left; focus (intro w hSw; (try dsimp only at hSw); go_simp; (try with_reducible rfl); done)
        (try simp only [Act.put, List.getElem_toArray, List.getElem_cons_zero, List.getElem_cons_succ, List.setIfInBounds_toArray, List.set_cons_zero, List.set_cons_succ])
        refine wpAnyH_take (i := 18) (v := ?_) rfl (by kernel_rfl) (by kernel_rfl) (by kernel_rfl) (fun _ _ _ h => h) (Or.inl ⟨by rfl, ?_⟩) (by assumption) ?_; rotate_left; focus (intro w hSw; (try dsimp only at hSw); go_simp; (try with_reducible rfl); done)
        (try simp only [Act.put, List.getElem_toArray, List.getElem_cons_zero, List.getElem_cons_succ, List.setIfInBounds_toArray, List.set_cons_zero, List.set_cons_succ])
        refine wpAnyH_take (i := 19) (v := ?_) rfl (by kernel_rfl) (by kernel_rfl) (by kernel_rfl) (fun _ _ _ h => h) (Or.inl ⟨by rfl, ?_⟩) (by assumption) ?_; rotate_left; focus (intro w hSw; (try dsimp only at hSw); go_simp; (try with_reducible rfl); done)
        (try simp only [Act.put, List.getElem_toArray, List.getElem_cons_zero, List.getElem_cons_succ, List.setIfInBounds_toArray, List.set_cons_zero, List.set_cons_succ])
        refine wpAnyH_take (i := 20) (v := ?_) rfl (by kernel_rfl) (by kernel_rfl) (by kernel_rfl) (fun _ _ _ h => h) (Or.inl ⟨by rfl, ?_⟩) (by assumption) ?_; rotate_left; focus (intro w hSw; (try dsimp only at hSw); go_simp; (try with_reducible rfl); done)
        (try simp only [Act.put, List.getElem_toArray, List.getElem_cons_zero, List.getElem_cons_succ, List.setIfInBounds_toArray, List.set_cons_zero, List.set_cons_succ])
        refine wpAnyH_take (i := 21) (v := ?_) rfl (by kernel_rfl) (by kernel_rfl) (by kernel_rfl) (fun _ _ _ h => h) (Or.inl ⟨by rfl, ?_⟩) (by assumption) ?_; rotate_left; focus (intro w hSw; (try dsimp only at hSw); go_simp; (try with_reducible rfl); done)
        (try simp only [Act.put, List.getElem_toArray, List.getElem_cons_zero, List.getElem_cons_succ, List.setIfInBounds_toArray, List.set_cons_zero, List.set_cons_succ])
        refine wpAnyH_take (i := 22) (v := ?_) rfl (by kernel_rfl) (by kernel_rfl) (by kernel_rfl) (fun _ _ _ h => h) (Or.inl ⟨by rfl, ?_⟩) (by assumption) ?_; rotate_left; focus (intro w hSw; (try dsimp only at hSw); go_simp; (try with_reducible rfl); done)
        (try simp only [Act.put, List.getElem_toArray, List.getElem_cons_zero, List.getElem_cons_succ, List.setIfInBounds_toArray, List.set_cons_zero, List.set_cons_succ])
        refine wpAnyH_take (i := 23) (v := ?_) rfl (by kernel_rfl) (by kernel_rfl) (by kernel_rfl) (fun _ _ _ h => h) (Or.inl ⟨by rfl, ?_⟩) (by assumption) ?_; rotate_left; focus (intro w hSw; (try dsimp only at hSw); go_simp; (try with_reducible rfl); done)
        (try simp only [Act.put, List.getElem_toArray, List.getElem_cons_zero, List.getElem_cons_succ, List.setIfInBounds_toArray, List.set_cons_zero, List.set_cons_succ])
        refine wpAnyH_take (i := 24) (v := ?_) rfl (by kernel_rfl) (by kernel_rfl) (by kernel_rfl) (fun _ _ _ h => h) (Or.inl ⟨by rfl, ?_⟩) (by assumption) ?_; rotate_left; focus (intro w hSw; (try dsimp only at hSw); go_simp; (try with_reducible rfl); done)
        (try simp only [Act.put, List.getElem_toArray, List.getElem_cons_zero, List.getElem_cons_succ, List.setIfInBounds_toArray, List.set_cons_zero, List.set_cons_succ])
        refine wpAnyH_take (i := 25) (v := ?_) rfl (by kernel_rfl) (by kernel_rfl) (by kernel_rfl) (fun _ _ _ h => h) (Or.inl ⟨by rfl, ?_⟩) (by assumption) ?_; rotate_left; focus (intro w hSw; (try dsimp only at hSw); go_simp; (try with_reducible rfl); done)
        (try simp only [Act.put, List.getElem_toArray, List.getElem_cons_zero, List.getElem_cons_succ, List.setIfInBounds_toArray, List.set_cons_zero, List.set_cons_succ])
        refine wpAnyH_take (i := 26) (v := ?_) rfl (by kernel_rfl) (by kernel_rfl) (by kernel_rfl) (fun _ _ _ h => h) (Or.inl ⟨by rfl, ?_⟩) (by assumption) ?_; rotate_left; focus (intro w hSw; (try dsimp only at hSw); go_simp; (try with_reducible rfl); done)
        (try simp only [Act.put, List.getElem_toArray, List.getElem_cons_zero, List.getElem_cons_succ, List.setIfInBounds_toArray, List.set_cons_zero, List.set_cons_succ])
        refine wpAnyH_take (i := 27) (v := ?_) rfl (by kernel_rfl) (by kernel_rfl) (by kernel_rfl) (fun _ _ _ h => h) (Or.inl ⟨by rfl, ?_⟩) (by assumption) ?_; rotate_left; focus (intro w hSw; (try dsimp only at hSw); go_simp; (try with_reducible rfl); done)
        (try simp only [Act.put, List.getElem_toArray, List.getElem_cons_zero, List.getElem_cons_succ, List.setIfInBounds_toArray, List.set_cons_zero, List.set_cons_succ])
        refine wpAnyH_take (i := 28) (v := ?_) rfl (by kernel_rfl) (by kernel_rfl) (by kernel_rfl) (fun _ _ _ h => h) (Or.inl ⟨by rfl, ?_⟩) (by assumption) ?_; rotate_left; focus (intro w hSw; (try dsimp only at hSw); go_simp; (try with_reducible rfl); done)
        (try simp only [Act.put, List.getElem_toArray, List.getElem_cons_zero, List.getElem_cons_succ, List.setIfInBounds_toArray, List.set_cons_zero, List.set_cons_succ])
        refine wpAnyH_take (i := 29) (v := ?_) rfl (by kernel_rfl) (by kernel_rfl) (by kernel_rfl) (fun _ _ _ h => h) (Or.inl ⟨by rfl, ?_⟩) (by assumption) ?_; rotate_left; focus (intro w hSw; (try dsimp only at hSw); go_simp; (try with_reducible rfl); done)
        (try simp only [Act.put, List.getElem_toArray, List.getElem_cons_zero, List.getElem_cons_succ, List.setIfInBounds_toArray, List.set_cons_zero, List.set_cons_succ])
        refine wpAnyH_take (i := 30) (v := ?_) rfl (by kernel_rfl) (by kernel_rfl) (by kernel_rfl) (fun _ _ _ h => h) (Or.inl ⟨by rfl, ?_⟩) (by assumption) ?_; rotate_left; focus (intro w hSw; (try dsimp only at hSw); go_simp; (try with_reducible rfl); done)
        (try simp only [Act.put, List.getElem_toArray, List.getElem_cons_zero, List.getElem_cons_succ, List.setIfInBounds_toArray, List.set_cons_zero, List.set_cons_succ])
        refine wpAnyH_take (i := 31) (v := ?_) rfl (by kernel_rfl) (by kernel_rfl) (by kernel_rfl) (fun _ _ _ h => h) (Or.inl ⟨by rfl, ?_⟩) (by assumption) ?_; rotate_left; focus (intro w hSw; (try dsimp only at hSw); go_simp; (try with_reducible rfl); done)
        (try simp only [Act.put, List.getElem_toArray, List.getElem_cons_zero, List.getElem_cons_succ, List.setIfInBounds_toArray, List.set_cons_zero, List.set_cons_succ])
        refine wpAnyH_take (i := 32) (v := ?_) rfl (by kernel_rfl) (by kernel_rfl) (by kernel_rfl) (fun _ _ _ h => h) (Or.inl ⟨by rfl, ?_⟩) (by assumption) ?_; rotate_left; focus (intro w hSw; (try dsimp only at hSw); go_simp; (try with_reducible rfl); done)
        (try simp only [Act.put, List.getElem_toArray, List.getElem_cons_zero, List.getElem_cons_succ, List.setIfInBounds_toArray, List.set_cons_zero, List.set_cons_succ])
        refine wpAnyH_take (i := 33) (v := ?_) rfl (by kernel_rfl) (by kernel_rfl) (by kernel_rfl) (fun _ _ _ h => h) (Or.inl ⟨by rfl, ?_⟩) (by assumption) ?_; rotate_left; focus (intro w hSw; (try dsimp only at hSw); go_simp; (try with_reducible rfl); done)
        (try simp only [Act.put, List.getElem_toArray, List.getElem_cons_zero, List.getElem_cons_succ, List.setIfInBounds_toArray, List.set_cons_zero, List.set_cons_succ])
        refine wpAnyH_take (i := 34) (v := ?_) rfl (by kernel_rfl) (by kernel_rfl) (by kernel_rfl) (fun _ _ _ h => h) (Or.inl ⟨by rfl, ?_⟩) (by assumption) ?_; rotate_left; focus (intro w hSw; (try dsimp only at hSw); go_simp; (try with_reducible rfl); done)
        (try simp only [Act.put, List.getElem_toArray, List.getElem_cons_zero, List.getElem_cons_succ, List.setIfInBounds_toArray, List.set_cons_zero, List.set_cons_succ])
        refine wpAnyH_take (i := 35) (v := ?_) rfl (by kernel_rfl) (by kernel_rfl) (by kernel_rfl) (fun _ _ _ h => h) (Or.inl ⟨by rfl, ?_⟩) (by assumption) ?_; rotate_left; focus (intro w hSw; (try dsimp only at hSw); go_simp; (try with_reducible rfl); done)
        (try simp only [Act.put, List.getElem_toArray, List.getElem_cons_zero, List.getElem_cons_succ, List.setIfInBounds_toArray, List.set_cons_zero, List.set_cons_succ])
        refine wpAnyH_take (i := 36) (v := ?_) rfl (by kernel_rfl) (by kernel_rfl) (by kernel_rfl) (fun _ _ _ h => h) (Or.inl ⟨by rfl, ?_⟩) (by assumption) ?_; rotate_left; focus (intro w hSw; (try dsimp only at hSw); go_simp; (try with_reducible rfl); done)
        (try simp only [Act.put, List.getElem_toArray, List.getElem_cons_zero, List.getElem_cons_succ, List.setIfInBounds_toArray, List.set_cons_zero, List.set_cons_succ])
        refine wpAnyH_ready (rs := [37]) (by kernel_rfl) (by simp) ?_
        refine AllReadyH.cons rfl (fun K hK => ?_) AllReadyH.nil
        (go_simp; go_at_call 18; (with_reducible refine (HMD.out _ HC8.out).mono ?_); rintro e w9 ⟨rfl, rfl⟩)
        refine hK.out _ _ hHeld (fun hHeld => ?_)
        clear hK K
        (try simp only [Act.put, List.getElem_toArray, List.getElem_cons_zero, List.getElem_cons_succ, List.setIfInBounds_toArray, List.set_cons_zero, List.set_cons_succ])
        refine wpAnyH_take (i := 38) (v := ?_) rfl (by kernel_rfl) (by kernel_rfl) (by kernel_rfl) (fun _ _ _ h => h) (Or.inl ⟨by rfl, ?_⟩) (by assumption) ?_; rotate_left; focus (intro w hSw; (try dsimp only at hSw); go_simp; (try with_reducible rfl); done)
        (try simp only [Act.put, List.getElem_toArray, List.getElem_cons_zero, List.getElem_cons_succ, List.setIfInBounds_toArray, List.set_cons_zero, List.set_cons_succ])
        refine wpAnyH_take (i := 39) (v := ?_) rfl (by kernel_rfl) (by kernel_rfl) (by kernel_rfl) (fun _ _ _ h => h) (Or.inl ⟨by rfl, ?_⟩) (by assumption) ?_; rotate_left; focus (intro w hSw; (try dsimp only at hSw); go_simp; (try with_reducible rfl); done)
        (try simp only [Act.put, List.getElem_toArray, List.getElem_cons_zero, List.getElem_cons_succ, List.setIfInBounds_toArray, List.set_cons_zero, List.set_cons_succ])
        refine wpAnyH_done (by kernel_rfl) ?_ _
        go_wp2
        exact ⟨⟨k + 1, true, by omega, rfl, HC8.out, HF8.out⟩, by simp [intOf]; omega⟩
    · have hlt' : ¬ (k : Int) < (n : Int) := by omega
      have HEN : Hid (Calls Try.prog 21 #[.pointer (some ⟨p, 0, none⟩), .slice none 0 0] wr (OnceEnc p [] wr)) := Lib.hid (once_enc (l := []) r 0 HC.out (fun _ _ e => by cases e) (BS.nil _ _) (by simp))
      go_wp2_with fail
      with_reducible refine HEN.out.mono ?_
      rintro e w3 ⟨OE, A7, c7, rfl, _, _, hc3, ho3⟩
      have HF3 := Lib.hid (Fresh.onlyB HF.out ho3 HP.out)
      have HC3 := Lib.hid hc3
      clear hc3 ho3 HEN
      go_wp2_with (go_at_call 18; with_reducible refine (HMD.out _ HC3.out).mono ?_; rintro e w4 ⟨rfl, rfl⟩)
      with_reducible refine (HW.out _).mono ?_
      rintro e w6 ⟨rfl, hf6⟩
      go_wp2
      exact bodyPost_ret (v := .bool true) (by simp [results, Try.f7, go_sem]) rfl ⟨rfl, HF3.out.trans hf6⟩
end Go.Proofs.Ytafibclffklieaa
