/-
  The law EncodeRows.
-/
import Derived.Test.YtdoddpigiencjaaEncI
import Derived.Test.YtdoddpigiencjaaMore
namespace Go.Proofs.Ytdoddpigiencjaa
set_option maxRecDepth 100000
set_option linter.unusedVariables false
set_option linter.unusedSimpArgs false
open Go.RowKit
theorem ln_info : (Try.prog.info? 28).map (fun i => (i.zero, i.size, i.bytes)) = some (some (.agg #[.string ⟨#[]⟩, .string ⟨#[]⟩, .bool false]), 3, 40) := by kernel_rfl
theorem info_parts3 {P : Program} {E : TypeId} {z : Value} {sz by_ : Nat} (h : (P.info? E).map (fun i => (i.zero, i.size, i.bytes)) = some (some z, sz, by_)) : ∃ i, P.info? E = some i ∧ i.zero = some z ∧ i.size = sz ∧ i.bytes = by_ := by
  cases hi : P.info? E with
  | none => rw [hi] at h; cases h
  | some i =>
    rw [hi] at h
    simp at h
    exact ⟨i, rfl, h.1, h.2.1, h.2.2⟩
theorem flat3_len (ys : List Ln) : (ys.flatMap Ln.cells).length = ys.length * 3 := by
  induction ys with
  | nil => rfl
  | cons y r ih => rw [List.flatMap_cons, List.length_append, ih, List.length_cons]; simp [Ln.cells]; omega
theorem flat3_get : ∀ (ys : List Ln) (i r : Nat) (hi : i < ys.length), r < 3 → (ys.flatMap Ln.cells)[i * 3 + r]? = (Ln.cells ys[i])[r]?
  | [], i, r, hi, _ => by simp at hi
  | y :: ys, 0, r, hi, hr => by
    rw [List.flatMap_cons, List.getElem?_append_left (by simp [Ln.cells]; omega)]
    simp
  | y :: ys, i + 1, r, hi, hr => by
    rw [List.flatMap_cons, List.getElem?_append_right (by simp [Ln.cells]; omega)]
    have := flat3_get ys i r (by simpa using hi) hr
    rw [show (i + 1) * 3 + r - (Ln.cells y).length = i * 3 + r by simp [Ln.cells]; omega]
    simpa using this
theorem ln_one (ys : List Ln) : ∀ u ∈ ys.flatMap Ln.cells, u.oneCell' = true := fun u hu => by
  simp only [List.mem_flatMap, Ln.cells, List.mem_cons, List.not_mem_nil, or_false] at hu
  obtain ⟨x, _, rfl | rfl | rfl⟩ := hu <;> rfl
theorem moreLn {w0 w : World} {base n : Nat} {v : Value} {xs : List Ln} (h : Own w base 28 3 v n (xs.flatMap Ln.cells)) (hb : Below base w0 w) (hbase : base ≤ w0.heap.size) (A : Option Addr) (c : Nat) (ys : List Ln) (hm : Many Ln.cells 3 w A ys) (hn : n + ys.length ≤ 1000) :
    ∃ v' w', (Builtin.append_ #[22, 22] 22 #[v, .slice A ys.length c]).run Try.prog w = .ok v' w' ∧ Own w' base 28 3 v' (n + ys.length) ((xs ++ ys).flatMap Ln.cells) ∧ Below base w0 w' := by
  obtain ⟨i, hi, hiz, his, hib⟩ := info_parts3 ln_info
  cases A with
  | none =>
    have hl : ys = [] := by
      rcases ys with _ | ⟨x, l⟩
      · rfl
      · obtain ⟨b, o, e, _⟩ := hm (by simp)
        cases e
    subst hl
    refine ⟨v, w, ?_, by simpa using h, hb⟩
    rcases h.2 with ⟨rfl, rfl⟩ | ⟨g, cap, cur, rfl, _, _, hnc, _⟩
    · simp [Builtin.append_, run_underlying Try.underlying22, sizeOf, typeInfo, hi, Builtin.lenOf, Builtin.firstCells]
    · simp [Builtin.append_, run_underlying Try.underlying22, sizeOf, typeInfo, hi, Builtin.lenOf, Builtin.firstCells, hnc, storeCells]
  | some a =>
    have hcs : ∀ j u, (ys.flatMap Ln.cells)[j]? = some u → w.cell? (a.add j) = some u := fun j u hj => by
      have hjl : j < (ys.flatMap Ln.cells).length := (List.getElem?_eq_some_iff.1 hj).1
      rw [flat3_len] at hjl
      obtain ⟨b, o, e, _, hc⟩ := hm (by omega)
      injection e with e
      subst e
      have hd : j = j / 3 * 3 + j % 3 := by omega
      rw [add_eq _ _ rfl]
      have h1 := hc (j / 3) (by omega) (j % 3) (by omega)
      have h2 := flat3_get ys (j / 3) (j % 3) (by omega) (by omega)
      rw [← hd] at h2
      rw [hj] at h2
      rw [← h2] at h1
      rw [← h1]
      simp only
      congr 2
      omega
    obtain ⟨v', w', hr, ho, hg, hnil⟩ := run_append_own (P := Try.prog) w base 22 22 28 i _ 3 40 Try.underlying22 hi hiz his hib rfl (by omega) v n _ h a ys.length c (ys.flatMap Ln.cells) (flat3_len ys) hcs (ln_one ys) (by unfold maxLen; omega) (by omega) (by have := hb.size; omega)
    refine ⟨v', w', hr, by rw [List.flatMap_append]; exact ho, ?_⟩
    have hlt := h.lt
    exact hb.grown hg (by have := hb.size; omega) (fun k hk => (hlt k hk).1)
theorem manyOwn {w : World} {base c : Nat} {A : Option Addr} {l : List Ln} (h : Own w base 28 3 (.slice A l.length c) l.length (l.flatMap Ln.cells)) : Many Ln.cells 3 w A l := fun hn => by
  rcases h.form with ⟨_, h0, _⟩ | ⟨g, cap, e, _, hg, _, _, hc⟩
  · omega
  · injection e with e1 e2 e3
    refine ⟨g, 0, e1, hg, fun i hi j hj => ?_⟩
    have := (hc (i * 3 + j) (by rw [flat3_len]; omega)).1
    rw [Nat.zero_add, this, flat3_get l i j hi hj]
theorem RowE.append : ∀ {a b : List Ln} {F G : List UInt8}, RowE a F → RowE b G → RowE (a ++ b) (F ++ G)
  | [], b, F, G, h, k => by
    have h2 : F = [] := h
    subst h2; exact k
  | x :: r, b, F, G, ⟨P, F', h1, h2, h3⟩, k => ⟨P, F' ++ G, h1, RowE.append h2 k, by rw [h3, List.append_assoc]⟩
set_option maxHeartbeats 6400000 in
theorem EncodeRows_any (s t : LnsV) (w : World) (hs : s.Ok w) (ht : t.Ok w) :
    Calls Try.prog 7 #[.slice s.A s.xs.length s.c, .slice t.A t.xs.length t.c] w fun e w' => e = .returned (.bool true) ∧ Below w.heap.size w w' := by
  have HW := Lib.hid en_awake
  obtain ⟨A, c, xs⟩ := s
  obtain ⟨B, d, ys⟩ := t
  have hmx := hs.max
  have hle := hs.le
  have hmx2 := ht.max
  have hle2 := ht.le
  simp only at *
  have HMX : Hid (Many Ln.cells 3 w A xs) := Lib.hid hs.rows
  have HMY : Hid (Many Ln.cells 3 w B ys) := Lib.hid ht.rows
  have HSX := Lib.hid (fun W (hf : Fresh w W) => en_small A c xs W (HMX.out.fresh hf) (by omega) hs.ok)
  have HSY := Lib.hid (fun W (hf : Fresh w W) => en_small B d ys W (HMY.out.fresh hf) (by omega) ht.ok)
  have HEX := Lib.hid (fun W (h : SmallL xs) (hf : Fresh w W) => en_encodeS A c xs W h (HMX.out.fresh hf))
  have HEY := Lib.hid (fun W (h : SmallL ys) (hf : Fresh w W) => en_encodeS B d ys W h (HMY.out.fresh hf))
  have HLX := Lib.hid (fun W F (h : SmallL xs) (hF : RowE xs F) (hf : Fresh w W) => en_lenS A c xs F W h hF (HMX.out.fresh hf))
  have HLY := Lib.hid (fun W F (h : SmallL ys) (hF : RowE ys F) (hf : Fresh w W) => en_lenS B d ys F W h hF (HMY.out.fresh hf))
  clear hs ht
  obtain ⟨n, hn⟩ : ∃ n, xs.length = n := ⟨_, rfl⟩
  obtain ⟨m, hm⟩ : ∃ m, ys.length = m := ⟨_, rfl⟩
  have HN := Lib.hid hn
  have HM := Lib.hid hm
  simp only [hn] at HSX HEX HLX hle ⊢
  simp only [hm] at HSY HEY HLY hle2 ⊢
  clear hn hm
  go_enter Try.func7, Try.ntmps7
  go_wp2_with fail
  with_reducible refine (HSX.out _ (Fresh.refl _)).mono ?_
  rintro e w1 ⟨b, rfl, hb, hf1⟩
  have HF1 := Lib.hid hf1
  clear hf1
  cases b with
  | false =>
    go_wp2_with (go_at_call 9; with_reducible refine (HW.out _).mono ?_; rintro e w2 ⟨rfl, hf2⟩)
    go_ret
    exact ⟨rfl, HF1.out.trans hf2⟩
  | true =>
    have HS1 := Lib.hid (hb rfl)
    clear hb
    go_wp2_with fail
    with_reducible refine (HSY.out _ HF1.out).mono ?_
    rintro e w2 ⟨b, rfl, hb, hf2⟩
    have HF2 := Lib.hid (HF1.out.trans hf2)
    clear hf2
    cases b with
    | false =>
      go_wp2_with (go_at_call 9; with_reducible refine (HW.out _).mono ?_; rintro e w3 ⟨rfl, hf3⟩)
      go_ret
      exact ⟨rfl, HF2.out.trans hf3⟩
    | true =>
      have HS2 := Lib.hid (hb rfl)
      clear hb HSX HSY
      go_wp2_with fail
      with_reducible refine (HEX.out _ HS1.out HF2.out).mono ?_
      rintro e w3 ⟨F, A3, c3, rfl, hF, hown3, hf3⟩
      have HRF := Lib.hid hF
      have HB3 := Lib.hid hown3.bytes.1
      have HF3 := Lib.hid (HF2.out.trans hf3)
      have hFl := hF.len HS1.out.fit
      clear hF hown3 hf3
      go_wp2_with fail
      with_reducible refine (HEY.out _ HS2.out HF3.out).mono ?_
      rintro e w4 ⟨G, A4, c4, rfl, hG, hown4, hf4⟩
      have HRG := Lib.hid hG
      have HB4 := Lib.hid hown4.bytes.1
      have HB34 := Lib.hid (HB3.out.fresh hf4)
      have HF4 := Lib.hid (HF3.out.trans hf4)
      have hGl := hG.len HS2.out.fit
      clear hG hown4 hf4 HB3
      have hn60 : n ≤ 60 := by have := HS1.out.1; rw [HN.out] at this; exact this
      have hm60 : m ≤ 60 := by have := HS2.out.1; rw [HM.out] at this; exact this
      have o0 : Own (w4.alloc (.cells #[] 28)) w4.heap.size 28 3 (.slice (some ⟨w4.heap.size, 0, none⟩) 0 0) 0 (([] : List Ln).flatMap Ln.cells) := Own.lit (cs := #[]) (Nat.le_refl _) (by unfold maxLen; omega) rfl
      obtain ⟨v5, w5, hap5, o5, hb5⟩ := moreLn o0 (Fresh.alloc w4 (.cells #[] 28)) (Nat.le_refl _) A c xs (HMX.out.fresh (HF4.out.allocS _)) (by rw [HN.out]; omega)
      obtain ⟨v6, w6, hap6, o6, hb6⟩ := moreLn o5 hb5 (Nat.le_refl _) B d ys (HMY.out.fresh (HF4.out.trans hb5)) (by rw [HN.out, HM.out]; omega)
      have e12 : 0 + xs.length + ys.length = (xs ++ ys).length := by simp
      rw [List.nil_append, e12] at o6
      obtain ⟨A6, c6, rfl, _, _, _⟩ := o6.slice
      have hmz := manyOwn o6
      have hfz : ∀ x ∈ xs ++ ys, x.fits = true := fun x hx => by
        rcases List.mem_append.1 hx with h | h
        · exact HS1.out.fit x h
        · exact HS2.out.fit x h
      have HEZ := Lib.hid (en_encode A6 c6 (xs ++ ys) w6 hmz (by rw [List.length_append, HN.out, HM.out]; omega) (fun x hx => by
        rcases List.mem_append.1 hx with h | h
        · exact HS1.out.big x h
        · exact HS2.out.big x h))
      have HZL : Hid ((xs ++ ys).length = n + m) := Lib.hid (by rw [List.length_append, HN.out, HM.out])
      have HF6 := Lib.hid (HF4.out.trans hb6)
      have HFZ := Lib.hid hfz
      have HB36 := Lib.hid (HB34.out.fresh hb6)
      have HB46 := Lib.hid (HB4.out.fresh hb6)
      rw [HN.out] at hap5
      rw [HM.out] at hap6
      rw [HZL.out] at HEZ hap6
      clear hmz hfz o0 o5 o6 hb5 hb6 e12 HEX HEY
      go_wp2_with (at_builtin; first | refine wp_app rfl _ _ _ rfl hap5 rfl rfl rfl ?_ | refine wp_app rfl _ _ _ rfl hap6 rfl rfl rfl ?_)
      with_reducible refine HEZ.out.mono ?_
      rintro e w7 (⟨_, H, A7, c7, rfl, hH, hown7, hf7⟩ | ⟨⟨x, hx, hno⟩, _⟩)
      case inr => rw [HFZ.out x hx] at hno; cases hno
      obtain rfl : F ++ G = H := RowE.uniq (HRF.out.append HRG.out) hH
      have hHl : (F ++ G).length = F.length + G.length := List.length_append
      have HF7 := Lib.hid (HF6.out.trans hf7)
      have hcv7 := run_str (P := Try.prog) hown7.bytes.1 29 9 5 Try.underlying29 Try.underlying5 Try.underlying9 c7
      have hcv3 := run_str (P := Try.prog) (HB36.out.fresh hf7) 29 9 5 Try.underlying29 Try.underlying5 Try.underlying9 c3
      have hcv4 := run_str (P := Try.prog) (HB46.out.fresh hf7) 29 9 5 Try.underlying29 Try.underlying5 Try.underlying9 c4
      have HPL : Hid (∀ W, Fresh w7 W → Calls Try.prog 21 #[.slice A7 (F ++ G).length c7] W fun e w' => e = .returned (.bool true) ∧ Fresh W w') := Lib.hid (fun W hf => by
        have := en_plain A7 c7 (F ++ G) W (by rw [hHl]; rw [HN.out] at hFl; rw [HM.out] at hGl; omega) (by obtain ⟨_, _, e, h1, _⟩ := hown7.slice; cases e; exact h1) (by obtain ⟨_, _, e, h1, h2, _⟩ := hown7.slice; cases e; exact h2) (hown7.bytes.1.fresh hf)
        rwa [plain_row (xs ++ ys) (F ++ G) HFZ.out hH] at this)
      have hcat : strB F ++ strB G = strB (F ++ G) := strB_append F G
      have hsf : (strB F).size = F.length := strB_size F
      have hsg : (strB G).size = G.length := strB_size G
      have HLX2 := Lib.hid (fun W hf => HLX.out W F HS1.out HRF.out hf)
      have HLY2 := Lib.hid (fun W hf => HLY.out W G HS2.out HRG.out hf)
      rw [← hcat] at hcv7
      rw [HN.out] at hFl
      rw [HM.out] at hGl
      have hHi : (((F ++ G).length : Nat) : Int) = (F.length : Int) + (G.length : Int) := by rw [hHl]; omega
      clear hH hown7 hf7 hcat HLX HLY hap5 hap6 HEZ
      generalize strB F = SF at *
      generalize strB G = SG at *
      have e4 : ((SF ++ SG).toList == (SF ++ SG).toList) = true := beq_self_eq_true _
      have h9 : ¬ 9223372036854775807 < SF.size + SG.size := by omega
      generalize (F ++ G).length = hl at *
      generalize F.length = fl at *
      generalize G.length = gl at *
      have e6 : ((fl : Int) + (gl : Int) == (hl : Int)) = true := by rw [hHi]; exact beq_self_eq_true _
      have hfg : fl + gl ≤ 10000000 := by omega
      have hhl : hl ≤ 10000000 := by omega
      clear hHi hHl
      go_wp2_with fail
      with_reducible refine (HPL.out _ (Fresh.refl _)).mono ?_
      rintro e w8 ⟨rfl, hf8⟩
      have HF8 := Lib.hid (HF7.out.trans hf8)
      clear hf8
      go_wp2_with fail
      with_reducible refine (HLX2.out _ HF8.out).mono ?_
      rintro e w9 ⟨rfl, hf9⟩
      have HF9 := Lib.hid (HF8.out.trans hf9)
      clear hf9
      go_wp2_with fail
      with_reducible refine (HLY2.out _ HF9.out).mono ?_
      rintro e w10 ⟨rfl, hf10⟩
      have HF10 := Lib.hid (HF9.out.trans hf10)
      clear hf10
      go_wp2_with fail
      with_reducible refine (HW.out _).mono ?_
      rintro e w11 ⟨rfl, hf11⟩
      go_wp2
      go_ret
      exact ⟨rfl, HF10.out.trans hf11⟩
end Go.Proofs.Ytdoddpigiencjaa

