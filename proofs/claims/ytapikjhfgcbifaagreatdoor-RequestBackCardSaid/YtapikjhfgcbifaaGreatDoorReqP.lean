/-
  Package request: what is read back, in words.
-/
import Derived.Test.YtapikjhfgcbifaaGreatDoorReqM
namespace Go.Proofs.YtapikjhfgcbifaaGreatDoor
set_option maxRecDepth 100000
set_option linter.unusedVariables false
set_option linter.unusedSimpArgs false
open Go.RowKit
def namesR : List ByteArray := [mthN, schN, pthN, autN]
/-- How many of some lines are told by names, in their order. -/
def mtc : List ByteArray → List LnD → Nat
  | nm :: ns, x :: t => if x.1.1 = nm then 1 + mtc ns t else 0
  | _, _ => 0
/-- The text of the line at a place, if it is told. -/
def txtR (l : List LnD) (n k : Nat) : ByteArray := if k < n then (match l[k]? with | some x => x.1.2 | none => ⟨#[]⟩) else ⟨#[]⟩
/-- Are the secret ones told as such? -/
def nvR (n : Nat) (l : List LnD) : Bool := (l.take n).all (fun x => !x.2) && (l.drop n).all (fun x => x.2 == senB x.1.1)
/-- The first error of lines that are read back. -/
def backE (l : List LnD) : Nat :=
  if mtc namesR l < 3 then 32 else
  if (mtc namesR l = 4 ∧ (txtR l (mtc namesR l) 3).data.toList = []) ∨ psB (l.drop (mtc namesR l)) = true then 32 else
  if rightR (txtR l (mtc namesR l) 0) (txtR l (mtc namesR l) 1) (txtR l (mtc namesR l) 2) (txtR l (mtc namesR l) 3) = false then 31 else
  if chkR (l.drop (mtc namesR l)) ≠ 0 then chkR (l.drop (mtc namesR l)) else
  if nvR (mtc namesR l) l = true then 0 else 32
theorem mtc3 {x y z : LnD} {t : List LnD} (hx : x.1.1 = mthN) (hy : y.1.1 = schN) (hz : z.1.1 = pthN) : mtc namesR (x :: y :: z :: t) = 3 + mtc [autN] t := by
  unfold namesR
  simp only [mtc, hx, hy, hz, if_true]
  omega
theorem mtc_shape : ∀ {l : List LnD}, 3 ≤ mtc namesR l → ∃ x y z t, l = x :: y :: z :: t ∧ x.1.1 = mthN ∧ y.1.1 = schN ∧ z.1.1 = pthN := by
  intro l h
  match l, h with
  | [], h => simp [mtc, namesR] at h
  | [x], h => (unfold namesR at h; simp only [mtc] at h; split at h <;> omega)
  | [x, y], h => (unfold namesR at h; simp only [mtc] at h; split at h <;> (try split at h) <;> omega)
  | x :: y :: z :: t, h =>
    refine ⟨x, y, z, t, rfl, ?_⟩
    unfold namesR at h
    simp only [mtc] at h
    by_cases hx : x.1.1 = mthN
    · by_cases hy : y.1.1 = schN
      · by_cases hz : z.1.1 = pthN
        · exact ⟨hx, hy, hz⟩
        · rw [if_pos hx, if_pos hy, if_neg hz] at h; omega
      · rw [if_pos hx, if_neg hy] at h; omega
    · rw [if_neg hx] at h; omega
theorem mtc_aut (t : List LnD) : mtc [autN] t = 0 ∨ (mtc [autN] t = 1 ∧ ∃ x r, t = x :: r ∧ x.1.1 = autN) := by
  match t with
  | [] => left; simp [mtc]
  | x :: r =>
    by_cases hx : x.1.1 = autN
    · right; refine ⟨?_, x, r, rfl, hx⟩; simp [mtc, hx]
    · left; simp [mtc, hx]
theorem chk_all {l : List LnD} (h : chkR l = 0) : ∀ x ∈ l, wrongC x.1 = 0 := by
  induction l with
  | nil => intro x hx; cases hx
  | cons y r ih =>
    unfold chkR at h
    split at h
    · rename_i h1; exact absurd h h1
    · rename_i h1
      intro x hx
      rcases List.mem_cons.1 hx with rfl | hx
      · simpa using h1
      · exact ih h x hx
theorem wrongC_zero {f : FldT} (h : wrongC f = 0) : wrongF f = 0 ∧ hopB f.1 f.2 = false := by
  unfold wrongC at h
  split at h
  · cases h
  · rename_i h1
    split at h
    · cases h
    · rename_i h2
      have h3 : ¬ nameB f.1.data.toList = false := fun e => h1 (.inl e)
      refine ⟨by unfold wrongF; rw [if_neg h3, if_neg h2], ?_⟩
      cases hh : hopB f.1 f.2 with
      | false => rfl
      | true => exact absurd (.inr hh) h1
theorem keep_all {l : List LnD} (h : chkR l = 0) (hs : ∀ x ∈ l, x.2 = senB x.1.1) : clnR (l.map (·.1)) = (0, l) := by
  have hc := chk_all h
  rw [clnR_ok (fun f hf => by
    obtain ⟨x, hx, rfl⟩ := List.mem_map.1 hf
    exact (wrongC_zero (hc x hx)).1)]
  congr 1
  unfold keepR
  have hf : (l.map (·.1)).filter (fun f => !hopB f.1 f.2) = l.map (·.1) := List.filter_eq_self.2 (fun f hf => by
    obtain ⟨x, hx, rfl⟩ := List.mem_map.1 hf
    rw [(wrongC_zero (hc x hx)).2]; rfl)
  rw [hf, List.map_map]
  conv => rhs; rw [← List.map_id l]
  refine List.map_congr_left (fun x hx => ?_)
  obtain ⟨f, nv⟩ := x
  have := hs _ hx
  simp only at this
  simp [lnF, this]
/-- What is read back has those very lines. -/
theorem back_lines {l : List LnD} (h : backE l = 0) : linesR (txtR l (mtc namesR l) 0) (txtR l (mtc namesR l) 1) (txtR l (mtc namesR l) 2) (txtR l (mtc namesR l) 3) ((l.drop (mtc namesR l)).map (·.1)) = (0, l) := by
  unfold backE at h
  split at h
  · cases h
  split at h
  · cases h
  split at h
  · cases h
  split at h
  · rename_i h4; exact absurd h h4
  split at h
  rotate_left
  · cases h
  rename_i h1 h2 h3 h4 h5
  have h4' : chkR (l.drop (mtc namesR l)) = 0 := by simpa using h4
  have h3' : rightR (txtR l (mtc namesR l) 0) (txtR l (mtc namesR l) 1) (txtR l (mtc namesR l) 2) (txtR l (mtc namesR l) 3) = true := by simpa using h3
  unfold nvR at h5
  rw [Bool.and_eq_true, List.all_eq_true, List.all_eq_true] at h5
  obtain ⟨h6, h7⟩ := h5
  have hk := keep_all h4' (fun x hx => by simpa using h7 x hx)
  unfold linesR
  rw [if_neg (by simp [h3']), hk, if_neg (by simp)]
  congr 1
  obtain ⟨x, y, z, t, rfl, hx, hy, hz⟩ := mtc_shape (l := l) (by omega)
  have hm := mtc3 (t := t) hx hy hz
  rcases mtc_aut t with h0 | ⟨h0, u, r, rfl, hu⟩
  · rw [h0] at hm
    rw [hm] at h2 h6 ⊢
    have e3 : txtR (x :: y :: z :: t) (3 + 0) 3 = ⟨#[]⟩ := rfl
    have e0 : txtR (x :: y :: z :: t) (3 + 0) 0 = x.1.2 := rfl
    have e1 : txtR (x :: y :: z :: t) (3 + 0) 1 = y.1.2 := rfl
    have e2 : txtR (x :: y :: z :: t) (3 + 0) 2 = z.1.2 := rfl
    rw [e0, e1, e2, e3]
    unfold baseR autL
    rw [if_pos rfl]
    have n0 := h6 x (by simp)
    have n1 := h6 y (by simp)
    have n2 := h6 z (by simp)
    obtain ⟨⟨x1, x2⟩, x3⟩ := x
    obtain ⟨⟨y1, y2⟩, y3⟩ := y
    obtain ⟨⟨z1, z2⟩, z3⟩ := z
    simp only at hx hy hz n0 n1 n2
    subst hx hy hz
    simp at n0 n1 n2
    subst n0 n1 n2
    rfl
  · rw [h0] at hm
    rw [hm] at h2 h6 ⊢
    have e3 : txtR (x :: y :: z :: u :: r) (3 + 1) 3 = u.1.2 := rfl
    have e0 : txtR (x :: y :: z :: u :: r) (3 + 1) 0 = x.1.2 := rfl
    have e1 : txtR (x :: y :: z :: u :: r) (3 + 1) 1 = y.1.2 := rfl
    have e2 : txtR (x :: y :: z :: u :: r) (3 + 1) 2 = z.1.2 := rfl
    rw [e3] at h2
    rw [e0, e1, e2, e3]
    unfold baseR autL
    rw [if_neg (fun e => h2 (.inl ⟨rfl, e⟩))]
    have n0 := h6 x (by simp)
    have n1 := h6 y (by simp)
    have n2 := h6 z (by simp)
    have n3 := h6 u (by simp)
    obtain ⟨⟨x1, x2⟩, x3⟩ := x
    obtain ⟨⟨y1, y2⟩, y3⟩ := y
    obtain ⟨⟨z1, z2⟩, z3⟩ := z
    obtain ⟨⟨u1, u2⟩, u3⟩ := u
    simp only at hx hy hz hu n0 n1 n2 n3
    subst hx hy hz hu
    simp at n0 n1 n2 n3
    subst n0 n1 n2 n3
    rfl
theorem keep_chk {fs : List FldT} (h : ∀ (j : Nat) f, fs[j]? = some f → wrongF f = 0) : chkR (keepR fs) = 0 ∧ psB (keepR fs) = false ∧ ∀ x ∈ keepR fs, x.2 = senB x.1.1 := by
  have hx : ∀ x ∈ keepR fs, wrongC x.1 = 0 ∧ ownB x = false ∧ x.2 = senB x.1.1 := fun x hx => by
    unfold keepR at hx
    obtain ⟨f, hf, rfl⟩ := List.mem_map.1 hx
    obtain ⟨hf1, hf2⟩ := List.mem_filter.1 hf
    obtain ⟨j, hj⟩ := List.getElem?_of_mem hf1
    have hw := h j f hj
    have hh : hopB f.1 f.2 = false := by simpa using hf2
    unfold wrongF at hw
    split at hw
    · cases hw
    · rename_i h1
      split at hw
      · cases hw
      · rename_i h2
        refine ⟨?_, ?_, rfl⟩
        · show wrongC f = 0
          unfold wrongC
          rw [if_neg (fun e => by rcases e with e | e; exact h1 e; rw [hh] at e; cases e), if_neg h2]
        · show fstB 58 f.1.data.toList = false
          cases hl : f.1.data.toList with
          | nil => rfl
          | cons c r =>
            unfold fstB
            by_cases e : c = 58
            · exfalso
              subst e
              apply h1
              rw [hl]
              exact nameB_hit (k := 0) (x := 58) rfl (by decide +kernel)
            · simp [e]
  refine ⟨chkR_ok (fun j y hy => (hx y (List.mem_of_getElem? hy)).1), ?_, fun x h => (hx x h).2.2⟩
  exact psB_no (fun k x h => (hx x (List.mem_of_getElem? h)).2.1)
theorem linesR_no' {m s p a : ByteArray} {fs : List FldT} {n : Nat} {xs : List LnD} (h : linesR m s p a fs = (n, xs)) (hr : rightR m s p a = false) : n = 31 := by
  unfold linesR at h
  rw [if_pos hr] at h
  cases h
  rfl
/-- A request's own lines are read back. -/
theorem lines_back {m s p a : ByteArray} {fs : List FldT} {l : List LnD} (h : linesR m s p a fs = (0, l)) : backE l = 0 ∧ txtR l (mtc namesR l) 0 = m ∧ txtR l (mtc namesR l) 1 = s ∧ txtR l (mtc namesR l) 2 = p ∧ txtR l (mtc namesR l) 3 = a ∧ (l.drop (mtc namesR l)).length ≤ fs.length := by
  have hr : rightR m s p a = true := by
    cases hr : rightR m s p a with
    | true => rfl
    | false => exact absurd (linesR_no' h hr) (by omega)
  obtain ⟨ms, hc, rfl⟩ := linesR_ok h
  obtain ⟨hall, rfl⟩ := clnR_yesR hc
  obtain ⟨k1, k2, k3⟩ := keep_chk hall
  have kl := keepR_len fs
  by_cases hae : a.data.toList = []
  · have ha : a = ⟨#[]⟩ := by
      have : a.data = #[] := by simpa using hae
      cases a
      simp only at this
      rw [this]
    have hb : baseR m s p a ++ keepR fs = ((mthN, m), false) :: ((schN, s), false) :: ((pthN, p), false) :: keepR fs := by unfold baseR autL; rw [if_pos hae]; rfl
    have h0 : mtc [autN] (keepR fs) = 0 := by
      rcases mtc_aut (keepR fs) with h0 | ⟨_, x, r, e, hx⟩
      · exact h0
      · exfalso
        rw [e] at k2
        have : psB (x :: r) = true := psB_hit (k := 0) rfl (by unfold ownB; rw [hx]; decide +kernel)
        rw [this] at k2
        cases k2
    have hm : mtc namesR (baseR m s p a ++ keepR fs) = 3 := by rw [hb, mtc3 rfl rfl rfl, h0]
    have t0 : txtR (baseR m s p a ++ keepR fs) 3 0 = m := by rw [hb]; rfl
    have t1 : txtR (baseR m s p a ++ keepR fs) 3 1 = s := by rw [hb]; rfl
    have t2 : txtR (baseR m s p a ++ keepR fs) 3 2 = p := by rw [hb]; rfl
    have t3 : txtR (baseR m s p a ++ keepR fs) 3 3 = a := by rw [ha]; rfl
    have hd : (baseR m s p a ++ keepR fs).drop 3 = keepR fs := by rw [hb]; rfl
    have hn : nvR 3 (baseR m s p a ++ keepR fs) = true := by
      unfold nvR
      rw [hd, Bool.and_eq_true, List.all_eq_true, List.all_eq_true]
      refine ⟨?_, fun x hx => by rw [k3 x hx]; simp⟩
      rw [hb]
      intro x hx
      simp at hx
      rcases hx with rfl | rfl | rfl <;> rfl
    unfold backE
    rw [hm, t0, t1, t2, t3, hd, if_neg (by omega), if_neg (by rw [k2]; simp), if_neg (by simp [hr]), if_neg (by simp [k1]), if_pos hn]
    exact ⟨rfl, rfl, rfl, rfl, rfl, kl⟩
  · have hb : baseR m s p a ++ keepR fs = ((mthN, m), false) :: ((schN, s), false) :: ((pthN, p), false) :: ((autN, a), false) :: keepR fs := by unfold baseR autL; rw [if_neg hae]; rfl
    have hm : mtc namesR (baseR m s p a ++ keepR fs) = 4 := by
      rw [hb, mtc3 rfl rfl rfl]
      simp [mtc]
    have t0 : txtR (baseR m s p a ++ keepR fs) 4 0 = m := by rw [hb]; rfl
    have t1 : txtR (baseR m s p a ++ keepR fs) 4 1 = s := by rw [hb]; rfl
    have t2 : txtR (baseR m s p a ++ keepR fs) 4 2 = p := by rw [hb]; rfl
    have t3 : txtR (baseR m s p a ++ keepR fs) 4 3 = a := by rw [hb]; rfl
    have hd : (baseR m s p a ++ keepR fs).drop 4 = keepR fs := by rw [hb]; rfl
    have hn : nvR 4 (baseR m s p a ++ keepR fs) = true := by
      unfold nvR
      rw [hd, Bool.and_eq_true, List.all_eq_true, List.all_eq_true]
      refine ⟨?_, fun x hx => by rw [k3 x hx]; simp⟩
      rw [hb]
      intro x hx
      simp at hx
      rcases hx with rfl | rfl | rfl | rfl <;> rfl
    unfold backE
    rw [hm, t0, t1, t2, t3, hd, if_neg (by omega), if_neg (by rw [k2]; simp [hae]), if_neg (by simp [hr]), if_neg (by simp [k1]), if_pos hn]
    exact ⟨rfl, rfl, rfl, rfl, rfl, kl⟩
end Go.Proofs.YtapikjhfgcbifaaGreatDoor

