/-
  The law ReasmChunks: what its loop keeps.
-/
import Derived.Test.YtgmgnokmeocmjaaReasmC
namespace Go.Proofs.Ytgmgnokmeocmjaa
set_option linter.unusedVariables false
open Go.RowKit

/-- Behind j bytes: the reassembler at p, its row, the frames so far; w5 was ahead of all chunks. -/
structure ChSt (w5 wr : World) (p : Nat) (bs : List UInt8) (j : Nat) (l : List UInt8) (v gv : Value) (gfs : List (Fr × Option Addr)) : Prop where
  r : RsAt wr p 16384 l v
  vb : ∀ k, v.ownBlock = some k → w5.heap.size ≤ k
  g : OwnF wr w5.heap.size gv gfs
  gv : ∀ x ∈ gfs, ∀ b, x.2 = some ⟨b, 0, none⟩ → v.ownBlock ≠ some b
  on : Only (· = p) w5 wr
  pre : allF 16384 (bs.take j).length (bs.take j) = some (gfs.map Prod.fst, l)
  jle : j ≤ bs.length
theorem ChSt.fresh {w5 wr wr' : World} {p : Nat} {bs : List UInt8} {j : Nat} {l : List UInt8} {v gv : Value} {gfs : List (Fr × Option Addr)} (h : ChSt w5 wr p bs j l v gv gfs) (hf : Fresh wr wr') : ChSt w5 wr' p bs j l v gv gfs :=
  ⟨h.r.fresh hf, h.vb, h.g.fresh hf, h.gv, h.on.trans (Only.of_fresh hf), h.pre, h.jle⟩
theorem ChSt.next {w5 wr : World} {p : Nat} {bs : List UInt8} {j : Nat} {l : List UInt8} {v gv : Value} {gfs : List (Fr × Option Addr)} (h : ChSt w5 wr p bs j l v gv gfs) (n : Nat) (hn : j + n ≤ bs.length) :
    allF 16384 (bs.take (j + n)).length (bs.take (j + n)) = (allF 16384 (l ++ (bs.drop j).take n).length (l ++ (bs.drop j).take n)).map fun p => (gfs.map Prod.fst ++ p.1, p.2) := by
  have e : bs.take (j + n) = bs.take j ++ (bs.drop j).take n := List.take_add
  rw [e, allF_chunk _ (bs.take j) _ (Nat.le_refl _), h.pre]
  rfl
theorem ChSt.all {w5 wr : World} {p : Nat} {bs : List UInt8} {j : Nat} {l : List UInt8} {v gv : Value} {gfs : List (Fr × Option Addr)} (h : ChSt w5 wr p bs j l v gv gfs) :
    allF 16384 bs.length bs = (allF 16384 (l ++ bs.drop j).length (l ++ bs.drop j)).map fun p => (gfs.map Prod.fst ++ p.1, p.2) := by
  have h1 := allF_chunk (most := 16384) _ (bs.take j) (bs.drop j) (Nat.le_refl _)
  rw [List.take_append_drop, h.pre] at h1
  exact h1
/-- A chunk is fed, and its frames are put behind those so far. -/
theorem ChSt.feed {w5 wr w3 : World} {p : Nat} {bs : List UInt8} {j : Nat} {l : List UInt8} {v gv : Value} {gfs : List (Fr × Option Addr)} (h : ChSt w5 wr p bs j l v gv gfs) (hb : bs.length ≤ 300) (n : Nat) (hn : j + n ≤ bs.length)
    {P : List Fr × List UInt8} {A1 : Option Addr} {n1 c1 : Nat} {fs : List (Fr × Option Addr)} {v' : Value} (hp : allF 16384 (l ++ (bs.drop j).take n).length (l ++ (bs.drop j).take n) = some P) (hn1 : n1 = P.1.length)
    (ho : OwnF w3 wr.heap.size (.slice A1 n1 c1) fs) (hfs : fs.map Prod.fst = P.1) (hr : RsAt w3 p 16384 P.2 v') (hO : Only (fun k => k = p ∨ v.ownBlock = some k) wr w3) (hv : ∀ k, v'.ownBlock = some k → v.ownBlock = some k ∨ wr.heap.size ≤ k)
    (hne : ∀ q ∈ fs, ∀ g, q.2 = some ⟨g, 0, none⟩ → v'.ownBlock ≠ some g) (m : Nat) (hm : gfs.length + n1 = m) (hm3 : m * 48 ≤ 140737488355328) :
    ∃ A' c' w4, (Builtin.append_ #[30, 30] 30 #[gv, .slice A1 n1 c1]).run Try.prog w3 = .ok (.slice A' m c') w4 ∧ ChSt w5 w4 p bs (j + n) P.2 v' (.slice A' m c') (gfs ++ fs) := by
  have hlen : fs.length = n1 := by rw [hn1, ← hfs, List.length_map]
  have hrb := h.r
  have hpt : ∀ g cs t, Blk wr g t cs → t ≠ 48 → g ≠ p := fun g cs t hg ht e => by subst e; exact hg.ne hrb.blk ht rfl
  have hg3 : OwnF w3 w5.heap.size gv gfs := by
    refine ⟨h.g.1.only hO ?_, fun q hq => ?_⟩
    · intro k hk
      obtain ⟨cur, hc⟩ := h.g.1.blk hk
      rintro (e | e)
      · exact hpt k cur _ hc (by decide) e
      · obtain ⟨cur', hc'⟩ := hrb.own.blk e
        exact hc.ne hc' (by decide) rfl
    · obtain ⟨⟨g', e', hg', hb'⟩, h2⟩ := h.g.2 q hq
      refine ⟨⟨g', e', hg', hb'.only hO ?_⟩, h2⟩
      rintro (e | e)
      · exact hpt g' _ _ hb' (by decide) e
      · exact h.gv q hq g' e' e
  have hsz := hO.size
  have hs5 := h.on.size
  obtain ⟨A', c', w4, hrun, hg4, hO4⟩ := OwnF.appendF hg3 (by omega) ho (by omega) hlen m hm hm3
  refine ⟨A', c', w4, hrun, ⟨?_, ?_, hg4, ?_, ?_, ?_, hn⟩⟩
  · refine hr.only hO4 ?_ ?_
    · intro e
      obtain ⟨cur, hc⟩ := hg3.1.blk e
      exact hc.ne hr.blk (by decide) rfl
    · intro k hk e
      obtain ⟨cur, hc⟩ := hg3.1.blk e
      obtain ⟨cur', hc'⟩ := hr.own.blk hk
      exact hc.ne hc' (by decide) rfl
  · intro k hk
    rcases hv k hk with e | e
    · exact h.vb k e
    · omega
  · intro x hx b e ev
    rcases List.mem_append.1 hx with hx | hx
    · rcases hv b ev with e2 | e2
      · exact h.gv x hx b e e2
      · obtain ⟨⟨g', e', hg', hb'⟩, _⟩ := h.g.2 x hx
        rw [e'] at e
        cases e
        have := hb'.lt
        omega
    · exact hne x hx b e ev
  · refine (Only.trans' (S := (· = p)) (h.on.trans' hO ?_) hO4 ?_)
    · intro i hi hk
      rcases hk with e | e
      · exact e
      · have := h.vb i e; omega
    · intro i hi hk
      have := (h.g.1.lt i hk).1
      omega
  · rw [h.next n hn, hp]
    simp [hfs]
theorem ChSt.kept {w5 wr w3 : World} {p : Nat} {bs : List UInt8} {j : Nat} {l : List UInt8} {v gv : Value} {gfs : List (Fr × Option Addr)} (h : ChSt w5 wr p bs j l v gv gfs) (hO : Only (fun k => k = p ∨ v.ownBlock = some k) wr w3) : OwnF w3 w5.heap.size gv gfs := by
  have hrb := h.r
  have hpt : ∀ g cs t, Blk wr g t cs → t ≠ 48 → g ≠ p := fun g cs t hg ht e => by subst e; exact hg.ne hrb.blk ht rfl
  refine ⟨h.g.1.only hO ?_, fun q hq => ?_⟩
  · intro k hk
    obtain ⟨cur, hc⟩ := h.g.1.blk hk
    rintro (e | e)
    · exact hpt k cur _ hc (by decide) e
    · obtain ⟨cur', hc'⟩ := hrb.own.blk e
      exact hc.ne hc' (by decide) rfl
  · obtain ⟨⟨g', e', hg', hb'⟩, h2⟩ := h.g.2 q hq
    refine ⟨⟨g', e', hg', hb'.only hO ?_⟩, h2⟩
    rintro (e | e)
    · exact hpt g' _ _ hb' (by decide) e
    · exact h.gv q hq g' e' e
end Go.Proofs.Ytgmgnokmeocmjaa
