/-
  Layer 12: an assembler's other calls; items out of memory.
-/
import Derived.Test.YtapnlkmofldmdaaBlock3
import Derived.Test.YtapnlkmofldmdaaShapeW
namespace Go.Proofs.Ytapnlkmofldmdaa
set_option linter.unusedVariables false
open Go.RowKit Go.ChangeShapes Go.WideShapes Go.Deep
/-- One item's cells in memory. -/
structure ItC (w : World) (b o : Nat) (x : ItV) : Prop where
  c0 : w.cell? ⟨b, o, none⟩ = some (.int .i64 x.ty)
  c1 : w.cell? ⟨b, o + 1, none⟩ = some (.int .i64 x.st)
  c2 : w.cell? ⟨b, o + 2, none⟩ = some (.slice x.A x.l.length x.c)
  c3 : w.cell? ⟨b, o + 3, none⟩ = some (.bool x.en)
  c4 : w.cell? ⟨b, o + 4, none⟩ = some (.bool x.eh)
  c5 : w.cell? ⟨b, o + 5, none⟩ = some (.bool x.ak)
  c6 : w.cell? ⟨b, o + 6, none⟩ = some (.int .i64 x.fl)
  c7 : w.cell? ⟨b, o + 7, none⟩ = some (.int .i64 x.co)
  c8 : w.cell? ⟨b, o + 8, none⟩ = some (.int .i64 x.la)
  c9 : w.cell? ⟨b, o + 9, none⟩ = some (.int .i64 x.inc)
  c10 : w.cell? ⟨b, o + 10, none⟩ = some (.int .i64 x.de)
  c11 : w.cell? ⟨b, o + 11, none⟩ = some (.int .i64 x.we)
  c12 : w.cell? ⟨b, o + 12, none⟩ = some (.bool x.wd)
  c13 : w.cell? ⟨b, o + 13, none⟩ = some (.bool x.ex)
  c14 : w.cell? ⟨b, o + 14, none⟩ = some (.slice x.PA x.ps.length x.pc)
theorem ItC.mk' {w : World} {b o : Nat} {x : ItV} (h : ∀ j, j < 15 → w.cell? ⟨b, o + j, none⟩ = x.cells[j]?) : ItC w b o x :=
  ⟨h 0 (by omega), h 1 (by omega), h 2 (by omega), h 3 (by omega), h 4 (by omega), h 5 (by omega), h 6 (by omega), h 7 (by omega), h 8 (by omega), h 9 (by omega), h 10 (by omega), h 11 (by omega), h 12 (by omega), h 13 (by omega), h 14 (by omega)⟩
theorem ItC.only {S : Nat → Prop} {w w' : World} {b o : Nat} {x : ItV} (h : ItC w b o x) (ho : Only S w w') (hb : b < w.heap.size) (hS : ¬ S b) : ItC w' b o x := by
  have k : ∀ j, w'.cell? ⟨b, j, none⟩ = w.cell? ⟨b, j, none⟩ := fun j => ho.cell (p := ⟨b, j, none⟩) hb hS
  obtain ⟨h0, h1, h2, h3, h4, h5, h6, h7, h8, h9, h10, h11, h12, h13, h14⟩ := h
  constructor <;> rw [k] <;> assumption
theorem Many.item {w : World} {A : Option Addr} {xs : List ItV} (h : Many ItV.cells 15 w A xs) (k : Nat) (x : ItV) (hx : xs[k]? = some x) : ∃ b o, A = some ⟨b, o, none⟩ ∧ b < w.heap.size ∧ ItC w b (o + k * 15) x := by
  obtain ⟨b, o, e, hb, hc⟩ := h.at k x hx
  exact ⟨b, o, e, hb, ItC.mk' hc⟩
/-- What there is of a part. -/
def atS (s : Option Part) : Int := match s with
  | none => 0
  | some (a, _, _) => a
def lenS (s : Option Part) : Nat := match s with
  | none => 0
  | some (_, l, _) => l.length
theorem asNew_no (lim : Int) (w : World) (h : lim < 0 ∨ 1048576 < lim) :
    Calls Try.prog 9 #[.int .i64 lim] w fun e w' => e = .returned (.tuple #[.pointer none, .int .i64 11]) ∧ w = w' := by
  rcases h with h | h
  · go_enter Try.func9, Try.ntmps9
    go_wp2
    go_ret2
    exact ⟨rfl, rfl⟩
  · have h' : ¬ lim < 0 := by omega
    go_enter Try.func9, Try.ntmps9
    go_wp2
    go_ret2
    exact ⟨rfl, rfl⟩
theorem asNew (lim : Int) (w : World) (h0 : 0 ≤ lim) (h1 : lim ≤ 1048576) :
    Calls Try.prog 9 #[.int .i64 lim] w fun e w' => ∃ p, e = .returned (.tuple #[.pointer (some ⟨p, 0, none⟩), .int .i64 0]) ∧ w.heap.size ≤ p ∧ AsAt w' p lim none (.slice none 0 0) ∧ Fresh w w' := by
  have h0' : ¬ lim < 0 := by omega
  have h1' : ¬ 1048576 < lim := by omega
  go_enter Try.func9, Try.ntmps9
  go_wp2
  go_ret2
  exact ⟨w.heap.size, rfl, Nat.le_refl _, ⟨h0, h1, fun _ => ⟨Blk.new _ _ _, rfl⟩, fun st l b e => by cases e⟩, Fresh.alloc _ _⟩
theorem asWithin (p : Nat) (lim : Int) (s : Option Part) (v : Value) (w : World) (h : AsAt w p lim s v) :
    Calls Try.prog 11 #[.pointer (some ⟨p, 0, none⟩)] w fun e w' => e = .returned (.tuple #[.int .i64 (atS s), .bool s.isSome]) ∧ Fresh w w' := by
  cases s with
  | none =>
    obtain ⟨c0, c1, c2, c3, c4⟩ := (h.idle rfl).1.c5
    clear h
    go_enter Try.func11, Try.ntmps11
    go_wp2
    go_region
    go_wp2
    go_ret2
    exact ⟨rfl, Fresh.drew _⟩
  | some y =>
    obtain ⟨a, l, b⟩ := y
    obtain ⟨c0, c1, c2, c3, c4⟩ := (h.part a l b rfl).1.c5
    clear h
    go_enter Try.func11, Try.ntmps11
    go_wp2
    go_region
    go_wp2
    go_ret2
    exact ⟨rfl, Fresh.drew _⟩
theorem asWaiting (p : Nat) (lim : Int) (s : Option Part) (v : Value) (w : World) (h : AsAt w p lim s v) :
    Calls Try.prog 16 #[.pointer (some ⟨p, 0, none⟩)] w fun e w' => e = .returned (.int .i64 (lenS s : Int)) ∧ w = w' := by
  cases s with
  | none =>
    obtain ⟨c0, c1, c2, c3, c4⟩ := (h.idle rfl).1.c5
    clear h
    go_enter Try.func16, Try.ntmps16
    go_wp2
    go_ret
    exact ⟨rfl, rfl⟩
  | some y =>
    obtain ⟨a, l, b⟩ := y
    obtain ⟨A, c, rfl, _⟩ := (h.part a l b rfl).2.1.slice
    obtain ⟨c0, c1, c2, c3, c4⟩ := (h.part a l b rfl).1.c5
    clear h
    go_enter Try.func16, Try.ntmps16
    go_wp2
    go_ret
    exact ⟨rfl, rfl⟩
theorem run_app_nil (w : World) : (Builtin.append_ #[31, 31] 31 #[.slice none 0 0, .slice none 0 0]).run Try.prog w = .ok (.slice none 0 0) w := by
  obtain ⟨i, hi, hiz, his, hib⟩ := info_parts u8_info
  simp [Builtin.append_, run_underlying Try.underlying31, sizeOf, typeInfo, hi, Builtin.lenOf, Builtin.firstCells]
def CopyR (lim : Int) (s : Option Part) (w : World) (e : Ending) (w' : World) : Prop :=
  ∃ q v, e = .returned (.pointer (some ⟨q, 0, none⟩)) ∧ w.heap.size ≤ q ∧ AsAt w' q lim s v ∧ (∀ k, v.ownBlock = some k → w.heap.size ≤ k) ∧ Fresh w w'
set_option maxRecDepth 100000 in
set_option maxHeartbeats 1600000 in
theorem asCopy (p : Nat) (lim : Int) (s : Option Part) (v : Value) (w : World) (h : AsAt w p lim s v) :
    Calls Try.prog 18 #[.pointer (some ⟨p, 0, none⟩)] w (CopyR lim s w) := by
  have hpl := h.lt.1
  have hl0 := h.l0
  have hl1 := h.l1
  cases s with
  | none =>
    obtain ⟨c0, c1, c2, c3, c4⟩ := (h.idle rfl).1.c5
    have hap := run_app_nil (w.alloc (.cells #[.int .i64 lim, .bool false, .int .i64 0, .slice none 0 0, .bool false] 62))
    clear h
    go_enter Try.func18, Try.ntmps18
    go_wp2_with (at_builtin; with_reducible refine wp_app rfl (.const (.slice none 0 0)) (.tmp 11) _ rfl hap rfl rfl rfl ?_)
    clear hap
    go_wp2
    go_ret
    have hb := (Blk.new w 62 #[.int .i64 lim, .bool false, .int .i64 0, .slice none 0 0, .bool false])
    refine ⟨w.heap.size, .slice none 0 0, rfl, Nat.le_refl _, ⟨hl0, hl1, fun _ => ⟨?_, rfl⟩, fun st l b e => by cases e⟩, (fun k hk => by cases hk), ?_⟩
    · first | exact hb | (have h1 := hb.set 3 (.slice none 0 0); simpa using h1)
    · first | exact Fresh.alloc _ _ | exact Fresh.step2 (Nat.le_refl _) (Fresh.alloc _ _)
  | some y =>
    obtain ⟨a, l, b⟩ := y
    obtain ⟨hb, hown, hll⟩ := h.part a l b rfl
    obtain ⟨A, c, rfl, hlc, hcm, _⟩ := hown.slice
    obtain ⟨c0, c1, c2, c3, c4⟩ := hb.c5
    have hbs : BS (w.alloc (.cells #[.int .i64 lim, .bool true, .int .i64 a, .slice A l.length c, .bool b] 62)) A l := hown.bytes.1.fresh (Fresh.alloc _ _)
    obtain ⟨A2, c2', w4, hap, ho4, hO4, hat⟩ := Own.moreX (P := Try.prog) (X := []) Try.underlying31 u8_info 31 (Own.nil (w.alloc (.cells #[.int .i64 lim, .bool true, .int .i64 a, .slice A l.length c, .bool b] 62)) 0 5 1) (Nat.zero_le _) A c l l.length l.length rfl (by omega) hbs (by omega)
    rw [List.nil_append] at ho4
    have hF4 : Fresh (w.alloc (.cells #[.int .i64 lim, .bool true, .int .i64 a, .slice A l.length c, .bool b] 62)) w4 := hO4.fresh (fun k _ e => by cases e)
    have hb4 := (Blk.new w 62 #[.int .i64 lim, .bool true, .int .i64 a, .slice A l.length c, .bool b]).fresh hF4
    have k3 := hb4.cell 3
    have y3 := hb4.frozen 3
    have HB4 := Lib.hid hb4
    have HO4 := Lib.hid ho4
    have HF4 := Lib.hid hF4
    have HAT := Lib.hid hat
    clear h hb hown hbs ho4 hO4 hat hF4 hb4
    go_enter Try.func18, Try.ntmps18
    go_wp2_with (at_builtin; with_reducible refine wp_app rfl (.const (.slice none 0 0)) (.tmp 11) _ rfl hap rfl rfl rfl ?_)
    clear hap
    go_wp2
    go_ret
    have hv : ∀ k, (Value.slice A2 l.length c2').ownBlock = some k → w.heap.size < k := fun k hk => by
      rcases HAT.out with e | e
      · rw [e] at hk; cases hk
      · rw [e] at hk; simp at hk; omega
    refine ⟨w.heap.size, .slice A2 l.length c2', rfl, Nat.le_refl _, ⟨hl0, hl1, (fun e => by cases e), fun st l' b' e => ?_⟩, fun k hk => Nat.le_of_lt (hv k hk), ?_⟩
    · cases e
      refine ⟨?_, HO4.out.only (Only.setCell w4 ⟨w.heap.size, 3, none⟩ _) (fun k hk e => by have := hv k hk; simp at e; omega), hll⟩
      have h1 := HB4.out.set 3 (.slice A2 l.length c2')
      simpa using h1
    · exact Fresh.step2 (Nat.le_refl _) ((Fresh.alloc _ _).trans HF4.out)
end Go.Proofs.Ytapnlkmofldmdaa
