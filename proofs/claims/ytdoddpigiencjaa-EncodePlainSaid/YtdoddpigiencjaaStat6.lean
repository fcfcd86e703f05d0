/-
  The document's entries; the law StaticGets.
-/
import Derived.Test.YtdoddpigiencjaaStatP
namespace Go.Proofs.Ytdoddpigiencjaa
set_option maxRecDepth 100000
set_option linter.unusedVariables false
open Go.RowKit

theorem wpList_alloc {P : Program} {ops : Array Oper} {Q : Exit → Act → World → Prop} {w : World} {a : Act} {o : Oper} {rest : List Oper} (hg : o.guard = none) (t : TypeId) (ho : o.op = .alloc t) (Z : Array Value) (hz : (zeroValue t).run P w = .ok (.agg Z) w)
    (h : wpList P ops Q rest (a.put o.dst (.pointer (some ⟨w.heap.size, 0, none⟩))) (w.alloc (.cells Z t))) : wpList P ops Q (o :: rest) a w :=
  wpList_plain hg fun K hK => by
    unfold Oper.wp
    simp [execOp, ho, go_sem, hz, Result.andThen]
    exact hK _ _ h
theorem wpList_part_x {P : Program} {ops : Array Oper} {Q : Exit → Act → World → Prop} {w : World} {a : Act} (n : Nat) (l : List Oper) (hs : (pureRun P a (l.take n)).isSome = true) (h : ∀ a', pureRun P a (l.take n) = some a' → wpList P ops Q (l.drop n) a' w) : wpList P ops Q l a w := by
  obtain ⟨a', ha⟩ := Option.isSome_iff_exists.1 hs
  exact wpList_part n l a' ha (h a' ha)
theorem list70 : ∀ l : List Value, l.length = 70 → ∃ x0 x1 x2 x3 x4 x5 x6 x7 x8 x9 x10 x11 x12 x13 x14 x15 x16 x17 x18 x19 x20 x21 x22 x23 x24 x25 x26 x27 x28 x29 x30 x31 x32 x33 x34 x35 x36 x37 x38 x39 x40 x41 x42 x43 x44 x45 x46 x47 x48 x49 x50 x51 x52 x53 x54 x55 x56 x57 x58 x59 x60 x61 x62 x63 x64 x65 x66 x67 x68 x69, l = [x0, x1, x2, x3, x4, x5, x6, x7, x8, x9, x10, x11, x12, x13, x14, x15, x16, x17, x18, x19, x20, x21, x22, x23, x24, x25, x26, x27, x28, x29, x30, x31, x32, x33, x34, x35, x36, x37, x38, x39, x40, x41, x42, x43, x44, x45, x46, x47, x48, x49, x50, x51, x52, x53, x54, x55, x56, x57, x58, x59, x60, x61, x62, x63, x64, x65, x66, x67, x68, x69]
  | x0 :: x1 :: x2 :: x3 :: x4 :: x5 :: x6 :: x7 :: x8 :: x9 :: x10 :: x11 :: x12 :: x13 :: x14 :: x15 :: x16 :: x17 :: x18 :: x19 :: x20 :: x21 :: x22 :: x23 :: x24 :: x25 :: x26 :: x27 :: x28 :: x29 :: x30 :: x31 :: x32 :: x33 :: x34 :: x35 :: x36 :: x37 :: x38 :: x39 :: x40 :: x41 :: x42 :: x43 :: x44 :: x45 :: x46 :: x47 :: x48 :: x49 :: x50 :: x51 :: x52 :: x53 :: x54 :: x55 :: x56 :: x57 :: x58 :: x59 :: x60 :: x61 :: x62 :: x63 :: x64 :: x65 :: x66 :: x67 :: x68 :: x69 :: [], _ => ⟨x0, x1, x2, x3, x4, x5, x6, x7, x8, x9, x10, x11, x12, x13, x14, x15, x16, x17, x18, x19, x20, x21, x22, x23, x24, x25, x26, x27, x28, x29, x30, x31, x32, x33, x34, x35, x36, x37, x38, x39, x40, x41, x42, x43, x44, x45, x46, x47, x48, x49, x50, x51, x52, x53, x54, x55, x56, x57, x58, x59, x60, x61, x62, x63, x64, x65, x66, x67, x68, x69, rfl⟩
theorem arr70 (a : Array Value) (h : a.size = 70) : ∃ x0 x1 x2 x3 x4 x5 x6 x7 x8 x9 x10 x11 x12 x13 x14 x15 x16 x17 x18 x19 x20 x21 x22 x23 x24 x25 x26 x27 x28 x29 x30 x31 x32 x33 x34 x35 x36 x37 x38 x39 x40 x41 x42 x43 x44 x45 x46 x47 x48 x49 x50 x51 x52 x53 x54 x55 x56 x57 x58 x59 x60 x61 x62 x63 x64 x65 x66 x67 x68 x69, a = #[x0, x1, x2, x3, x4, x5, x6, x7, x8, x9, x10, x11, x12, x13, x14, x15, x16, x17, x18, x19, x20, x21, x22, x23, x24, x25, x26, x27, x28, x29, x30, x31, x32, x33, x34, x35, x36, x37, x38, x39, x40, x41, x42, x43, x44, x45, x46, x47, x48, x49, x50, x51, x52, x53, x54, x55, x56, x57, x58, x59, x60, x61, x62, x63, x64, x65, x66, x67, x68, x69] := by
  obtain ⟨x0, x1, x2, x3, x4, x5, x6, x7, x8, x9, x10, x11, x12, x13, x14, x15, x16, x17, x18, x19, x20, x21, x22, x23, x24, x25, x26, x27, x28, x29, x30, x31, x32, x33, x34, x35, x36, x37, x38, x39, x40, x41, x42, x43, x44, x45, x46, x47, x48, x49, x50, x51, x52, x53, x54, x55, x56, x57, x58, x59, x60, x61, x62, x63, x64, x65, x66, x67, x68, x69, e⟩ := list70 a.toList (by simpa using h)
  exact ⟨x0, x1, x2, x3, x4, x5, x6, x7, x8, x9, x10, x11, x12, x13, x14, x15, x16, x17, x18, x19, x20, x21, x22, x23, x24, x25, x26, x27, x28, x29, x30, x31, x32, x33, x34, x35, x36, x37, x38, x39, x40, x41, x42, x43, x44, x45, x46, x47, x48, x49, x50, x51, x52, x53, x54, x55, x56, x57, x58, x59, x60, x61, x62, x63, x64, x65, x66, x67, x68, x69, by apply Array.toList_inj.1; rw [e]⟩
theorem tbl_at (k : Nat) (hk : k < 61) : tblC[k * 2]? = some (.string (fldAt k).1) ∧ tblC[k * 2 + 1]? = some (.string (fldAt k).2) := by
  have h := tbl_cut k hk
  have h0 := congrArg (fun a : Array Value => a[0]?) h
  have h1 := congrArg (fun a : Array Value => a[1]?) h
  have hs : tblC.size = 122 := by rfl
  simp only [Array.getElem?_extract] at h0 h1
  rw [if_pos (by rw [hs]; omega)] at h0 h1
  exact ⟨h0, h1⟩
def EntP (k : Nat) (w : World) (e : Ending) (w' : World) : Prop := e = .returned (.agg #[.string (fldAt k).1, .string (fldAt k).2]) ∧ Fresh w w'
set_option maxRecDepth 100000 in
set_option maxHeartbeats 6400000 in
theorem st_entry (k : Nat) (i : Int) (w : World) (h : i = (k : Int) + 1) (hk : k < 61) : Calls Try.prog 47 #[.int .i64 i] w (EntP k w) := by
  subst h
  obtain ⟨Z, hZ⟩ : ∃ Z : Array Value, Z = Array.replicate 122 (.string ByteArray.empty) := ⟨_, rfl⟩
  have HZ := Lib.hid hZ
  have hz : ∀ W : World, (zeroValue 113).run Try.prog W = .ok (.agg Z) W := fun W => by rw [hZ]; kernel_rfl
  clear hZ
  go_enter Try.func47, Try.ntmps47
  go_upto_region 1 with fail
  rename_i K hK
  refine wp_region_list ?_
  refine wpList_part_x 62 _ (by as_aux_lemma => kernel_rfl) fun a' ha => ?_
  have f0 : a'.tmps[0]? = some (.int .i64 ((k : Int) + 1)) := Option.some.inj ((congrArg (Option.map fun a : Act => a.tmps[0]?) ha).symm.trans (by as_aux_lemma => kernel_rfl))
  have f2 : a'.tmps[2]? = some (.pointer (some ⟨w.heap.size, 0, none⟩)) := Option.some.inj ((congrArg (Option.map fun a : Act => a.tmps[2]?) ha).symm.trans (by as_aux_lemma => kernel_rfl))
  have f65 : a'.tmps[65]? = some (.agg tblC) := Option.some.inj ((congrArg (Option.map fun a : Act => a.tmps[65]?) ha).symm.trans (by as_aux_lemma => kernel_rfl))
  have hsz : a'.tmps.size = 70 := Option.some.inj ((congrArg (Option.map fun a : Act => a.tmps.size) ha).symm.trans (by as_aux_lemma => kernel_rfl))
  have hdf : a'.defers = [] := Option.some.inj ((congrArg (Option.map fun a : Act => a.defers) ha).symm.trans (by as_aux_lemma => kernel_rfl))
  clear ha
  obtain ⟨tm, df⟩ := a'
  simp only at f0 f2 f65 hsz hdf
  subst hdf
  obtain ⟨x0, x1, x2, x3, x4, x5, x6, x7, x8, x9, x10, x11, x12, x13, x14, x15, x16, x17, x18, x19, x20, x21, x22, x23, x24, x25, x26, x27, x28, x29, x30, x31, x32, x33, x34, x35, x36, x37, x38, x39, x40, x41, x42, x43, x44, x45, x46, x47, x48, x49, x50, x51, x52, x53, x54, x55, x56, x57, x58, x59, x60, x61, x62, x63, x64, x65, x66, x67, x68, x69, rfl⟩ := arr70 tm hsz
  simp only [List.getElem?_toArray, List.getElem?_cons_zero, List.getElem?_cons_succ, Option.some.injEq] at f0 f2 f65
  subst f0 f2 f65
  have hb0 : Blk (w.alloc (.cells #[.string ⟨#[]⟩, .string ⟨#[]⟩] 77)) w.heap.size 77 #[.string ⟨#[]⟩, .string ⟨#[]⟩] := Blk.new _ _ _
  have HF0 := Lib.hid (Fresh.alloc w (.cells #[.string ⟨#[]⟩, .string ⟨#[]⟩] 77))
  have hsz0 : (w.alloc (.cells #[.string ⟨#[]⟩, .string ⟨#[]⟩] 77)).heap.size = w.heap.size + 1 := by simp
  generalize (w.alloc (.cells #[.string ⟨#[]⟩, .string ⟨#[]⟩] 77)) = w1 at *
  refine wpList_alloc rfl 113 rfl Z (hz _) ?_
  have hb := Blk.new w1 113 Z
  simp only [Act.put, List.setIfInBounds_toArray, List.set_cons_zero, List.set_cons_succ]
  refine wpList_store_row rfl 113 (.tmp 3) (.tmp 65) rfl w1.heap.size tblC rfl rfl 113 Z hb (by kernel_rfl) (by rw [HZ.out]; kernel_rfl) (by kernel_rfl) ?_
  refine wpList_nil ?_
  refine hK _ _ ?_
  simp only [Act.put]
  have hb2 : Blk ((w1.alloc (.cells Z 113)).setRow w1.heap.size tblC) w1.heap.size 113 tblC := setRow_heap _ _ Z tblC _ _ hb
  have hf2 : Fresh w1 ((w1.alloc (.cells Z 113)).setRow w1.heap.size tblC) := Only.fresh (S := fun k => k = w1.heap.size) ((Only.of_fresh (Fresh.alloc _ _)).trans ⟨rfl, rfl, rfl, by simp [World.setRow], fun k _ hk => setRow_other _ _ k _ hk⟩) (fun k hk e => by omega)
  rw [hsz0] at hb2 hf2
  simp only [hsz0]
  generalize (w1.alloc (.cells Z 113)).setRow (w.heap.size + 1) tblC = W at *
  obtain ⟨t0, t1⟩ := tbl_at k hk
  have q0 : W.cell? ⟨w.heap.size + 1, k * 2, none⟩ = some (.string (fldAt k).1) := (hb2.cell _).trans t0
  have q1 : W.cell? ⟨w.heap.size + 1, k * 2 + 1, none⟩ = some (.string (fldAt k).2) := (hb2.cell _).trans t1
  have hb3 := hb0.fresh hf2
  obtain ⟨y0, y1⟩ := hb3.c2
  have z0 := hb3.frozen 0
  have z1 := hb3.frozen 1
  have hw : IntKind.i64.wrap ((k : Int) + 1 - 1) = (k : Int) := by rw [IntKind.wrap_i64]; omega
  have hlt1 : (0 : Int) ≤ (k : Int) := by omega
  have hlt2 : (k : Int) < 61 := by omega
  have HF2 := Lib.hid (HF0.out.trans hf2)
  unfold EntP
  generalize fldAt k = fk at *
  clear hb hb0 hb2 hb3 hf2 t0 t1 hz HF0
  go_wp2
  refine bodyPost_ret (v := .agg #[.string fk.1, .string fk.2]) (by simp [results, Try.results47, go_sem, y0, y1]) rfl ⟨rfl, ?_⟩
  have := HF2.out
  repeat (first | with_reducible exact this | (with_reducible refine Fresh.step2 (Nat.le_refl _) ?_))
end Go.Proofs.Ytdoddpigiencjaa

