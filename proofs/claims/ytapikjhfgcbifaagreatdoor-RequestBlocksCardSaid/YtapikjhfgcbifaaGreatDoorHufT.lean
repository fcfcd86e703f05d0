/-
  Package huff: the code as numbers.
-/
import Derived.KernelRfl
import Derived.Laws.Strings
namespace Go.Proofs.YtapikjhfgcbifaaGreatDoor
set_option linter.unusedVariables false
def lnA : ByteArray := ⟨#[13, 23, 28, 28, 28, 28, 28, 28, 28, 24, 30, 28, 28, 30, 28, 28, 28, 28, 28, 28, 28, 28, 30, 28, 28, 28, 28, 28, 28, 28, 28, 28, 6, 10, 10, 12, 13, 6, 8, 11, 10, 10, 8, 11, 8, 6, 6, 6, 5, 5, 5, 6, 6, 6, 6, 6, 6, 6, 7, 8, 15, 6, 12, 10, 13, 6, 7, 7, 7, 7, 7, 7, 7, 7, 7, 7, 7, 7, 7, 7, 7, 7, 7, 7, 7, 7, 7, 7, 8, 7, 8, 13, 19, 13, 14, 6, 15, 5, 6, 5, 6, 5, 6, 6, 6, 5, 7, 7, 6, 6, 6, 5, 6, 7, 6, 5, 5, 6, 7, 7, 7, 7, 7, 15, 11, 14, 13, 28, 20, 22, 20, 20, 22, 22, 22, 23, 22, 23, 23, 23, 23, 23, 24, 23, 24, 24, 22, 23, 24, 23, 23, 23, 23, 21, 22, 23, 22, 23, 23, 24, 22, 21, 20, 22, 22, 23, 23, 21, 23, 22, 22, 24, 21, 22, 23, 23, 21, 21, 22, 21, 23, 22, 23, 23, 20, 22, 22, 22, 23, 22, 22, 23, 26, 26, 20, 19, 22, 23, 22, 25, 26, 26, 26, 27, 27, 26, 24, 25, 19, 21, 26, 27, 27, 26, 27, 24, 21, 21, 26, 26, 28, 27, 27, 27, 20, 24, 20, 21, 22, 21, 21, 23, 22, 22, 25, 25, 24, 24, 26, 23, 26, 27, 26, 26, 27, 27, 27, 27, 27, 28, 27, 27, 27, 27, 27, 26, 30]⟩
theorem lnA_size : lnA.size = 257 := by decide +kernel
def lnL : List Nat := [13, 23, 28, 28, 28, 28, 28, 28, 28, 24, 30, 28, 28, 30, 28, 28, 28, 28, 28, 28, 28, 28, 30, 28, 28, 28, 28, 28, 28, 28, 28, 28, 6, 10, 10, 12, 13, 6, 8, 11, 10, 10, 8, 11, 8, 6, 6, 6, 5, 5, 5, 6, 6, 6, 6, 6, 6, 6, 7, 8, 15, 6, 12, 10, 13, 6, 7, 7, 7, 7, 7, 7, 7, 7, 7, 7, 7, 7, 7, 7, 7, 7, 7, 7, 7, 7, 7, 7, 8, 7, 8, 13, 19, 13, 14, 6, 15, 5, 6, 5, 6, 5, 6, 6, 6, 5, 7, 7, 6, 6, 6, 5, 6, 7, 6, 5, 5, 6, 7, 7, 7, 7, 7, 15, 11, 14, 13, 28, 20, 22, 20, 20, 22, 22, 22, 23, 22, 23, 23, 23, 23, 23, 24, 23, 24, 24, 22, 23, 24, 23, 23, 23, 23, 21, 22, 23, 22, 23, 23, 24, 22, 21, 20, 22, 22, 23, 23, 21, 23, 22, 22, 24, 21, 22, 23, 23, 21, 21, 22, 21, 23, 22, 23, 23, 20, 22, 22, 22, 23, 22, 22, 23, 26, 26, 20, 19, 22, 23, 22, 25, 26, 26, 26, 27, 27, 26, 24, 25, 19, 21, 26, 27, 27, 26, 27, 24, 21, 21, 26, 26, 28, 27, 27, 27, 20, 24, 20, 21, 22, 21, 21, 23, 22, 22, 25, 25, 24, 24, 26, 23, 26, 27, 26, 26, 27, 27, 27, 27, 27, 28, 27, 27, 27, 27, 27, 26, 30]
def ln (s : Nat) : Nat := lnL.getD s 0
/-- The byte of lnA at an index. -/
def lnI (i : Int) : Int := ((lnA[i.toNat]?).getD 0).toNat
theorem fold_lnA : (⟨#[13, 23, 28, 28, 28, 28, 28, 28, 28, 24, 30, 28, 28, 30, 28, 28, 28, 28, 28, 28, 28, 28, 30, 28, 28, 28, 28, 28, 28, 28, 28, 28, 6, 10, 10, 12, 13, 6, 8, 11, 10, 10, 8, 11, 8, 6, 6, 6, 5, 5, 5, 6, 6, 6, 6, 6, 6, 6, 7, 8, 15, 6, 12, 10, 13, 6, 7, 7, 7, 7, 7, 7, 7, 7, 7, 7, 7, 7, 7, 7, 7, 7, 7, 7, 7, 7, 7, 7, 8, 7, 8, 13, 19, 13, 14, 6, 15, 5, 6, 5, 6, 5, 6, 6, 6, 5, 7, 7, 6, 6, 6, 5, 6, 7, 6, 5, 5, 6, 7, 7, 7, 7, 7, 15, 11, 14, 13, 28, 20, 22, 20, 20, 22, 22, 22, 23, 22, 23, 23, 23, 23, 23, 24, 23, 24, 24, 22, 23, 24, 23, 23, 23, 23, 21, 22, 23, 22, 23, 23, 24, 22, 21, 20, 22, 22, 23, 23, 21, 23, 22, 22, 24, 21, 22, 23, 23, 21, 21, 22, 21, 23, 22, 23, 23, 20, 22, 22, 22, 23, 22, 22, 23, 26, 26, 20, 19, 22, 23, 22, 25, 26, 26, 26, 27, 27, 26, 24, 25, 19, 21, 26, 27, 27, 26, 27, 24, 21, 21, 26, 26, 28, 27, 27, 27, 20, 24, 20, 21, 22, 21, 21, 23, 22, 22, 25, 25, 24, 24, 26, 23, 26, 27, 26, 26, 27, 27, 27, 27, 27, 28, 27, 27, 27, 27, 27, 26, 30]⟩ : ByteArray) = lnA := rfl
def cntL : List Nat := [0, 0, 0, 0, 0, 10, 26, 32, 6, 0, 5, 3, 2, 6, 2, 3, 0, 0, 0, 3, 8, 13, 26, 29, 12, 4, 15, 19, 29, 0, 4]
def fstL : List Nat := [0, 0, 0, 0, 0, 0, 20, 92, 248, 508, 1016, 2042, 4090, 8184, 16380, 32764, 65534, 131068, 262136, 524272, 1048550, 2097116, 4194258, 8388568, 16777194, 33554412, 67108832, 134217694, 268435426, 536870910, 1073741820]
def plcL : List Nat := [0, 0, 0, 0, 0, 0, 10, 36, 68, 74, 74, 79, 82, 84, 90, 92, 95, 95, 95, 95, 98, 106, 119, 145, 174, 186, 190, 205, 224, 253, 253]
def numL : List Nat := [8184, 8388568, 268435426, 268435427, 268435428, 268435429, 268435430, 268435431, 268435432, 16777194, 1073741820, 268435433, 268435434, 1073741821, 268435435, 268435436, 268435437, 268435438, 268435439, 268435440, 268435441, 268435442, 1073741822, 268435443, 268435444, 268435445, 268435446, 268435447, 268435448, 268435449, 268435450, 268435451, 20, 1016, 1017, 4090, 8185, 21, 248, 2042, 1018, 1019, 249, 2043, 250, 22, 23, 24, 0, 1, 2, 25, 26, 27, 28, 29, 30, 31, 92, 251, 32764, 32, 4091, 1020, 8186, 33, 93, 94, 95, 96, 97, 98, 99, 100, 101, 102, 103, 104, 105, 106, 107, 108, 109, 110, 111, 112, 113, 114, 252, 115, 253, 8187, 524272, 8188, 16380, 34, 32765, 3, 35, 4, 36, 5, 37, 38, 39, 6, 116, 117, 40, 41, 42, 7, 43, 118, 44, 8, 9, 45, 119, 120, 121, 122, 123, 32766, 2044, 16381, 8189, 268435452, 1048550, 4194258, 1048551, 1048552, 4194259, 4194260, 4194261, 8388569, 4194262, 8388570, 8388571, 8388572, 8388573, 8388574, 16777195, 8388575, 16777196, 16777197, 4194263, 8388576, 16777198, 8388577, 8388578, 8388579, 8388580, 2097116, 4194264, 8388581, 4194265, 8388582, 8388583, 16777199, 4194266, 2097117, 1048553, 4194267, 4194268, 8388584, 8388585, 2097118, 8388586, 4194269, 4194270, 16777200, 2097119, 4194271, 8388587, 8388588, 2097120, 2097121, 4194272, 2097122, 8388589, 4194273, 8388590, 8388591, 1048554, 4194274, 4194275, 4194276, 8388592, 4194277, 4194278, 8388593, 67108832, 67108833, 1048555, 524273, 4194279, 8388594, 4194280, 33554412, 67108834, 67108835, 67108836, 134217694, 134217695, 67108837, 16777201, 33554413, 524274, 2097123, 67108838, 134217696, 134217697, 67108839, 134217698, 16777202, 2097124, 2097125, 67108840, 67108841, 268435453, 134217699, 134217700, 134217701, 1048556, 16777203, 1048557, 2097126, 4194281, 2097127, 2097128, 8388595, 4194282, 4194283, 33554414, 33554415, 16777204, 16777205, 67108842, 8388596, 67108843, 134217702, 67108844, 67108845, 134217703, 134217704, 134217705, 134217706, 134217707, 268435454, 134217708, 134217709, 134217710, 134217711, 134217712, 67108846, 1073741823]
def posL : List Nat := [84, 145, 224, 225, 226, 227, 228, 229, 230, 174, 253, 231, 232, 254, 233, 234, 235, 236, 237, 238, 239, 240, 255, 241, 242, 243, 244, 245, 246, 247, 248, 249, 10, 74, 75, 82, 85, 11, 68, 79, 76, 77, 69, 80, 70, 12, 13, 14, 0, 1, 2, 15, 16, 17, 18, 19, 20, 21, 36, 71, 92, 22, 83, 78, 86, 23, 37, 38, 39, 40, 41, 42, 43, 44, 45, 46, 47, 48, 49, 50, 51, 52, 53, 54, 55, 56, 57, 58, 72, 59, 73, 87, 95, 88, 90, 24, 93, 3, 25, 4, 26, 5, 27, 28, 29, 6, 60, 61, 30, 31, 32, 7, 33, 62, 34, 8, 9, 35, 63, 64, 65, 66, 67, 94, 81, 91, 89, 250, 98, 119, 99, 100, 120, 121, 122, 146, 123, 147, 148, 149, 150, 151, 175, 152, 176, 177, 124, 153, 178, 154, 155, 156, 157, 106, 125, 158, 126, 159, 160, 179, 127, 107, 101, 128, 129, 161, 162, 108, 163, 130, 131, 180, 109, 132, 164, 165, 110, 111, 133, 112, 166, 134, 167, 168, 102, 135, 136, 137, 169, 138, 139, 170, 190, 191, 103, 96, 140, 171, 141, 186, 192, 193, 194, 205, 206, 195, 181, 187, 97, 113, 196, 207, 208, 197, 209, 182, 114, 115, 198, 199, 251, 210, 211, 212, 104, 183, 105, 116, 142, 117, 118, 172, 143, 144, 188, 189, 184, 185, 200, 173, 201, 213, 202, 203, 214, 215, 216, 217, 218, 252, 219, 220, 221, 222, 223, 204, 256]
def ordL : List Nat := [48, 49, 50, 97, 99, 101, 105, 111, 115, 116, 32, 37, 45, 46, 47, 51, 52, 53, 54, 55, 56, 57, 61, 65, 95, 98, 100, 102, 103, 104, 108, 109, 110, 112, 114, 117, 58, 66, 67, 68, 69, 70, 71, 72, 73, 74, 75, 76, 77, 78, 79, 80, 81, 82, 83, 84, 85, 86, 87, 89, 106, 107, 113, 118, 119, 120, 121, 122, 38, 42, 44, 59, 88, 90, 33, 34, 40, 41, 63, 39, 43, 124, 35, 62, 0, 36, 64, 91, 93, 126, 94, 125, 60, 96, 123, 92, 195, 208, 128, 130, 131, 162, 184, 194, 224, 226, 153, 161, 167, 172, 176, 177, 179, 209, 216, 217, 227, 229, 230, 129, 132, 133, 134, 136, 146, 154, 156, 160, 163, 164, 169, 170, 173, 178, 181, 185, 186, 187, 189, 190, 196, 198, 228, 232, 233, 1, 135, 137, 138, 139, 140, 141, 143, 147, 149, 150, 151, 152, 155, 157, 158, 165, 166, 168, 174, 175, 180, 182, 183, 188, 191, 197, 231, 239, 9, 142, 144, 145, 148, 159, 171, 206, 215, 225, 236, 237, 199, 207, 234, 235, 192, 193, 200, 201, 202, 205, 210, 213, 218, 219, 238, 240, 242, 243, 255, 203, 204, 211, 212, 214, 221, 222, 223, 241, 244, 245, 246, 247, 248, 250, 251, 252, 253, 254, 2, 3, 4, 5, 6, 7, 8, 11, 12, 14, 15, 16, 17, 18, 19, 20, 21, 23, 24, 25, 26, 27, 28, 29, 30, 31, 127, 220, 249, 10, 13, 22, 256]
def cntF (n : Nat) : Nat := cntL.getD n 0
def fstF (n : Nat) : Nat := fstL.getD n 0
def plcF (n : Nat) : Nat := plcL.getD n 0
def numF (s : Nat) : Nat := numL.getD s 0
def posF (s : Nat) : Nat := posL.getD s 0
def ordF (p : Nat) : Nat := ordL.getD p 0
/-- How many of the first k symbols have n bits. -/
def cntK (k n : Nat) : Nat := ((lnL.take k).filter (· == n)).length
theorem lnL_length : lnL.length = 257 := by kernel_rfl
theorem lnL_ok : (List.range 257).all (fun s => Nat.ble 5 (ln s) && Nat.ble (ln s) 30 && Nat.beq (lnA[s]?.getD 0).toNat (ln s)) = true := by kernel_rfl
theorem ln_ok {s : Nat} (h : s < 257) : 5 ≤ ln s ∧ ln s ≤ 30 ∧ (lnA[s]?.getD 0).toNat = ln s := by
  have := List.all_eq_true.1 lnL_ok s (List.mem_range.2 h)
  simp only [Bool.and_eq_true, Nat.ble_eq, Nat.beq_eq] at this
  exact ⟨this.1.1, this.1.2, this.2⟩
theorem lnI_eq {s : Nat} (h : s < 257) : lnI (s : Int) = (ln s : Int) := by
  unfold lnI
  rw [Int.toNat_natCast, (ln_ok h).2.2]
theorem cntK_succ {k : Nat} (h : k < 257) (n : Nat) : cntK (k + 1) n = cntK k n + if ln k = n then 1 else 0 := by
  unfold cntK
  have hk : k < lnL.length := by rw [lnL_length]; exact h
  rw [List.take_succ_eq_append_getElem hk, List.filter_append, List.length_append]
  have e : ln k = lnL[k] := by simp [ln, List.getD, List.getElem?_eq_getElem hk]
  by_cases hn : ln k = n
  · rw [if_pos hn]; simp [← e, hn]
  · rw [if_neg hn]; simp [← e, hn]
theorem tab_ok1 : (List.range 31).all (fun n => Nat.beq (cntK 257 n) (cntF n) && Nat.ble (cntF n) 257 && Nat.blt (fstF n) 4294967296 && Nat.ble (plcF n + cntF n) 257 && Nat.ble (fstF n + cntF n) (2 ^ n)) = true := by kernel_rfl
theorem tab1 {n : Nat} (h : n < 31) : cntK 257 n = cntF n ∧ cntF n ≤ 257 ∧ fstF n < 4294967296 ∧ plcF n + cntF n ≤ 257 ∧ fstF n + cntF n ≤ 2 ^ n := by
  have := List.all_eq_true.1 tab_ok1 n (List.mem_range.2 h)
  simp only [Bool.and_eq_true, Nat.ble_eq, Nat.beq_eq, Nat.blt_eq] at this
  exact ⟨this.1.1.1.1, this.1.1.1.2, this.1.1.2, this.1.2, this.2⟩
theorem tab_ok2 : (List.range 30).all (fun n => Nat.beq (fstF (n + 1)) ((fstF n + cntF n) * 2) && Nat.beq (plcF (n + 1)) (plcF n + cntF n) && Nat.blt ((fstF n + cntF n) * 2) 4294967296) = true := by kernel_rfl
theorem tab2 {n : Nat} (h : n < 30) : fstF (n + 1) = (fstF n + cntF n) * 2 ∧ plcF (n + 1) = plcF n + cntF n ∧ (fstF n + cntF n) * 2 < 4294967296 := by
  have := List.all_eq_true.1 tab_ok2 n (List.mem_range.2 h)
  simp only [Bool.and_eq_true, Nat.ble_eq, Nat.beq_eq, Nat.blt_eq] at this
  exact ⟨this.1.1, this.1.2, this.2⟩
theorem sym_ok : (List.range 257).all (fun s => Nat.beq (numF s) (fstF (ln s) + cntK s (ln s)) && Nat.beq (posF s) (plcF (ln s) + cntK s (ln s)) && Nat.blt (posF s) 257 && Nat.beq (ordF (posF s)) s && Nat.blt (numF s) (2 ^ ln s) && Nat.blt (cntK s (ln s)) (cntF (ln s))) = true := by kernel_rfl
theorem sym {s : Nat} (h : s < 257) : numF s = fstF (ln s) + cntK s (ln s) ∧ posF s = plcF (ln s) + cntK s (ln s) ∧ posF s < 257 ∧ ordF (posF s) = s ∧ numF s < 2 ^ ln s ∧ cntK s (ln s) < cntF (ln s) := by
  have := List.all_eq_true.1 sym_ok s (List.mem_range.2 h)
  simp only [Bool.and_eq_true, Nat.ble_eq, Nat.beq_eq, Nat.blt_eq] at this
  exact ⟨this.1.1.1.1.1, this.1.1.1.1.2, this.1.1.1.2, this.1.1.2, this.1.2, this.2⟩
theorem ord_ok : (List.range 257).all (fun p => Nat.blt (ordF p) 257 && Nat.beq (posF (ordF p)) p) = true := by kernel_rfl
theorem ordP {p : Nat} (h : p < 257) : ordF p < 257 ∧ posF (ordF p) = p := by
  have := List.all_eq_true.1 ord_ok p (List.mem_range.2 h)
  simp only [Bool.and_eq_true, Nat.ble_eq, Nat.beq_eq, Nat.blt_eq] at this
  exact this
/-- Behind each length's first place its symbols stand, rising. -/
theorem place_ok : (List.range 31).all (fun n => (List.range (cntF n)).all (fun i => Nat.beq (ln (ordF (plcF n + i))) n && Nat.beq (numF (ordF (plcF n + i))) (fstF n + i))) = true := by kernel_rfl
theorem placeP {n i : Nat} (h : n < 31) (hi : i < cntF n) : ln (ordF (plcF n + i)) = n ∧ numF (ordF (plcF n + i)) = fstF n + i := by
  have := List.all_eq_true.1 (List.all_eq_true.1 place_ok n (List.mem_range.2 h)) i (List.mem_range.2 hi)
  simpa only [Bool.and_eq_true, Nat.beq_eq] using this
theorem posF_inj {s t : Nat} (hs : s < 257) (ht : t < 257) (h : posF s = posF t) : s = t := by
  rw [← (sym hs).2.2.2.1, h, (sym ht).2.2.2.1]
/-- What stands at a place when k symbols are laid. -/
def ordK : Nat → Nat → Nat
  | 0, _ => 0
  | k + 1, p => if p = posF k then k else ordK k p
theorem ordK_pos {s : Nat} (hs : s < 257) : ∀ k, k ≤ 257 → ordK k (posF s) = if s < k then s else 0
  | 0, _ => by simp [ordK]
  | k + 1, hk => by
    rw [ordK]
    by_cases e : posF s = posF k
    · have := posF_inj hs (by omega) e
      subst this
      simp
    · rw [if_neg e, ordK_pos hs k (by omega)]
      have : s ≠ k := fun h => e (by rw [h])
      by_cases h1 : s < k
      · rw [if_pos h1, if_pos (by omega)]
      · rw [if_neg h1, if_neg (by omega)]
theorem ordK_all {p : Nat} (hp : p < 257) : ordK 257 p = ordF p := by
  obtain ⟨h1, h2⟩ := ordP hp
  have := ordK_pos h1 257 (Nat.le_refl _)
  rw [h2, if_pos h1] at this
  exact this
/-- No code is a beginning of another one's. -/
theorem free_ok : (List.range 257).all (fun s => (List.range 257).all (fun t => Nat.beq s t || Nat.blt (ln t) (ln s) || !Nat.beq (numF t / 2 ^ (ln t - ln s)) (numF s))) = true := by kernel_rfl
theorem free {s t : Nat} (hs : s < 257) (ht : t < 257) (hl : ln s ≤ ln t) (h : numF t / 2 ^ (ln t - ln s) = numF s) : s = t := by
  have := List.all_eq_true.1 (List.all_eq_true.1 free_ok s (List.mem_range.2 hs)) t (List.mem_range.2 ht)
  simp only [Bool.or_eq_true, Nat.beq_eq, Nat.blt_eq, Bool.not_eq_true', Bool.eq_false_iff, ne_eq] at this
  rcases this with (h1 | h1) | h1
  · exact h1
  · omega
  · exact absurd h h1
end Go.Proofs.YtapikjhfgcbifaaGreatDoor

