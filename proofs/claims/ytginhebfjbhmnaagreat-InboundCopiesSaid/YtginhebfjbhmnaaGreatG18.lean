/-
  Texts laid together: HufT HufB.
-/
import Derived.KernelRfl
import Derived.Laws.Strings
/-
  Package huff: the code as numbers.
-/
namespace Go.Proofs.YtginhebfjbhmnaaGreat
set_option maxRecDepth 100000
set_option linter.unusedVariables false
def lnA : ByteArray := ⟨#[13, 23, 28, 28, 28, 28, 28, 28, 28, 24, 30, 28, 28, 30, 28, 28, 28, 28, 28, 28, 28, 28, 30, 28, 28, 28, 28, 28, 28, 28, 28, 28, 6, 10, 10, 12, 13, 6, 8, 11, 10, 10, 8, 11, 8, 6, 6, 6, 5, 5, 5, 6, 6, 6, 6, 6, 6, 6, 7, 8, 15, 6, 12, 10, 13, 6, 7, 7, 7, 7, 7, 7, 7, 7, 7, 7, 7, 7, 7, 7, 7, 7, 7, 7, 7, 7, 7, 7, 8, 7, 8, 13, 19, 13, 14, 6, 15, 5, 6, 5, 6, 5, 6, 6, 6, 5, 7, 7, 6, 6, 6, 5, 6, 7, 6, 5, 5, 6, 7, 7, 7, 7, 7, 15, 11, 14, 13, 28, 20, 22, 20, 20, 22, 22, 22, 23, 22, 23, 23, 23, 23, 23, 24, 23, 24, 24, 22, 23, 24, 23, 23, 23, 23, 21, 22, 23, 22, 23, 23, 24, 22, 21, 20, 22, 22, 23, 23, 21, 23, 22, 22, 24, 21, 22, 23, 23, 21, 21, 22, 21, 23, 22, 23, 23, 20, 22, 22, 22, 23, 22, 22, 23, 26, 26, 20, 19, 22, 23, 22, 25, 26, 26, 26, 27, 27, 26, 24, 25, 19, 21, 26, 27, 27, 26, 27, 24, 21, 21, 26, 26, 28, 27, 27, 27, 20, 24, 20, 21, 22, 21, 21, 23, 22, 22, 25, 25, 24, 24, 26, 23, 26, 27, 26, 26, 27, 27, 27, 27, 27, 28, 27, 27, 27, 27, 27, 26, 30]⟩
theorem lnA_size : lnA.size = 257 := by decide +kernel
def lnL : List Nat := [13, 23, 28, 28, 28, 28, 28, 28, 28, 24, 30, 28, 28, 30, 28, 28, 28, 28, 28, 28, 28, 28, 30, 28, 28, 28, 28, 28, 28, 28, 28, 28, 6, 10, 10, 12, 13, 6, 8, 11, 10, 10, 8, 11, 8, 6, 6, 6, 5, 5, 5, 6, 6, 6, 6, 6, 6, 6, 7, 8, 15, 6, 12, 10, 13, 6, 7, 7, 7, 7, 7, 7, 7, 7, 7, 7, 7, 7, 7, 7, 7, 7, 7, 7, 7, 7, 7, 7, 8, 7, 8, 13, 19, 13, 14, 6, 15, 5, 6, 5, 6, 5, 6, 6, 6, 5, 7, 7, 6, 6, 6, 5, 6, 7, 6, 5, 5, 6, 7, 7, 7, 7, 7, 15, 11, 14, 13, 28, 20, 22, 20, 20, 22, 22, 22, 23, 22, 23, 23, 23, 23, 23, 24, 23, 24, 24, 22, 23, 24, 23, 23, 23, 23, 21, 22, 23, 22, 23, 23, 24, 22, 21, 20, 22, 22, 23, 23, 21, 23, 22, 22, 24, 21, 22, 23, 23, 21, 21, 22, 21, 23, 22, 23, 23, 20, 22, 22, 22, 23, 22, 22, 23, 26, 26, 20, 19, 22, 23, 22, 25, 26, 26, 26, 27, 27, 26, 24, 25, 19, 21, 26, 27, 27, 26, 27, 24, 21, 21, 26, 26, 28, 27, 27, 27, 20, 24, 20, 21, 22, 21, 21, 23, 22, 22, 25, 25, 24, 24, 26, 23, 26, 27, 26, 26, 27, 27, 27, 27, 27, 28, 27, 27, 27, 27, 27, 26, 30]
def ln (s : Nat) : Nat := lnL.getD s 0
/-- The byte of lnA at an index. -/
def lnI (i : Int) : Int := ((lnA[i.toNat]?).getD 0).toNat
theorem fold_lnA : (⟨#[13, 23, 28, 28, 28, 28, 28, 28, 28, 24, 30, 28, 28, 30, 28, 28, 28, 28, 28, 28, 28, 28, 30, 28, 28, 28, 28, 28, 28, 28, 28, 28, 6, 10, 10, 12, 13, 6, 8, 11, 10, 10, 8, 11, 8, 6, 6, 6, 5, 5, 5, 6, 6, 6, 6, 6, 6, 6, 7, 8, 15, 6, 12, 10, 13, 6, 7, 7, 7, 7, 7, 7, 7, 7, 7, 7, 7, 7, 7, 7, 7, 7, 7, 7, 7, 7, 7, 7, 8, 7, 8, 13, 19, 13, 14, 6, 15, 5, 6, 5, 6, 5, 6, 6, 6, 5, 7, 7, 6, 6, 6, 5, 6, 7, 6, 5, 5, 6, 7, 7, 7, 7, 7, 15, 11, 14, 13, 28, 20, 22, 20, 20, 22, 22, 22, 23, 22, 23, 23, 23, 23, 23, 24, 23, 24, 24, 22, 23, 24, 23, 23, 23, 23, 21, 22, 23, 22, 23, 23, 24, 22, 21, 20, 22, 22, 23, 23, 21, 23, 22, 22, 24, 21, 22, 23, 23, 21, 21, 22, 21, 23, 22, 23, 23, 20, 22, 22, 22, 23, 22, 22, 23, 26, 26, 20, 19, 22, 23, 22, 25, 26, 26, 26, 27, 27, 26, 24, 25, 19, 21, 26, 27, 27, 26, 27, 24, 21, 21, 26, 26, 28, 27, 27, 27, 20, 24, 20, 21, 22, 21, 21, 23, 22, 22, 25, 25, 24, 24, 26, 23, 26, 27, 26, 26, 27, 27, 27, 27, 27, 28, 27, 27, 27, 27, 27, 26, 30]⟩ : ByteArray) = lnA := rfl
def cntL : List Nat := [0, 0, 0, 0, 0, 10, 26, 32, 6, 0, 5, 3, 2, 6, 2, 3, 0, 0, 0, 3, 8, 13, 26, 29, 12, 4, 15, 19, 29, 0, 4]
def fstL : List Nat := [0, 0, 0, 0, 0, 0, 20, 92, 248, 508, 1016, 2042, 4090, 8184, 16380, 32764, 65534, 131068, 262136, 524272, 1048550, 2097116, 4194258, 8388568, 16777194, 33554412, 67108832, 134217694, 268435426, 536870910, 1073741820]
def plcL : List Nat := [0, 0, 0, 0, 0, 0, 10, 36, 68, 74, 74, 79, 82, 84, 90, 92, 95, 95, 95, 95, 98, 106, 119, 145, 174, 186, 190, 205, 224, 253, 253]
def hufNum : List Nat := [8184, 8388568, 268435426, 268435427, 268435428, 268435429, 268435430, 268435431, 268435432, 16777194, 1073741820, 268435433, 268435434, 1073741821, 268435435, 268435436, 268435437, 268435438, 268435439, 268435440, 268435441, 268435442, 1073741822, 268435443, 268435444, 268435445, 268435446, 268435447, 268435448, 268435449, 268435450, 268435451, 20, 1016, 1017, 4090, 8185, 21, 248, 2042, 1018, 1019, 249, 2043, 250, 22, 23, 24, 0, 1, 2, 25, 26, 27, 28, 29, 30, 31, 92, 251, 32764, 32, 4091, 1020, 8186, 33, 93, 94, 95, 96, 97, 98, 99, 100, 101, 102, 103, 104, 105, 106, 107, 108, 109, 110, 111, 112, 113, 114, 252, 115, 253, 8187, 524272, 8188, 16380, 34, 32765, 3, 35, 4, 36, 5, 37, 38, 39, 6, 116, 117, 40, 41, 42, 7, 43, 118, 44, 8, 9, 45, 119, 120, 121, 122, 123, 32766, 2044, 16381, 8189, 268435452, 1048550, 4194258, 1048551, 1048552, 4194259, 4194260, 4194261, 8388569, 4194262, 8388570, 8388571, 8388572, 8388573, 8388574, 16777195, 8388575, 16777196, 16777197, 4194263, 8388576, 16777198, 8388577, 8388578, 8388579, 8388580, 2097116, 4194264, 8388581, 4194265, 8388582, 8388583, 16777199, 4194266, 2097117, 1048553, 4194267, 4194268, 8388584, 8388585, 2097118, 8388586, 4194269, 4194270, 16777200, 2097119, 4194271, 8388587, 8388588, 2097120, 2097121, 4194272, 2097122, 8388589, 4194273, 8388590, 8388591, 1048554, 4194274, 4194275, 4194276, 8388592, 4194277, 4194278, 8388593, 67108832, 67108833, 1048555, 524273, 4194279, 8388594, 4194280, 33554412, 67108834, 67108835, 67108836, 134217694, 134217695, 67108837, 16777201, 33554413, 524274, 2097123, 67108838, 134217696, 134217697, 67108839, 134217698, 16777202, 2097124, 2097125, 67108840, 67108841, 268435453, 134217699, 134217700, 134217701, 1048556, 16777203, 1048557, 2097126, 4194281, 2097127, 2097128, 8388595, 4194282, 4194283, 33554414, 33554415, 16777204, 16777205, 67108842, 8388596, 67108843, 134217702, 67108844, 67108845, 134217703, 134217704, 134217705, 134217706, 134217707, 268435454, 134217708, 134217709, 134217710, 134217711, 134217712, 67108846, 1073741823]
def posL : List Nat := [84, 145, 224, 225, 226, 227, 228, 229, 230, 174, 253, 231, 232, 254, 233, 234, 235, 236, 237, 238, 239, 240, 255, 241, 242, 243, 244, 245, 246, 247, 248, 249, 10, 74, 75, 82, 85, 11, 68, 79, 76, 77, 69, 80, 70, 12, 13, 14, 0, 1, 2, 15, 16, 17, 18, 19, 20, 21, 36, 71, 92, 22, 83, 78, 86, 23, 37, 38, 39, 40, 41, 42, 43, 44, 45, 46, 47, 48, 49, 50, 51, 52, 53, 54, 55, 56, 57, 58, 72, 59, 73, 87, 95, 88, 90, 24, 93, 3, 25, 4, 26, 5, 27, 28, 29, 6, 60, 61, 30, 31, 32, 7, 33, 62, 34, 8, 9, 35, 63, 64, 65, 66, 67, 94, 81, 91, 89, 250, 98, 119, 99, 100, 120, 121, 122, 146, 123, 147, 148, 149, 150, 151, 175, 152, 176, 177, 124, 153, 178, 154, 155, 156, 157, 106, 125, 158, 126, 159, 160, 179, 127, 107, 101, 128, 129, 161, 162, 108, 163, 130, 131, 180, 109, 132, 164, 165, 110, 111, 133, 112, 166, 134, 167, 168, 102, 135, 136, 137, 169, 138, 139, 170, 190, 191, 103, 96, 140, 171, 141, 186, 192, 193, 194, 205, 206, 195, 181, 187, 97, 113, 196, 207, 208, 197, 209, 182, 114, 115, 198, 199, 251, 210, 211, 212, 104, 183, 105, 116, 142, 117, 118, 172, 143, 144, 188, 189, 184, 185, 200, 173, 201, 213, 202, 203, 214, 215, 216, 217, 218, 252, 219, 220, 221, 222, 223, 204, 256]
def ordL : List Nat := [48, 49, 50, 97, 99, 101, 105, 111, 115, 116, 32, 37, 45, 46, 47, 51, 52, 53, 54, 55, 56, 57, 61, 65, 95, 98, 100, 102, 103, 104, 108, 109, 110, 112, 114, 117, 58, 66, 67, 68, 69, 70, 71, 72, 73, 74, 75, 76, 77, 78, 79, 80, 81, 82, 83, 84, 85, 86, 87, 89, 106, 107, 113, 118, 119, 120, 121, 122, 38, 42, 44, 59, 88, 90, 33, 34, 40, 41, 63, 39, 43, 124, 35, 62, 0, 36, 64, 91, 93, 126, 94, 125, 60, 96, 123, 92, 195, 208, 128, 130, 131, 162, 184, 194, 224, 226, 153, 161, 167, 172, 176, 177, 179, 209, 216, 217, 227, 229, 230, 129, 132, 133, 134, 136, 146, 154, 156, 160, 163, 164, 169, 170, 173, 178, 181, 185, 186, 187, 189, 190, 196, 198, 228, 232, 233, 1, 135, 137, 138, 139, 140, 141, 143, 147, 149, 150, 151, 152, 155, 157, 158, 165, 166, 168, 174, 175, 180, 182, 183, 188, 191, 197, 231, 239, 9, 142, 144, 145, 148, 159, 171, 206, 215, 225, 236, 237, 199, 207, 234, 235, 192, 193, 200, 201, 202, 205, 210, 213, 218, 219, 238, 240, 242, 243, 255, 203, 204, 211, 212, 214, 221, 222, 223, 241, 244, 245, 246, 247, 248, 250, 251, 252, 253, 254, 2, 3, 4, 5, 6, 7, 8, 11, 12, 14, 15, 16, 17, 18, 19, 20, 21, 23, 24, 25, 26, 27, 28, 29, 30, 31, 127, 220, 249, 10, 13, 22, 256]
def cntF (n : Nat) : Nat := cntL.getD n 0
def fstF (n : Nat) : Nat := fstL.getD n 0
def plcF (n : Nat) : Nat := plcL.getD n 0
def numF (s : Nat) : Nat := hufNum.getD s 0
def posF (s : Nat) : Nat := posL.getD s 0
def ordF (p : Nat) : Nat := ordL.getD p 0
/-- How many of the first k symbols have n bits. -/
def cntK (k n : Nat) : Nat := ((lnL.take k).filter (· == n)).length
theorem lnL_length : lnL.length = 257 := by kernel_rfl
theorem lnL_ok : (List.range 257).all (fun s => Nat.ble 5 (ln s) && Nat.ble (ln s) 30 && Nat.beq (lnA[s]?.getD 0).toNat (ln s)) = true := by kernel_rfl
theorem ln_ok {s : Nat} (h : s < 257) : 5 ≤ ln s ∧ ln s ≤ 30 ∧ (lnA[s]?.getD 0).toNat = ln s := by
  have := List.all_eq_true.1 lnL_ok s (List.mem_range.2 h)
  simp only [Bool.and_eq_true, Nat.ble_eq, Nat.beq_eq] at this
  exact ⟨this.1.1, this.1.2, this.2⟩
theorem lnI_eq {s : Nat} (h : s < 257) : lnI (s : Int) = (ln s : Int) := by
  unfold lnI
  rw [Int.toNat_natCast, (ln_ok h).2.2]
theorem cntK_succ {k : Nat} (h : k < 257) (n : Nat) : cntK (k + 1) n = cntK k n + if ln k = n then 1 else 0 := by
  unfold cntK
  have hk : k < lnL.length := by rw [lnL_length]; exact h
  rw [List.take_succ_eq_append_getElem hk, List.filter_append, List.length_append]
  have e : ln k = lnL[k] := by simp [ln, List.getD, List.getElem?_eq_getElem hk]
  by_cases hn : ln k = n
  · rw [if_pos hn]; simp [← e, hn]
  · rw [if_neg hn]; simp [← e, hn]
theorem tab_ok1 : (List.range 31).all (fun n => Nat.beq (cntK 257 n) (cntF n) && Nat.ble (cntF n) 257 && Nat.blt (fstF n) 4294967296 && Nat.ble (plcF n + cntF n) 257 && Nat.ble (fstF n + cntF n) (2 ^ n)) = true := by kernel_rfl
theorem tab1 {n : Nat} (h : n < 31) : cntK 257 n = cntF n ∧ cntF n ≤ 257 ∧ fstF n < 4294967296 ∧ plcF n + cntF n ≤ 257 ∧ fstF n + cntF n ≤ 2 ^ n := by
  have := List.all_eq_true.1 tab_ok1 n (List.mem_range.2 h)
  simp only [Bool.and_eq_true, Nat.ble_eq, Nat.beq_eq, Nat.blt_eq] at this
  exact ⟨this.1.1.1.1, this.1.1.1.2, this.1.1.2, this.1.2, this.2⟩
theorem tab_ok2 : (List.range 30).all (fun n => Nat.beq (fstF (n + 1)) ((fstF n + cntF n) * 2) && Nat.beq (plcF (n + 1)) (plcF n + cntF n) && Nat.blt ((fstF n + cntF n) * 2) 4294967296) = true := by kernel_rfl
theorem tab2 {n : Nat} (h : n < 30) : fstF (n + 1) = (fstF n + cntF n) * 2 ∧ plcF (n + 1) = plcF n + cntF n ∧ (fstF n + cntF n) * 2 < 4294967296 := by
  have := List.all_eq_true.1 tab_ok2 n (List.mem_range.2 h)
  simp only [Bool.and_eq_true, Nat.ble_eq, Nat.beq_eq, Nat.blt_eq] at this
  exact ⟨this.1.1, this.1.2, this.2⟩
theorem sym_ok : (List.range 257).all (fun s => Nat.beq (numF s) (fstF (ln s) + cntK s (ln s)) && Nat.beq (posF s) (plcF (ln s) + cntK s (ln s)) && Nat.blt (posF s) 257 && Nat.beq (ordF (posF s)) s && Nat.blt (numF s) (2 ^ ln s) && Nat.blt (cntK s (ln s)) (cntF (ln s))) = true := by kernel_rfl
theorem sym {s : Nat} (h : s < 257) : numF s = fstF (ln s) + cntK s (ln s) ∧ posF s = plcF (ln s) + cntK s (ln s) ∧ posF s < 257 ∧ ordF (posF s) = s ∧ numF s < 2 ^ ln s ∧ cntK s (ln s) < cntF (ln s) := by
  have := List.all_eq_true.1 sym_ok s (List.mem_range.2 h)
  simp only [Bool.and_eq_true, Nat.ble_eq, Nat.beq_eq, Nat.blt_eq] at this
  exact ⟨this.1.1.1.1.1, this.1.1.1.1.2, this.1.1.1.2, this.1.1.2, this.1.2, this.2⟩
theorem ord_ok : (List.range 257).all (fun p => Nat.blt (ordF p) 257 && Nat.beq (posF (ordF p)) p) = true := by kernel_rfl
theorem ordP {p : Nat} (h : p < 257) : ordF p < 257 ∧ posF (ordF p) = p := by
  have := List.all_eq_true.1 ord_ok p (List.mem_range.2 h)
  simp only [Bool.and_eq_true, Nat.ble_eq, Nat.beq_eq, Nat.blt_eq] at this
  exact this
/-- Behind each length's first place its symbols stand, rising. -/
theorem place_ok : (List.range 31).all (fun n => (List.range (cntF n)).all (fun i => Nat.beq (ln (ordF (plcF n + i))) n && Nat.beq (numF (ordF (plcF n + i))) (fstF n + i))) = true := by kernel_rfl
theorem placeP {n i : Nat} (h : n < 31) (hi : i < cntF n) : ln (ordF (plcF n + i)) = n ∧ numF (ordF (plcF n + i)) = fstF n + i := by
  have := List.all_eq_true.1 (List.all_eq_true.1 place_ok n (List.mem_range.2 h)) i (List.mem_range.2 hi)
  simpa only [Bool.and_eq_true, Nat.beq_eq] using this
theorem posF_inj {s t : Nat} (hs : s < 257) (ht : t < 257) (h : posF s = posF t) : s = t := by
  rw [← (sym hs).2.2.2.1, h, (sym ht).2.2.2.1]
/-- What stands at a place when k symbols are laid. -/
def ordK : Nat → Nat → Nat
  | 0, _ => 0
  | k + 1, p => if p = posF k then k else ordK k p
theorem ordK_pos {s : Nat} (hs : s < 257) : ∀ k, k ≤ 257 → ordK k (posF s) = if s < k then s else 0
  | 0, _ => by simp [ordK]
  | k + 1, hk => by
    rw [ordK]
    by_cases e : posF s = posF k
    · have := posF_inj hs (by omega) e
      subst this
      simp
    · rw [if_neg e, ordK_pos hs k (by omega)]
      have : s ≠ k := fun h => e (by rw [h])
      by_cases h1 : s < k
      · rw [if_pos h1, if_pos (by omega)]
      · rw [if_neg h1, if_neg (by omega)]
theorem ordK_all {p : Nat} (hp : p < 257) : ordK 257 p = ordF p := by
  obtain ⟨h1, h2⟩ := ordP hp
  have := ordK_pos h1 257 (Nat.le_refl _)
  rw [h2, if_pos h1] at this
  exact this
/-- No code is a beginning of another one's. -/
theorem free_ok : (List.range 257).all (fun s => (List.range 257).all (fun t => Nat.beq s t || Nat.blt (ln t) (ln s) || !Nat.beq (numF t / 2 ^ (ln t - ln s)) (numF s))) = true := by kernel_rfl
theorem free {s t : Nat} (hs : s < 257) (ht : t < 257) (hl : ln s ≤ ln t) (h : numF t / 2 ^ (ln t - ln s) = numF s) : s = t := by
  have := List.all_eq_true.1 (List.all_eq_true.1 free_ok s (List.mem_range.2 hs)) t (List.mem_range.2 ht)
  simp only [Bool.or_eq_true, Nat.beq_eq, Nat.blt_eq, Bool.not_eq_true', Bool.eq_false_iff, ne_eq] at this
  rcases this with (h1 | h1) | h1
  · exact h1
  · omega
  · exact absurd h h1
end Go.Proofs.YtginhebfjbhmnaaGreat

/-
  Package huff: texts as bits.
-/
namespace Go.Proofs.YtginhebfjbhmnaaGreat
set_option maxRecDepth 100000
set_option linter.unusedVariables false
/-- The last n bits of a number, the first one first. -/
def bitsOf (v n : Nat) : List Bool := (List.range n).map fun i => v.testBit (n - 1 - i)
theorem bitsOf_length (v n : Nat) : (bitsOf v n).length = n := by simp [bitsOf]
theorem bitsOf_get (v n i : Nat) (h : i < (bitsOf v n).length) : (bitsOf v n)[i] = v.testBit (n - 1 - i) := by simp [bitsOf]
theorem bitsOf_append (v a b : Nat) : bitsOf v (a + b) = bitsOf (v / 2 ^ b) a ++ bitsOf v b := by
  apply List.ext_getElem
  · simp [bitsOf_length]
  · intro i h1 h2
    rw [bitsOf_get]
    rw [bitsOf_length] at h1
    by_cases h : i < a
    · rw [List.getElem_append_left (by rw [bitsOf_length]; exact h), bitsOf_get, Nat.testBit_div_two_pow]
      congr 1
      omega
    · rw [List.getElem_append_right (by rw [bitsOf_length]; omega), bitsOf_get, bitsOf_length]
      congr 1
      omega
theorem bitsOf_mod (v m n : Nat) (h : n ≤ m) : bitsOf (v % 2 ^ m) n = bitsOf v n := by
  apply List.ext_getElem
  · simp [bitsOf_length]
  · intro i h1 h2
    rw [bitsOf_length] at h1
    rw [bitsOf_get, bitsOf_get, Nat.testBit_mod_two_pow]
    have : n - 1 - i < m := by omega
    simp [this]
theorem bitsOf_inj {v u n : Nat} (hv : v < 2 ^ n) (hu : u < 2 ^ n) (h : bitsOf v n = bitsOf u n) : v = u := by
  apply Nat.eq_of_testBit_eq
  intro i
  by_cases hi : i < n
  · have h1 : (bitsOf v n)[n - 1 - i]'(by rw [bitsOf_length]; omega) = (bitsOf u n)[n - 1 - i]'(by rw [bitsOf_length]; omega) := by simp [h]
    rw [bitsOf_get, bitsOf_get, show n - 1 - (n - 1 - i) = i by omega] at h1
    exact h1
  · rw [Nat.testBit_lt_two_pow (Nat.lt_of_lt_of_le hv (Nat.pow_le_pow_right (by omega) (by omega))), Nat.testBit_lt_two_pow (Nat.lt_of_lt_of_le hu (Nat.pow_le_pow_right (by omega) (by omega)))]
theorem bitsOf_cat (v u a b : Nat) (hu : u < 2 ^ b) : bitsOf (v * 2 ^ b + u) (a + b) = bitsOf v a ++ bitsOf u b := by
  rw [bitsOf_append]
  have hp : 0 < 2 ^ b := Nat.pow_pos (by omega)
  rw [show (v * 2 ^ b + u) / 2 ^ b = v by rw [Nat.mul_comm, Nat.mul_add_div hp, Nat.div_eq_of_lt hu, Nat.add_zero], ← bitsOf_mod (v * 2 ^ b + u) b b (Nat.le_refl _), Nat.mul_add_mod', Nat.mod_eq_of_lt hu]
def ones (n : Nat) : List Bool := List.replicate n true
theorem ones_bits (n : Nat) : bitsOf (2 ^ n - 1) n = ones n := by
  apply List.ext_getElem
  · simp [bitsOf_length, ones]
  · intro i h1 h2
    rw [bitsOf_length] at h1
    rw [bitsOf_get, Nat.testBit_two_pow_sub_one]
    simp [ones]
    omega
def bb (c : UInt8) : List Bool := bitsOf c.toNat 8
def bitsL (l : List UInt8) : List Bool := l.flatMap bb
theorem bb_length (c : UInt8) : (bb c).length = 8 := bitsOf_length _ _
theorem bb_inj {c d : UInt8} (h : bb c = bb d) : c = d := by
  have hc := UInt8.toNat_lt c
  have hd := UInt8.toNat_lt d
  exact UInt8.toNat_inj.1 (bitsOf_inj (n := 8) hc hd h)
theorem bitsL_length (l : List UInt8) : (bitsL l).length = 8 * l.length := by
  induction l with
  | nil => rfl
  | cons c r ih =>
    have : bitsL (c :: r) = bb c ++ bitsL r := rfl
    rw [this, List.length_append, bb_length, ih, List.length_cons]
    omega
theorem bitsL_cons (c : UInt8) (r : List UInt8) : bitsL (c :: r) = bb c ++ bitsL r := rfl
theorem bitsL_append (a b : List UInt8) : bitsL (a ++ b) = bitsL a ++ bitsL b := by simp [bitsL]
theorem bitsL_inj : ∀ {a b : List UInt8}, bitsL a = bitsL b → a = b
  | [], [], _ => rfl
  | [], d :: b, h => by
    have := congrArg List.length h
    simp [bitsL_length] at this
  | c :: a, [], h => by
    have := congrArg List.length h
    simp [bitsL_length] at this
  | c :: a, d :: b, h => by
    rw [bitsL_cons, bitsL_cons] at h
    obtain ⟨h1, h2⟩ := List.append_inj h (by rw [bb_length, bb_length])
    rw [bb_inj h1, bitsL_inj h2]
def codeB (s : Nat) : List Bool := bitsOf (numF s) (ln s)
theorem codeB_length (s : Nat) : (codeB s).length = ln s := bitsOf_length _ _
def encB (l : List UInt8) : List Bool := l.flatMap fun c => codeB c.toNat
theorem encB_cons (c : UInt8) (r : List UInt8) : encB (c :: r) = codeB c.toNat ++ encB r := rfl
theorem encB_append (a b : List UInt8) : encB (a ++ b) = encB a ++ encB b := by simp [encB]
/-- How many bits a text has. -/
def hszB (l : List UInt8) : Nat := (encB l).length
theorem szB_snoc (l : List UInt8) (c : UInt8) : hszB (l ++ [c]) = hszB l + ln c.toNat := by
  unfold hszB
  rw [encB_append, List.length_append]
  simp [encB, codeB_length]
theorem szB_append (a b : List UInt8) : hszB (a ++ b) = hszB a + hszB b := by simp [hszB, encB_append]
theorem szB_le (l : List UInt8) : hszB l ≤ l.length * 30 := by
  induction l with
  | nil => simp [hszB, encB]
  | cons c r ih =>
    have hc := UInt8.toNat_lt c
    have := (ln_ok (s := c.toNat) (by omega)).2.1
    unfold hszB at ih ⊢
    rw [encB_cons, List.length_append, codeB_length, List.length_cons]
    omega
/-! The code's texts. -/
theorem code_pre {s t : Nat} (hs : s < 257) (ht : t < 257) {D : List Bool} (h1 : codeB s <+: D) (h2 : codeB t <+: D) : s = t := by
  have key : ∀ {s t : Nat}, s < 257 → t < 257 → ln s ≤ ln t → codeB s <+: D → codeB t <+: D → s = t := by
    intro s t hs ht hl h1 h2
    have hp : codeB s <+: codeB t := List.prefix_of_prefix_length_le h1 h2 (by rw [codeB_length, codeB_length]; exact hl)
    have he : codeB s = (codeB t).take (ln s) := by
      have := List.prefix_iff_eq_take.1 hp
      rwa [codeB_length] at this
    have hb : codeB t = bitsOf (numF t / 2 ^ (ln t - ln s)) (ln s) ++ bitsOf (numF t) (ln t - ln s) := by
      unfold codeB
      rw [← bitsOf_append, show ln s + (ln t - ln s) = ln t by omega]
    rw [hb, List.take_left' (bitsOf_length _ _)] at he
    refine free hs ht hl (bitsOf_inj ?_ (sym hs).2.2.2.2.1 he.symm)
    rw [Nat.div_lt_iff_lt_mul (Nat.pow_pos (by omega)), ← Nat.pow_add, show ln s + (ln t - ln s) = ln t by omega]
    exact (sym ht).2.2.2.2.1
  rcases Nat.le_total (ln s) (ln t) with h | h
  · exact key hs ht h h1 h2
  · exact (key ht hs h h2 h1).symm
/-- The symbol with whose code bits begin. -/
def nextS (D : List Bool) : Option Nat := (List.range 257).find? fun s => (codeB s).isPrefixOf D
theorem nextS_some {D : List Bool} {s : Nat} : nextS D = some s ↔ s < 257 ∧ codeB s <+: D := by
  constructor
  · intro h
    have h1 := List.find?_some h
    have h2 := List.mem_of_find?_eq_some h
    exact ⟨List.mem_range.1 h2, List.isPrefixOf_iff_prefix.1 h1⟩
  · rintro ⟨hs, hp⟩
    cases h : nextS D with
    | none =>
      have := List.find?_eq_none.1 h s (List.mem_range.2 hs)
      exact absurd (List.isPrefixOf_iff_prefix.2 hp) this
    | some t =>
      have h1 := List.find?_some h
      have h2 := List.mem_of_find?_eq_some h
      rw [code_pre hs (List.mem_range.1 h2) hp (List.isPrefixOf_iff_prefix.1 h1)]
theorem nextS_none {D : List Bool} : nextS D = none ↔ ∀ s, s < 257 → ¬ codeB s <+: D := by
  constructor
  · intro h s hs hp
    have := List.find?_eq_none.1 h s (List.mem_range.2 hs)
    exact this (List.isPrefixOf_iff_prefix.2 hp)
  · intro h
    cases hn : nextS D with
    | none => rfl
    | some t => exact absurd (nextS_some.1 hn).2 (h t (nextS_some.1 hn).1)
theorem nextS_code {s : Nat} (hs : s < 257) (D : List Bool) : nextS (codeB s ++ D) = some s := nextS_some.2 ⟨hs, List.prefix_append _ _⟩
theorem ones_ok : (List.range 257).all (fun s => Nat.blt 7 (ln s) || !Nat.beq (numF s) (2 ^ ln s - 1)) = true := by kernel_rfl
theorem nextS_ones {p : Nat} (hp : p ≤ 7) : nextS (ones p) = none := by
  rw [nextS_none]
  intro s hs h
  have hl := h.length_le
  rw [codeB_length] at hl
  simp only [ones, List.length_replicate] at hl
  have h1 := List.all_eq_true.1 ones_ok s (List.mem_range.2 hs)
  simp only [Bool.or_eq_true, Nat.blt_eq, Bool.not_eq_true', Bool.eq_false_iff, ne_eq, Nat.beq_eq] at h1
  have he : codeB s = ones (ln s) := by
    have := List.prefix_iff_eq_take.1 h
    rw [this, codeB_length]
    simp [ones]
    omega
  rw [← ones_bits] at he
  have := bitsOf_inj (sym hs).2.2.2.2.1 (by have : 0 < 2 ^ ln s := Nat.pow_pos (by omega); omega) he
  rcases h1 with h1 | h1
  · omega
  · exact h1 this
/-! What is decoded: the bytes, and what is left; none: an end stands there. -/
def decS : Nat → List Bool → Option (List UInt8 × List Bool)
  | 0, D => some ([], D)
  | f + 1, D => match nextS D with
    | none => some ([], D)
    | some s => if s = 256 then none else (decS f (D.drop (ln s))).map fun x => (UInt8.ofNat s :: x.1, x.2)
def padOk (r : List Bool) : Bool := decide (r.length ≤ 7) && r.all id
/-- Decoding: an error's number, and the bytes. -/
def decE (D : List Bool) : Nat × List UInt8 := match decS D.length D with
  | none => (21, [])
  | some (l, r) => if padOk r then (0, l) else (20, [])
theorem padOk_ones {r : List Bool} (h : padOk r = true) : r = ones r.length ∧ r.length ≤ 7 := by
  unfold padOk at h
  simp only [Bool.and_eq_true, decide_eq_true_eq] at h
  refine ⟨?_, h.1⟩
  unfold ones
  rw [List.eq_replicate_iff]
  refine ⟨rfl, fun b hb => ?_⟩
  exact List.all_eq_true.1 h.2 b hb
theorem ones_pad {p : Nat} (h : p ≤ 7) : padOk (ones p) = true := by
  unfold padOk ones
  simp [h]
/-- Fuel more than there are bits changes nothing. -/
theorem decS_fuel : ∀ (f g : Nat) (D : List Bool), D.length ≤ f → D.length ≤ g → decS f D = decS g D
  | 0, 0, D, _, _ => rfl
  | 0, g + 1, D, hf, hg => by
    have hD : D = [] := List.length_eq_zero_iff.1 (by omega)
    subst hD
    have : nextS [] = none := nextS_ones (p := 0) (by omega)
    simp [decS, this]
  | f + 1, 0, D, hf, hg => by
    have hD : D = [] := List.length_eq_zero_iff.1 (by omega)
    subst hD
    have : nextS [] = none := nextS_ones (p := 0) (by omega)
    simp [decS, this]
  | f + 1, g + 1, D, hf, hg => by
    simp only [decS]
    cases h : nextS D with
    | none => rfl
    | some s =>
      have h1 := (nextS_some.1 h)
      have h2 := (ln_ok h1.1).1
      have h3 := h1.2.length_le
      rw [codeB_length] at h3
      simp only
      rw [decS_fuel f g (D.drop (ln s)) (by simp; omega) (by simp; omega)]
theorem decS_enc (l : List UInt8) (p : Nat) (hp : p ≤ 7) : ∀ f, (encB l ++ ones p).length ≤ f → decS f (encB l ++ ones p) = some (l, ones p) := by
  induction l with
  | nil =>
    intro f hf
    have : encB [] ++ ones p = ones p := rfl
    rw [this]
    cases f with
    | zero => rfl
    | succ f => simp [decS, nextS_ones hp]
  | cons c r ih =>
    intro f hf
    have hc := UInt8.toNat_lt c
    rw [encB_cons, List.append_assoc] at hf ⊢
    have h2 := (ln_ok (s := c.toNat) (by omega)).1
    rw [List.length_append, codeB_length] at hf
    cases f with
    | zero => omega
    | succ f =>
      simp only [decS]
      rw [nextS_code (by omega)]
      simp only
      rw [if_neg (by omega), List.drop_left' (codeB_length _), ih f (by omega)]
      simp
theorem decE_enc (l : List UInt8) (p : Nat) (hp : p ≤ 7) : decE (encB l ++ ones p) = (0, l) := by
  unfold decE
  rw [decS_enc l p hp _ (Nat.le_refl _)]
  simp [ones_pad hp]
theorem decS_back : ∀ (f : Nat) (D : List Bool) (l : List UInt8) (r : List Bool), decS f D = some (l, r) → D = encB l ++ r
  | 0, D, l, r, h => by
    simp [decS] at h
    obtain ⟨rfl, rfl⟩ := h
    rfl
  | f + 1, D, l, r, h => by
    simp only [decS] at h
    cases hn : nextS D with
    | none =>
      rw [hn] at h
      simp at h
      obtain ⟨rfl, rfl⟩ := h
      rfl
    | some s =>
      rw [hn] at h
      simp only at h
      obtain ⟨hs, hp⟩ := nextS_some.1 hn
      by_cases h6 : s = 256
      · rw [if_pos h6] at h; cases h
      · rw [if_neg h6] at h
        cases hd : decS f (D.drop (ln s)) with
        | none => rw [hd] at h; cases h
        | some x =>
          obtain ⟨l', r'⟩ := x
          rw [hd] at h
          simp at h
          obtain ⟨rfl, rfl⟩ := h
          have := decS_back f _ _ _ hd
          rw [encB_cons, List.append_assoc, ← this]
          have he : (UInt8.ofNat s).toNat = s := by simp; omega
          rw [he]
          have h2 := List.prefix_iff_eq_append.1 hp
          rw [codeB_length] at h2
          exact h2.symm
theorem decE_back {D : List Bool} {l : List UInt8} (h : decE D = (0, l)) : ∃ p, p ≤ 7 ∧ D = encB l ++ ones p := by
  unfold decE at h
  cases hd : decS D.length D with
  | none => rw [hd] at h; simp at h
  | some x =>
    obtain ⟨l', r⟩ := x
    rw [hd] at h
    simp only at h
    by_cases hp : padOk r = true
    · rw [if_pos hp] at h
      simp at h
      subst h
      obtain ⟨h1, h2⟩ := padOk_ones hp
      exact ⟨r.length, h2, by rw [decS_back _ _ _ _ hd]; rw [← h1]⟩
    · rw [if_neg hp] at h
      simp at h
theorem decE_err {D : List Bool} (h : (decE D).1 ≠ 0) : (decE D).2 = [] := by
  unfold decE at h ⊢
  cases hd : decS D.length D with
  | none => rfl
  | some x =>
    rw [hd] at h
    simp only at h ⊢
    by_cases hp : padOk x.2 = true
    · rw [if_pos hp] at h; simp at h
    · rw [if_neg hp]
theorem decE_cases (D : List Bool) : (decE D).1 = 0 ∨ (decE D).1 = 20 ∨ (decE D).1 = 21 := by
  unfold decE
  cases decS D.length D with
  | none => simp
  | some x =>
    simp only
    by_cases hp : padOk x.2 = true
    · simp [hp]
    · simp [hp]
/-! A text of bytes. -/
def IsEnc (l O : List UInt8) : Prop := ∃ p, p ≤ 7 ∧ bitsL O = encB l ++ ones p
theorem IsEnc.uniq {l O1 O2 : List UInt8} (h1 : IsEnc l O1) (h2 : IsEnc l O2) : O1 = O2 := by
  obtain ⟨p, hp, e1⟩ := h1
  obtain ⟨q, hq, e2⟩ := h2
  have k1 := congrArg List.length e1
  have k2 := congrArg List.length e2
  rw [bitsL_length, List.length_append] at k1 k2
  simp only [ones, List.length_replicate] at k1 k2
  have : p = q := by omega
  subst this
  exact bitsL_inj (e1.trans e2.symm)
theorem IsEnc.len {l O : List UInt8} (h : IsEnc l O) : O.length = (hszB l + 7) / 8 := by
  obtain ⟨p, hp, e1⟩ := h
  have k1 := congrArg List.length e1
  rw [bitsL_length, List.length_append] at k1
  simp only [ones, List.length_replicate] at k1
  unfold hszB
  omega
theorem IsEnc.dec {l O : List UInt8} (h : IsEnc l O) : decE (bitsL O) = (0, l) := by
  obtain ⟨p, hp, e1⟩ := h
  rw [e1, decE_enc l p hp]
theorem IsEnc.back {l O : List UInt8} (h : decE (bitsL O) = (0, l)) : IsEnc l O := by
  obtain ⟨p, hp, e1⟩ := decE_back h
  exact ⟨p, hp, e1⟩
end Go.Proofs.YtginhebfjbhmnaaGreat

