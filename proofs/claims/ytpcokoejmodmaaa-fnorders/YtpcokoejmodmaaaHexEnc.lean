/- What is proved here: plain facts on writing bytes as hexadecimal texts; no program is named. -/
import Derived.Test.YtpcokoejmodmaaaBase
namespace Go.Proofs.Ytpcokoejmodmaaa
set_option linter.unusedVariables false

/-- The sign of a digit. -/
def hd (v : Int) : Int := if v < 10 then 48 + v else 87 + v

/-- The signs of bytes. -/
def hexEnc : List Int → List Int
  | [] => []
  | x :: r => hd (x / 16) :: hd (x % 16) :: hexEnc r

theorem hexEnc_append : ∀ (a b : List Int), hexEnc (a ++ b) = hexEnc a ++ hexEnc b
  | [], b => rfl
  | x :: a, b => by simp [hexEnc, hexEnc_append a b]

theorem hexEnc_length : ∀ (a : List Int), (hexEnc a).length = 2 * a.length
  | [] => rfl
  | x :: a => by simp [hexEnc, hexEnc_length a]; omega

theorem hexEnc_snoc (xs : List Int) (k : Nat) (h : k < xs.length) : hexEnc (xs.take (k + 1)) = hexEnc (xs.take k) ++ [hd (xs.getD k 0 / 16), hd (xs.getD k 0 % 16)] := by
  rw [List.take_succ_eq_append_getElem h, hexEnc_append, getD_at xs k h]
  rfl

theorem hd_range (v : Int) (h0 : 0 ≤ v) (h1 : v < 16) : 0 ≤ hd v ∧ hd v ≤ 255 := by unfold hd; split <;> omega

theorem hexEnc_range : ∀ (a : List Int), (∀ x ∈ a, 0 ≤ x ∧ x ≤ 255) → ∀ y ∈ hexEnc a, 0 ≤ y ∧ y ≤ 255
  | [], _, y, hy => by simp [hexEnc] at hy
  | x :: a, h, y, hy => by
    have hx := h x (List.mem_cons_self ..)
    rcases List.mem_cons.1 hy with rfl | hy
    · exact hd_range _ (by omega) (by omega)
    · rcases List.mem_cons.1 hy with rfl | hy
      · exact hd_range _ (by omega) (by omega)
      · exact hexEnc_range a (fun z hz => h z (List.mem_cons_of_mem _ hz)) y hy

/-- The sixteen digits. -/
def digs : ByteArray := ⟨#[48, 49, 50, 51, 52, 53, 54, 55, 56, 57, 97, 98, 99, 100, 101, 102]⟩

theorem digs_at : ∀ v : Fin 16, (digs[v.val]'(by have := v.isLt; exact this)).toNat = (hd (v.val : Int)).toNat := by decide

theorem digs_slice : ∀ v : Fin 16, (digs.extract v.val (v.val + 1)).data.toList = [UInt8.ofNat (hd (v.val : Int)).toNat] := by decide

theorem str_snoc (L : List Int) (v : Int) (h0 : 0 ≤ v) (h1 : v < 16) : strOfNums L ++ digs.extract v.toNat (v.toNat + 1) = strOfNums (L ++ [hd v]) := by
  obtain ⟨n, rfl⟩ := Int.eq_ofNat_of_zero_le h0
  have h := digs_slice ⟨n, by omega⟩
  simp only at h
  apply ByteArray.ext
  rw [ByteArray.data_append, Int.toNat_natCast]
  apply Array.ext'
  rw [Array.toList_append, h]
  simp [strOfNums]

end Go.Proofs.Ytpcokoejmodmaaa
