/- What is proved here: plain facts on items without a fault that are written as bytes: the program's heads and the model's give the same bytes, or both give more than 1200; no program is named. -/
import Derived.Test.YtndkdngojjhinaaEncF
namespace Go.Proofs.Ytndkdngojjhinaa
open Go.RowKit
set_option linter.unusedVariables false
set_option maxRecDepth 100000

theorem fltFrom_zero (its : List It) : ∀ (r : List It) (k : Nat), fltFrom its k r = 0 → ∀ i it, r[i]? = some it → fltAt its (k + i) it = 0
  | [], _, _, i, it, h => by simp at h
  | a :: r, k, hz, i, it, h => by
    unfold fltFrom at hz
    split at hz
    · cases i with
      | zero => simp at h; subst h; assumption
      | succ i =>
        have := fltFrom_zero its r (k + 1) hz i it (by simpa using h)
        rwa [show k + 1 + i = k + (i + 1) by omega] at this
    · exact absurd hz (by assumption)

/-- Items without a fault. -/
structure NoFault (its : List It) : Prop where
  some : 0 < its.length
  few : its.length ≤ 200
  up : UpOk its its.length
  line : LineOk its
  small : ∀ it ∈ its, it.z.length ≤ 300
  empty : ∀ it ∈ its, it.l = true → it.z = []
  leaf : ∀ (k : Nat) (it : It), its[k]? = Option.some it → it.l = false → ∀ m, kidsFrom its (k : Int) m = []

theorem noFault_of {its : List It} (h : itemsFlt its = 0) : NoFault its := by
  unfold itemsFlt at h
  split at h
  · omega
  · rename_i hlen
    have all : ∀ (i : Nat) (it : It), its[i]? = some it → fltAt its i it = 0 := fun i it hi => by
      have := fltFrom_zero its its 0 h i it hi
      rwa [Nat.zero_add] at this
    have hU : UpOk its its.length := fun j it _ hit => fltAt_up (all j it hit)
    have each : ∀ (k : Nat) (it : It), its[k]? = some it → (it.l = true → it.z = []) ∧ it.z.length ≤ 300 ∧ (0 < k → lAt its it.p.toNat = true ∧ it.p.toNat ∈ upL its ((k : Int) - 1)) := by
      intro k it hit
      have hz := all k it hit
      unfold fltAt at hz
      split at hz
      · omega
      · rename_i n1
        split at hz
        · omega
        · rename_i n2
          refine ⟨fun hl => ?_, by omega, fun hk => ?_⟩
          · have : ¬ 0 < it.z.length := fun hh => n1 ⟨hl, hh⟩
            exact List.length_eq_zero_iff.1 (by omega)
          · rw [if_neg (by omega)] at hz
            split at hz
            · omega
            · split at hz
              · assumption
              · omega
    refine ⟨by omega, by omega, hU, fun k it hk hit => ((each k it hit).2.2 hk).2, fun it hi => ?_, fun it hi => ?_, fun k it hit hl m => ?_⟩
    · obtain ⟨k, hk⟩ := List.getElem?_of_mem hi
      exact (each k it hk).2.1
    · obtain ⟨k, hk⟩ := List.getElem?_of_mem hi
      exact (each k it hk).1
    · apply kidsFrom_nil
      intro j _ hj hp
      obtain ⟨jt, hjt⟩ : ∃ jt, its[j]? = some jt := ⟨_, List.getElem?_eq_getElem hj⟩
      rw [pOf_some hjt] at hp
      obtain ⟨u0, u1⟩ := hU j jt hj hjt
      have hj0 : 0 < j := by rcases Nat.eq_zero_or_pos j with e | e; have := u0 e; omega; exact e
      have := ((each j jt hjt).2.2 hj0).1
      rw [hp, Int.toNat_natCast] at this
      unfold lAt at this
      rw [hit] at this
      simp only at this
      rw [hl] at this
      cases this

theorem le_flatMap {α : Type} {l : List α} {f : α → List Int} {x : α} (h : x ∈ l) : (f x).length ≤ (l.flatMap f).length := by
  induction l with
  | nil => simp at h
  | cons a r ih =>
    rw [List.flatMap_cons, List.length_append]
    rcases List.mem_cons.1 h with e | e
    · subst e; omega
    · have := ih e; omega

theorem enc_ge_cont (H : It → Nat → List Int) {its : List It} (hU : UpOk its its.length) {i : Nat} {it : It} (hit : its[i]? = some it) : (cont H its i it).length ≤ (enc H its i).length := by
  rw [enc_eq H hU hit, List.length_append]; omega

theorem kid_le (H : It → Nat → List Int) {its : List It} {i j : Nat} {it : It} (h : j ∈ kidsFrom its (i : Int) 0) : (enc H its j).length ≤ (cont H its i it).length := by
  unfold cont
  rw [List.length_append]
  have := le_flatMap (f := enc H its) h
  omega

theorem enc_same {its : List It} (hU : UpOk its its.length) : ∀ (n i : Nat) (it : It), its.length ≤ i + n → its[i]? = some it → (cont hdS its i it).length ≤ 1200 → enc hdI its i = enc hdS its i ∧ cont hdI its i it = cont hdS its i it
  | 0, i, it, hn, hit, _ => by have := (List.getElem?_eq_some_iff.1 hit).1; omega
  | n + 1, i, it, hn, hit, hc => by
    have e : (kidsFrom its i 0).flatMap (enc hdI its) = (kidsFrom its i 0).flatMap (enc hdS its) := flatMap_eq (fun j hj => by
      obtain ⟨h1, h2⟩ := kid_later hU hj
      obtain ⟨jt, hjt⟩ : ∃ jt, its[j]? = some jt := ⟨_, List.getElem?_eq_getElem h2⟩
      have hl := kid_le hdS (it := it) hj
      have hg := enc_ge_cont hdS hU hjt
      exact (enc_same hU n j jt (by omega) hjt (by omega)).1)
    have ec : cont hdI its i it = cont hdS its i it := by unfold cont; rw [e]
    exact ⟨by rw [enc_eq hdI hU hit, enc_eq hdS hU hit, ec, hd_same it _ hc], ec⟩

theorem enc_great {its : List It} (hU : UpOk its its.length) : ∀ (n i : Nat) (it : It), its.length ≤ i + n → its[i]? = some it → 1200 < (cont hdS its i it).length → 1200 < (enc hdI its i).length
  | 0, i, it, hn, hit, _ => by have := (List.getElem?_eq_some_iff.1 hit).1; omega
  | n + 1, i, it, hn, hit, hc => by
    by_cases hall : ∀ j ∈ kidsFrom its (i : Int) 0, ∀ jt, its[j]? = some jt → (cont hdS its j jt).length ≤ 1200
    · have e : (kidsFrom its i 0).flatMap (enc hdI its) = (kidsFrom its i 0).flatMap (enc hdS its) := flatMap_eq (fun j hj => by
        obtain ⟨h1, h2⟩ := kid_later hU hj
        obtain ⟨jt, hjt⟩ : ∃ jt, its[j]? = some jt := ⟨_, List.getElem?_eq_getElem h2⟩
        exact (enc_same hU its.length j jt (by omega) hjt (hall j hj jt hjt)).1)
      have ec : cont hdI its i it = cont hdS its i it := by unfold cont; rw [e]
      have := enc_ge_cont hdI hU hit
      rw [ec] at this
      omega
    · have : ∃ j, j ∈ kidsFrom its (i : Int) 0 ∧ ∃ jt, its[j]? = some jt ∧ 1200 < (cont hdS its j jt).length := by
        refine Classical.byContradiction fun hno => hall fun j hj jt hjt => ?_
        refine Nat.le_of_not_lt fun hlt => hno ⟨j, hj, jt, hjt, hlt⟩
      obtain ⟨j, hj, jt, hjt, hlt⟩ := this
      have h1 := (kid_later hU hj).1
      have h2 := enc_great hU n j jt (by omega) hjt hlt
      have h3 := kid_le hdI (it := it) hj
      have h4 := enc_ge_cont hdI hU hit
      omega

theorem dN_le (H : It → Nat → List Int) (hH : ∀ it n, (H it n).length ≤ 8) {its : List It} (hs : ∀ it ∈ its, it.z.length ≤ 300) : ∀ n k, (dN H its n k).length ≤ 308 * n
  | 0, _ => by simp [dN]
  | n + 1, k => by
    unfold dN
    rw [List.length_append]
    have ih := dN_le H hH hs n (k + 1)
    cases hit : its[k]? with
    | none => simp; omega
    | some it =>
      simp only [List.length_append]
      have h1 := hH it (cont H its k it).length
      have h2 := hs it (List.mem_of_getElem? hit)
      omega

theorem kids_later_le (H : It → Nat → List Int) {its : List It} (x : Nat) : ∀ (m k : Nat), k ≤ m → m ≤ its.length → (eFrom H its x m).length ≤ (eFrom H its x k).length
  | 0, k, h, _ => by
    obtain rfl : k = 0 := by omega
    exact Nat.le_refl _
  | m + 1, k, h, hm => by
    by_cases e : k = m + 1
    · subst e; exact Nat.le_refl _
    · refine Nat.le_trans ?_ (kids_later_le H x m k (by omega) (by omega))
      unfold eFrom
      by_cases hp : pOf its m = (x : Int)
      · rw [kidsFrom_yes (by omega) hp, List.flatMap_cons, List.length_append]; omega
      · rw [kidsFrom_no (by omega) hp]; exact Nat.le_refl _

theorem eFrom_le (H : It → Nat → List Int) (hH : ∀ it n, (H it n).length ≤ 8) {its : List It} (N : NoFault its) (i k : Nat) (hi : i < its.length) (hk : i < k) (hkl : k ≤ its.length) : (eFrom H its i k).length ≤ 61600 := by
  have h1 := kids_later_le H (its := its) i k (i + 1) (by omega) hkl
  have h2 := suffix_eq H N.up N.line (its.length - (i + 1)) (i + 1) (by omega) (by omega)
  have hm : i ∈ upL its (((i + 1 : Nat) : Int) - 1) := by
    rw [show ((i + 1 : Nat) : Int) - 1 = (i : Int) by omega]
    have hw := way_at N.up hi
    generalize upL its (i : Int) = ws at hw
    cases ws with
    | nil => have : (i : Int) = -1 := hw; omega
    | cons a r => obtain ⟨e, _⟩ := hw; simp; omega
  have h3 := le_flatMap (f := fun x => eFrom H its x (i + 1)) hm
  rw [← h2] at h3
  have h4 := dN_le H hH N.small (its.length - (i + 1)) (i + 1)
  have h5 := N.few
  have : (dFrom H its (i + 1)).length ≤ 308 * (its.length - (i + 1)) := h4
  omega

theorem cont_le (H : It → Nat → List Int) (hH : ∀ it n, (H it n).length ≤ 8) {its : List It} (N : NoFault its) {i : Nat} {it : It} (hit : its[i]? = some it) : (cont H its i it).length ≤ 61900 := by
  have hl := (List.getElem?_eq_some_iff.1 hit).1
  rw [cont_eq H N.up hit, List.length_append]
  have := eFrom_le H hH N i (i + 1) hl (by omega) (by omega)
  have := N.small it (List.mem_of_getElem? hit)
  omega

theorem enc_le (H : It → Nat → List Int) (hH : ∀ it n, (H it n).length ≤ 8) {its : List It} (N : NoFault its) {i : Nat} {it : It} (hit : its[i]? = some it) : (enc H its i).length ≤ 61908 := by
  rw [enc_eq H N.up hit, List.length_append]
  have := cont_le H hH N hit
  have := hH it (cont H its i it).length
  omega

/-- What EncodeItems answers: its code and its bytes. -/
def enCode (its : List It) : Int := if itemsFlt its = 0 then (if 1200 < (enc hdS its 0).length then 2 else 0) else itemsFlt its
def enBytes (its : List It) : List Int := if itemsFlt its = 0 ∧ (enc hdS its 0).length ≤ 1200 then enc hdS its 0 else []

/-- The program's bytes: the same, or both too many. -/
theorem enc_tie {its : List It} (N : NoFault its) : (1200 < (enc hdS its 0).length → 1200 < (dFrom hdI its 0).length) ∧ ((enc hdS its 0).length ≤ 1200 → dFrom hdI its 0 = enc hdS its 0) := by
  have h0 := N.some
  obtain ⟨it, hit⟩ : ∃ it, its[0]? = some it := ⟨_, List.getElem?_eq_getElem h0⟩
  rw [all_eq hdI N.up N.line h0]
  by_cases hc : (cont hdS its 0 it).length ≤ 1200
  · have := (enc_same N.up its.length 0 it (by omega) hit hc).1
    rw [this]
    exact ⟨fun h => h, fun _ => rfl⟩
  · have h1 := enc_great N.up its.length 0 it (by omega) hit (by omega)
    have h2 := enc_ge_cont hdS N.up hit
    exact ⟨fun _ => h1, fun h => by omega⟩

theorem hdS_range (it : It) (n : Nat) (h : n < 16777216) : ∀ x ∈ hdS it n, 0 ≤ x ∧ x ≤ 255 := by
  unfold hdS; split
  · intro x hx; simp at hx
  · exact headL_range _ _ (by omega) (by omega)

theorem enc_range {its : List It} (N : NoFault its) (hz : ∀ it ∈ its, ∀ x ∈ it.z, 0 ≤ x ∧ x ≤ 255) : ∀ (n i : Nat), its.length ≤ i + n → ∀ x ∈ enc hdS its i, 0 ≤ x ∧ x ≤ 255
  | n, i, hn, x, hx => by
    cases hit : its[i]? with
    | none =>
      unfold enc at hx
      have hl : its.length ≤ i := List.getElem?_eq_none_iff.1 hit
      rw [encH_fuel hdS N.up its.length 0 i (by omega) (by omega)] at hx
      simp [encH] at hx
    | some it =>
      have hl := (List.getElem?_eq_some_iff.1 hit).1
      rw [enc_eq hdS N.up hit] at hx
      rcases List.mem_append.1 hx with e | e
      · exact hdS_range it _ (by have := cont_le hdS hdS_length N hit; omega) x e
      · unfold cont at e
        rcases List.mem_append.1 e with e' | e'
        · exact hz it (List.mem_of_getElem? hit) x e'
        · obtain ⟨j, hj, hxj⟩ := List.mem_flatMap.1 e'
          have h1 := kid_later N.up hj
          cases n with
          | zero => omega
          | succ n => exact enc_range N hz n j (by omega) x hxj

theorem enBytes_range (its : List It) (hz : ∀ it ∈ its, ∀ x ∈ it.z, 0 ≤ x ∧ x ≤ 255) : ∀ x ∈ enBytes its, 0 ≤ x ∧ x ≤ 255 := by
  unfold enBytes
  split
  · exact enc_range (noFault_of (by omega)) hz its.length 0 (by omega)
  · intro x hx; simp at hx

theorem enBytes_length (its : List It) : (enBytes its).length ≤ 1200 := by
  unfold enBytes
  split
  · omega
  · simp

end Go.Proofs.Ytndkdngojjhinaa
