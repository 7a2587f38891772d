/- What is proved here: plain facts on items written as bytes: told from the first one down, each with all in it, or in their order, each with its head; no program is named. -/
import Derived.Test.YtndkdngojjhinaaPartF
import Derived.Test.YtndkdngojjhinaaHeadF
namespace Go.Proofs.Ytndkdngojjhinaa
open Go.RowKit
set_option linter.unusedVariables false
set_option maxRecDepth 100000

/-- The head of an item that has n bytes in it: in the model, and in the program, which has none for more than 1200. -/
def hdS (it : It) (n : Nat) : List Int := if it.l = false ∧ n = 1 ∧ it.z.getD 0 0 < 128 then [] else headL it.l n
def hdI (it : It) (n : Nat) : List Int := if it.l = false ∧ n = 1 ∧ it.z.getD 0 0 < 128 then [] else hdBytes it.l n

theorem hdS_length (it : It) (n : Nat) : (hdS it n).length ≤ 8 := by
  unfold hdS; split
  · simp
  · exact headL_length _ _

theorem hdI_length (it : It) (n : Nat) : (hdI it n).length ≤ 8 := by
  unfold hdI; split
  · simp
  · exact hdBytes_length _ _

theorem hd_same (it : It) (n : Nat) (h : n ≤ 1200) : hdI it n = hdS it n := by
  unfold hdI hdS
  split
  · rfl
  · unfold hdBytes; rw [if_pos (by omega)]

/-- The parent of a place; that of none is -2. -/
def pOf (its : List It) (j : Nat) : Int := match its[j]? with
  | some it => it.p
  | none => -2

/-- The places from k on, n of them, whose parent is x. -/
def kidsN (its : List It) (x : Int) : Nat → Nat → List Nat
  | 0, _ => []
  | n + 1, k => (if pOf its k = x then [k] else []) ++ kidsN its x n (k + 1)

def kidsFrom (its : List It) (x : Int) (k : Nat) : List Nat := kidsN its x (its.length - k) k

theorem kidsFrom_end (its : List It) (x : Int) (k : Nat) (h : its.length ≤ k) : kidsFrom its x k = [] := by
  unfold kidsFrom
  rw [Nat.sub_eq_zero_of_le h]; rfl

theorem kidsFrom_yes {its : List It} {x : Int} {k : Nat} (hk : k < its.length) (h : pOf its k = x) : kidsFrom its x k = k :: kidsFrom its x (k + 1) := by
  unfold kidsFrom
  rw [show its.length - k = (its.length - (k + 1)) + 1 by omega]
  show (if pOf its k = x then [k] else []) ++ _ = _
  rw [if_pos h]; rfl

theorem kidsFrom_no {its : List It} {x : Int} {k : Nat} (hk : k < its.length) (h : pOf its k ≠ x) : kidsFrom its x k = kidsFrom its x (k + 1) := by
  unfold kidsFrom
  rw [show its.length - k = (its.length - (k + 1)) + 1 by omega]
  show (if pOf its k = x then [k] else []) ++ _ = _
  rw [if_neg h]; rfl

theorem kidsN_mem (its : List It) (x : Int) : ∀ (n k j : Nat), j ∈ kidsN its x n k → k ≤ j ∧ j < k + n ∧ pOf its j = x
  | 0, _, _, h => by simp [kidsN] at h
  | n + 1, k, j, h => by
    rcases List.mem_append.1 h with e | e
    · split at e
      · simp at e; subst e; exact ⟨Nat.le_refl _, by omega, by assumption⟩
      · simp at e
    · obtain ⟨a, b, c⟩ := kidsN_mem its x n (k + 1) j e
      exact ⟨by omega, by omega, c⟩

theorem kidsFrom_mem {its : List It} {x : Int} {k j : Nat} (h : j ∈ kidsFrom its x k) : k ≤ j ∧ j < its.length ∧ pOf its j = x := by
  obtain ⟨a, b, c⟩ := kidsN_mem its x _ _ _ h
  exact ⟨a, by omega, c⟩

theorem kidsN_nil (its : List It) (x : Int) : ∀ (n k : Nat), (∀ j, k ≤ j → j < k + n → pOf its j ≠ x) → kidsN its x n k = []
  | 0, _, _ => rfl
  | n + 1, k, h => by
    show (if pOf its k = x then [k] else []) ++ _ = _
    rw [if_neg (h k (Nat.le_refl _) (by omega)), kidsN_nil its x n (k + 1) (fun j h1 h2 => h j (by omega) (by omega))]
    rfl

theorem kidsFrom_nil {its : List It} {x : Int} {k : Nat} (h : ∀ j, k ≤ j → j < its.length → pOf its j ≠ x) : kidsFrom its x k = [] :=
  kidsN_nil its x _ _ (fun j h1 h2 => h j h1 (by omega))

/-- No place up to k is a part of k or of a later one. -/
theorem kidsFrom_skip {its : List It} {x : Int} : ∀ (m k : Nat), k ≤ m → m ≤ its.length → (∀ j, k ≤ j → j < m → pOf its j ≠ x) → kidsFrom its x k = kidsFrom its x m
  | 0, k, h, _, _ => by
    obtain rfl : k = 0 := by omega
    rfl
  | m + 1, k, h, hm, hh => by
    by_cases e : k = m + 1
    · rw [e]
    · rw [kidsFrom_skip m k (by omega) (by omega) (fun j h1 h2 => hh j h1 (by omega)), kidsFrom_no (by omega) (hh m (by omega) (by omega))]

theorem parts_kids (its : List It) (x : Int) : ∀ (n k : Nat), k + n = its.length → partsUp its x its.length = partsUp its x k ++ (kidsN its x n k).map (fun (j : Nat) => (j : Int))
  | 0, k, h => by
    obtain rfl : k = its.length := by omega
    simp [kidsN]
  | n + 1, k, h => by
    have hk : k < its.length := by omega
    rw [parts_kids its x n (k + 1) (by omega)]
    show partsUp its x (k + 1) ++ _ = partsUp its x k ++ ((if pOf its k = x then [k] else []) ++ kidsN its x n (k + 1)).map _
    have hit := List.getElem?_eq_getElem hk
    have hp : pOf its k = its[k].p := by unfold pOf; rw [hit]
    by_cases e : its[k].p = x
    · rw [partsUp_yes hit e, if_pos (by rw [hp]; exact e)]; simp
    · rw [partsUp_no hit e, if_neg (by rw [hp]; exact e)]; simp

theorem parts_all (its : List It) (x : Int) : partsUp its x its.length = (kidsFrom its x 0).map (fun (j : Nat) => (j : Int)) := by
  have := parts_kids its x its.length 0 (by omega)
  rw [this]
  simp [partsUp, kidsFrom]

/-- An item with all in it, its head told by H. -/
def encH (H : It → Nat → List Int) (its : List It) : Nat → Nat → List Int
  | 0, _ => []
  | n + 1, i => match its[i]? with
    | none => []
    | some it => H it (it.z ++ (kidsFrom its i 0).flatMap (encH H its n)).length ++ (it.z ++ (kidsFrom its i 0).flatMap (encH H its n))

def enc (H : It → Nat → List Int) (its : List It) (i : Nat) : List Int := encH H its its.length i

theorem pOf_some {its : List It} {k : Nat} {it : It} (h : its[k]? = some it) : pOf its k = it.p := by unfold pOf; rw [h]

theorem kid_later {its : List It} (hU : UpOk its its.length) {i k j : Nat} (h : j ∈ kidsFrom its (i : Int) k) : i < j ∧ j < its.length := by
  obtain ⟨_, hl, hp⟩ := kidsFrom_mem h
  obtain ⟨it, hit⟩ : ∃ it, its[j]? = some it := ⟨_, List.getElem?_eq_getElem hl⟩
  rw [pOf_some hit] at hp
  obtain ⟨h0, h1⟩ := hU j it hl hit
  rcases Nat.eq_zero_or_pos j with e | e
  · have := h0 e; omega
  · have := h1 e; omega

theorem flatMap_eq {α β : Type} {l : List α} {f g : α → List β} (h : ∀ x ∈ l, f x = g x) : l.flatMap f = l.flatMap g := by
  induction l with
  | nil => rfl
  | cons a r ih =>
    rw [List.flatMap_cons, List.flatMap_cons, h a (by simp), ih (fun x hx => h x (by simp [hx]))]

theorem encH_fuel (H : It → Nat → List Int) {its : List It} (hU : UpOk its its.length) : ∀ (n m i : Nat), its.length ≤ i + n → its.length ≤ i + m → encH H its n i = encH H its m i
  | 0, 0, _, _, _ => rfl
  | 0, m + 1, i, h, _ => by
    have : its[i]? = none := List.getElem?_eq_none (by omega)
    unfold encH; rw [this]
  | n + 1, 0, i, _, h => by
    have : its[i]? = none := List.getElem?_eq_none (by omega)
    unfold encH; rw [this]
  | n + 1, m + 1, i, hn, hm => by
    unfold encH
    cases hit : its[i]? with
    | none => rfl
    | some it =>
      have e : (kidsFrom its i 0).flatMap (encH H its n) = (kidsFrom its i 0).flatMap (encH H its m) := flatMap_eq (fun j hj => by
        obtain ⟨h1, h2⟩ := kid_later hU hj
        exact encH_fuel H hU n m j (by omega) (by omega))
      simp only [e]

/-- All in an item. -/
def cont (H : It → Nat → List Int) (its : List It) (i : Nat) (it : It) : List Int := it.z ++ (kidsFrom its i 0).flatMap (enc H its)

theorem enc_eq (H : It → Nat → List Int) {its : List It} (hU : UpOk its its.length) {i : Nat} {it : It} (hit : its[i]? = some it) : enc H its i = H it (cont H its i it).length ++ cont H its i it := by
  have hl := (List.getElem?_eq_some_iff.1 hit).1
  obtain ⟨m, hm⟩ : ∃ m, its.length = m + 1 := ⟨its.length - 1, by omega⟩
  have e : (kidsFrom its i 0).flatMap (encH H its m) = (kidsFrom its i 0).flatMap (enc H its) := flatMap_eq (fun j hj => by
    obtain ⟨h1, h2⟩ := kid_later hU hj
    exact encH_fuel H hU m its.length j (by omega) (by omega))
  have : enc H its i = encH H its (m + 1) i := by unfold enc; rw [hm]
  rw [this]
  show (match its[i]? with | none => [] | some it => _) = _
  rw [hit]
  simp only [e]
  rfl

/-- The parts of an item from a place on. -/
def eFrom (H : It → Nat → List Int) (its : List It) (x k : Nat) : List Int := (kidsFrom its x k).flatMap (enc H its)

/-- The items from a place on, each with its head. -/
def dN (H : It → Nat → List Int) (its : List It) : Nat → Nat → List Int
  | 0, _ => []
  | n + 1, k => (match its[k]? with
    | none => []
    | some it => H it (cont H its k it).length ++ it.z) ++ dN H its n (k + 1)

def dFrom (H : It → Nat → List Int) (its : List It) (k : Nat) : List Int := dN H its (its.length - k) k

theorem dFrom_end (H : It → Nat → List Int) (its : List It) (k : Nat) (h : its.length ≤ k) : dFrom H its k = [] := by
  unfold dFrom; rw [Nat.sub_eq_zero_of_le h]; rfl

theorem dFrom_step (H : It → Nat → List Int) {its : List It} {k : Nat} {it : It} (hit : its[k]? = some it) : dFrom H its k = H it (cont H its k it).length ++ it.z ++ dFrom H its (k + 1) := by
  have hl := (List.getElem?_eq_some_iff.1 hit).1
  unfold dFrom
  rw [show its.length - k = (its.length - (k + 1)) + 1 by omega]
  show (match its[k]? with | none => [] | some it => _) ++ _ = _
  rw [hit]

theorem IsWay.suffix {its : List It} {q : Nat} : ∀ {ws : List Nat} {a : Int}, IsWay its a ws → q ∈ ws → ∃ pre post, ws = pre ++ q :: post ∧ IsWay its (q : Int) (q :: post)
  | [], _, _, h => by simp at h
  | k :: r, a, hw, h => by
    obtain ⟨rfl, it, hit, hge, hlt, hr⟩ := hw
    rcases List.mem_cons.1 h with e | e
    · subst e
      exact ⟨[], r, rfl, rfl, it, hit, hge, hlt, hr⟩
    · obtain ⟨pre, post, e1, e2⟩ := hr.suffix e
      exact ⟨k :: pre, post, by rw [e1]; rfl, e2⟩

/-- A way falls. -/
theorem IsWay.falls {its : List It} : ∀ {ws : List Nat} {a : Int}, IsWay its a ws → ∀ x ∈ ws, (x : Int) ≤ a
  | [], _, _, _, h => by simp at h
  | k :: r, a, hw, x, h => by
    obtain ⟨rfl, it, hit, hge, hlt, hr⟩ := hw
    rcases List.mem_cons.1 h with e | e
    · omega
    · have := hr.falls x e; omega

theorem IsWay.apart {its : List It} : ∀ {pre : List Nat} {q : Nat} {post : List Nat} {a : Int}, IsWay its a (pre ++ q :: post) → (∀ x ∈ pre, q < x) ∧ ∀ x ∈ post, x < q
  | [], q, post, a, hw => by
    obtain ⟨rfl, it, hit, hge, hlt, hr⟩ := hw
    exact ⟨fun x h => by simp at h, fun x h => by have := hr.falls x h; omega⟩
  | k :: pre, q, post, a, hw => by
    obtain ⟨rfl, it, hit, hge, hlt, hr⟩ := hw
    obtain ⟨h1, h2⟩ := IsWay.apart hr
    refine ⟨fun x h => ?_, h2⟩
    rcases List.mem_cons.1 h with e | e
    · have := hr.falls q (by simp); omega
    · exact h1 x e

theorem IsWay.unique {its : List It} {a : Int} : ∀ {xs ys : List Nat}, IsWay its a xs → IsWay its a ys → xs = ys := by
  intro xs ys h1 h2
  have ha := h1.ge
  have e1 := h1.fuel (n := (a + 1).toNat) (by omega)
  have e2 := h2.fuel (n := (a + 1).toNat) (by omega)
  rw [← e1, ← e2]

/-- Items in order: each one's parent is on the way up from the one ahead. -/
def LineOk (its : List It) : Prop := ∀ (k : Nat) (it : It), 0 < k → its[k]? = some it → it.p.toNat ∈ upL its ((k : Int) - 1)

theorem way_at {its : List It} (hU : UpOk its its.length) {k : Nat} (hk : k < its.length) : IsWay its (k : Int) (upL its (k : Int)) := by
  obtain ⟨xs, hx⟩ := hU.way (Nat.le_refl _) k hk
  rw [hx.up (by omega)]; exact hx

/-- On ways from later places nothing ahead of k is met but what the way from k's parent has. -/
theorem way_later {its : List It} (hU : UpOk its its.length) (hL : LineOk its) {k q : Nat} {post : List Nat} {it : It} (hit : its[k]? = some it) (hq : it.p = (q : Int)) (hw : IsWay its (q : Int) (q :: post)) :
    ∀ (n : Nat), k + n < its.length → ∀ x ∈ upL its ((k + n : Nat) : Int), x < k → x ∈ q :: post
  | 0, hn, x, hx, hxk => by
    have h1 := way_at hU (k := k) (by omega)
    have h2 : IsWay its (k : Int) (k :: q :: post) := by
      have hkl := (List.getElem?_eq_some_iff.1 hit).1
      obtain ⟨u0, u1⟩ := hU k it hkl hit
      have : it.p < k := by rcases Nat.eq_zero_or_pos k with e | e; have := u0 e; omega; exact (u1 e).2
      exact ⟨rfl, it, hit, by omega, this, by rw [hq]; exact hw⟩
    rw [show ((k + 0 : Nat) : Int) = (k : Int) by simp, h1.unique h2] at hx
    rcases List.mem_cons.1 hx with e | e
    · omega
    · exact e
  | n + 1, hn, x, hx, hxk => by
    have ih := way_later hU hL hit hq hw n (by omega)
    obtain ⟨jt, hjt⟩ : ∃ jt, its[k + (n + 1)]? = some jt := ⟨_, List.getElem?_eq_getElem hn⟩
    have hline := hL (k + (n + 1)) jt (by omega) hjt
    have e1 : ((k + (n + 1) : Nat) : Int) - 1 = ((k + n : Nat) : Int) := by omega
    rw [e1] at hline
    obtain ⟨pre, post', es, hs⟩ := (way_at hU (k := k + n) (by omega)).suffix hline
    obtain ⟨u0, u1⟩ := hU _ jt hn hjt
    have hjp := u1 (by omega)
    have hw2 : IsWay its ((k + (n + 1) : Nat) : Int) ((k + (n + 1)) :: jt.p.toNat :: post') := ⟨rfl, jt, hjt, by omega, hjp.2, by
      rw [show ((jt.p.toNat : Nat) : Int) = jt.p by omega] at hs; exact hs⟩
    rw [(way_at hU hn).unique hw2] at hx
    rcases List.mem_cons.1 hx with e | e
    · omega
    · exact ih x (by rw [es]; exact List.mem_append.2 (.inr e)) hxk

set_option maxHeartbeats 400000 in
/-- The items from a place on are the parts, from it on, of all on the way up from the place ahead. -/
theorem suffix_eq (H : It → Nat → List Int) {its : List It} (hU : UpOk its its.length) (hL : LineOk its) : ∀ (n k : Nat), k + n = its.length → 0 < k → dFrom H its k = (upL its ((k : Int) - 1)).flatMap (fun x => eFrom H its x k)
  | 0, k, h, h0 => by
    rw [dFrom_end H its k (by omega)]
    symm
    rw [List.flatMap_eq_nil_iff]
    intro x _
    unfold eFrom
    rw [kidsFrom_end its _ k (by omega)]; rfl
  | n + 1, k, h, h0 => by
    have hk : k < its.length := by omega
    have ih := suffix_eq H hU hL n (k + 1) (by omega) (by omega)
    obtain ⟨it, hit⟩ : ∃ it, its[k]? = some it := ⟨_, List.getElem?_eq_getElem hk⟩
    obtain ⟨_, u1⟩ := hU k it hk hit
    obtain ⟨p0, p1⟩ := u1 h0
    obtain ⟨q, hq⟩ : ∃ q : Nat, it.p = (q : Int) := ⟨it.p.toNat, by omega⟩
    have hqk : q < k := by omega
    have hline := hL k it h0 hit
    rw [hq, Int.toNat_natCast] at hline
    have hwk : IsWay its ((k : Int) - 1) (upL its ((k : Int) - 1)) := by
      have := way_at hU (k := k - 1) (by omega)
      rwa [show ((k - 1 : Nat) : Int) = (k : Int) - 1 by omega] at this
    obtain ⟨pre, post, es, hs⟩ := hwk.suffix hline
    have hap : (∀ x ∈ pre, q < x) ∧ ∀ x ∈ post, x < q := IsWay.apart (by rw [← es]; exact hwk)
    have hw2 : IsWay its (k : Int) (k :: q :: post) := ⟨rfl, it, hit, by omega, p1, by rw [hq]; exact hs⟩
    have hpk : pOf its k = (q : Int) := by rw [pOf_some hit, hq]
    have e1 : upL its (((k + 1 : Nat) : Int) - 1) = k :: q :: post := by
      rw [show ((k + 1 : Nat) : Int) - 1 = (k : Int) by omega]
      exact (way_at hU hk).unique hw2
    rw [e1] at ih
    have hpre : ∀ x ∈ pre, eFrom H its x k = [] := by
      intro x hx
      unfold eFrom
      rw [kidsFrom_nil (fun j hj1 hj2 hp => ?_)]; rfl
      have hxq := hap.1 x hx
      have hxk : x < k := by have := hwk.falls x (by rw [es]; exact List.mem_append.2 (.inl hx)); omega
      by_cases e : j = k
      · subst e; rw [hpk] at hp; omega
      · obtain ⟨jt, hjt⟩ : ∃ jt, its[j]? = some jt := ⟨_, List.getElem?_eq_getElem hj2⟩
        have hjl := hL j jt (by omega) hjt
        rw [pOf_some hjt] at hp
        rw [hp, Int.toNat_natCast, show (j : Int) - 1 = ((k + (j - 1 - k) : Nat) : Int) by omega] at hjl
        have hm := way_later hU hL hit hq hs (j - 1 - k) (by omega) x hjl hxk
        rcases List.mem_cons.1 hm with e' | e'
        · omega
        · have := hap.2 x e'; omega
    have hpost : post.flatMap (fun x => eFrom H its x k) = post.flatMap (fun x => eFrom H its x (k + 1)) := flatMap_eq (fun x hx => by
      have := hap.2 x hx
      unfold eFrom
      rw [kidsFrom_no hk (by rw [hpk]; omega)])
    have hqe : eFrom H its q k = enc H its k ++ eFrom H its q (k + 1) := by
      unfold eFrom
      rw [kidsFrom_yes hk hpk, List.flatMap_cons]
    have hke : cont H its k it = it.z ++ eFrom H its k (k + 1) := by
      unfold cont eFrom
      rw [kidsFrom_skip (k + 1) 0 (by omega) (by omega) (fun j _ hj hp => ?_)]
      obtain ⟨jt, hjt⟩ : ∃ jt, its[j]? = some jt := ⟨_, List.getElem?_eq_getElem (by omega)⟩
      rw [pOf_some hjt] at hp
      obtain ⟨v0, v1⟩ := hU j jt (by omega) hjt
      rcases Nat.eq_zero_or_pos j with e | e
      · have := v0 e; omega
      · have := v1 e; omega
    rw [dFrom_step H hit, ih, es]
    simp only [List.flatMap_append, List.flatMap_cons]
    rw [List.flatMap_eq_nil_iff.2 hpre, hpost, hqe, enc_eq H hU hit, hke]
    simp [List.append_assoc]

theorem cont_eq (H : It → Nat → List Int) {its : List It} (hU : UpOk its its.length) {k : Nat} {it : It} (hit : its[k]? = some it) : cont H its k it = it.z ++ eFrom H its k (k + 1) := by
  have hk := (List.getElem?_eq_some_iff.1 hit).1
  unfold cont eFrom
  rw [kidsFrom_skip (k + 1) 0 (by omega) (by omega) (fun j _ hj hp => ?_)]
  obtain ⟨jt, hjt⟩ : ∃ jt, its[j]? = some jt := ⟨_, List.getElem?_eq_getElem (by omega)⟩
  rw [pOf_some hjt] at hp
  obtain ⟨v0, v1⟩ := hU j jt (by omega) hjt
  rcases Nat.eq_zero_or_pos j with e | e
  · have := v0 e; omega
  · have := v1 e; omega

/-- All items in order are the first one with all in it. -/
theorem all_eq (H : It → Nat → List Int) {its : List It} (hU : UpOk its its.length) (hL : LineOk its) (h0 : 0 < its.length) : dFrom H its 0 = enc H its 0 := by
  obtain ⟨it, hit⟩ : ∃ it, its[0]? = some it := ⟨_, List.getElem?_eq_getElem h0⟩
  obtain ⟨u0, _⟩ := hU 0 it h0 hit
  have hw : IsWay its ((0 : Nat) : Int) [0] := ⟨rfl, it, hit, by have := u0 rfl; omega, by have := u0 rfl; omega, u0 rfl⟩
  have e1 : upL its (((1 : Nat) : Int) - 1) = [0] := (way_at hU h0).unique hw
  have hs := suffix_eq H hU hL (its.length - 1) 1 (by omega) (by omega)
  rw [e1] at hs
  rw [dFrom_step H hit, enc_eq H hU hit, cont_eq H hU hit, hs]
  simp [List.append_assoc]

end Go.Proofs.Ytndkdngojjhinaa
