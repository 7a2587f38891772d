/- What is proved here: plain facts on half bytes: bytes as half bytes, half bytes as bytes, what a path is packed to and read back from; no program is named. -/
import Derived.Test.YtihdmdbekdadlaaJ1
import Derived.Test.YtihdmdbekdadlaaChecked
import Derived.WalkKit
import Derived.KernelRfl
import Derived.Deep.RegionHeld3
import Derived.Deep.AppendLies
namespace Go.Proofs.Ytihdmdbekdadlaa
open Go.RowKit
set_option linter.unusedVariables false
set_option maxRecDepth 100000

/-- The half bytes of bytes. -/
def hbs : List Int → List Int
  | [] => []
  | b :: r => b / 16 :: b % 16 :: hbs r

/-- The bytes of half bytes. -/
def pkB : List Int → List Int
  | a :: b :: r => (16 * a + b) :: pkB r
  | _ => []

def isH (v : Int) : Bool := decide (0 ≤ v ∧ v ≤ 15)

/-- What an end adds to the first half byte. -/
def pmk (e : Bool) : Int := if e then 2 else 0

/-- What stands ahead of a path. -/
def phd (n : Nat) (e : Bool) : List Int := if n % 2 = 0 then [pmk e, 0] else [pmk e + 1]

def ppCode (p : List Int) : Int := if 20 < p.length then 2 else if p.all isH then 0 else 3
def ppB (p : List Int) (e : Bool) : List Int := if ppCode p = 0 then pkB (phd p.length e ++ p) else []

theorem hbs_length : ∀ l : List Int, (hbs l).length = 2 * l.length
  | [] => rfl
  | b :: r => by simp [hbs, hbs_length r]; omega

theorem hbs_append : ∀ l m : List Int, hbs (l ++ m) = hbs l ++ hbs m
  | [], m => rfl
  | b :: r, m => by simp [hbs, hbs_append r m]

theorem hbs_snoc (l : List Int) (k : Nat) (h : k < l.length) : hbs (l.take (k + 1)) = hbs (l.take k) ++ [l.getD k 0 / 16, l.getD k 0 % 16] := by
  rw [List.take_succ_eq_append_getElem h, hbs_append, getD_at _ _ h]
  rfl

theorem pkB_length : ∀ l : List Int, (pkB l).length = l.length / 2
  | [] => rfl
  | [a] => by simp [pkB]
  | a :: b :: r => by simp only [pkB, List.length_cons, pkB_length r]; omega

theorem pkB_at : ∀ (l : List Int) (k : Nat), 2 * k + 1 < l.length → (pkB l).getD k 0 = 16 * l.getD (2 * k) 0 + l.getD (2 * k + 1) 0
  | [], k, h => by simp at h
  | [a], k, h => by simp at h
  | a :: b :: r, 0, h => by simp [pkB]
  | a :: b :: r, k + 1, h => by
    have := pkB_at r k (by simp at h; omega)
    rw [show 2 * (k + 1) = (2 * k + 1) + 1 by omega]
    simpa [pkB] using this

theorem pkB_snoc (l : List Int) (k : Nat) (h : 2 * k + 1 < l.length) : (pkB l).take (k + 1) = (pkB l).take k ++ [16 * l.getD (2 * k) 0 + l.getD (2 * k + 1) 0] := by
  have hl := pkB_length l
  rw [List.take_succ_eq_append_getElem (by omega), ← pkB_at l k h, getD_at _ _ (by omega)]

theorem isH_iff {v : Int} : isH v = true ↔ 0 ≤ v ∧ v ≤ 15 := by simp [isH]

theorem all_at {l : List Int} (h : l.all isH = true) {k : Nat} (hk : k < l.length) : 0 ≤ l.getD k 0 ∧ l.getD k 0 ≤ 15 := by
  rw [getD_at _ _ hk]
  exact isH_iff.1 (List.all_eq_true.1 h _ (List.getElem_mem hk))

theorem pkB_range : ∀ l : List Int, l.all isH = true → ∀ x ∈ pkB l, 0 ≤ x ∧ x ≤ 255
  | [], _, x, hx => by simp [pkB] at hx
  | [a], _, x, hx => by simp [pkB] at hx
  | a :: b :: r, h, x, hx => by
    simp only [List.all_cons, Bool.and_eq_true] at h
    obtain ⟨h1, h2, h3⟩ := h
    have q1 := isH_iff.1 h1
    have q2 := isH_iff.1 h2
    rcases List.mem_cons.1 hx with e | e
    · subst e; omega
    · exact pkB_range r h3 x e

theorem phd_all (n : Nat) (e : Bool) : (phd n e).all isH = true := by
  unfold phd pmk
  cases e <;> split <;> decide

theorem phd_length (n : Nat) (e : Bool) : (phd n e).length = 2 - n % 2 := by
  unfold phd
  split
  · simp; omega
  · simp; omega

theorem ppB_range (p : List Int) (e : Bool) : ∀ x ∈ ppB p e, 0 ≤ x ∧ x ≤ 255 := by
  unfold ppB
  split
  · rename_i h
    have : p.all isH = true := by
      unfold ppCode at h
      split at h
      · omega
      · split at h
        · assumption
        · omega
    exact pkB_range _ (by rw [List.all_append, phd_all, this]; rfl)
  · intro x hx; simp at hx

theorem ppB_length (p : List Int) (e : Bool) : (ppB p e).length ≤ 11 := by
  unfold ppB
  split
  · rename_i h
    have : p.length ≤ 20 := by
      unfold ppCode at h
      split at h
      · omega
      · omega
    rw [pkB_length, List.length_append, phd_length]
    omega
  · simp

theorem pkB_hbs : ∀ l : List Int, pkB (hbs l) = l
  | [] => rfl
  | b :: r => by
    rw [hbs, pkB, pkB_hbs r]
    congr 1
    omega

theorem hbs_pkB : ∀ l : List Int, l.length % 2 = 0 → l.all isH = true → hbs (pkB l) = l
  | [], _, _ => rfl
  | [a], h, _ => by simp at h
  | a :: b :: r, h, ha => by
    simp only [List.all_cons, Bool.and_eq_true] at ha
    obtain ⟨h1, h2, h3⟩ := ha
    have q1 := isH_iff.1 h1
    have q2 := isH_iff.1 h2
    rw [pkB, hbs, hbs_pkB r (by simp at h; omega) h3]
    congr 1
    · omega
    · congr 1; omega

theorem hbs_all : ∀ l : List Int, (∀ x ∈ l, 0 ≤ x ∧ x ≤ 255) → (hbs l).all isH = true
  | [], _ => rfl
  | b :: r, h => by
    have q := h b List.mem_cons_self
    have := hbs_all r (fun x hx => h x (List.mem_cons_of_mem _ hx))
    simp only [hbs, List.all_cons, this, Bool.and_true, Bool.and_eq_true]
    exact ⟨isH_iff.2 (by omega), isH_iff.2 (by omega)⟩

/-- What is left of half bytes behind the head. -/
def upP (d : List Int) : List Int := if (hbs d).getD 0 0 % 2 = 0 then (hbs d).drop 2 else (hbs d).drop 1
def upE (d : List Int) : Bool := decide (2 ≤ (hbs d).getD 0 0)

/-- Whether bytes are those of a path. -/
def upOk1 (d : List Int) : Bool :=
  !decide (d.length = 0) && !decide (11 < d.length) && !decide (64 ≤ d.getD 0 0) && !(decide ((hbs d).getD 0 0 % 2 = 0) && !decide ((hbs d).getD 1 0 = 0)) && decide ((upP d).length ≤ 20)

theorem take_all {l : List Int} {p : Int → Bool} (h : l.all p = true) (n : Nat) : (l.drop n).all p = true := by
  rw [List.all_eq_true] at h ⊢
  intro x hx
  exact h x (List.mem_of_mem_drop hx)

theorem upP_all (d : List Int) (hr : ∀ x ∈ d, 0 ≤ x ∧ x ≤ 255) : (upP d).all isH = true := by
  unfold upP
  split <;> exact take_all (hbs_all d hr) _

/-- What is packed again is the same just where the bytes are those of a path. -/
theorem up_again (d : List Int) (hr : ∀ x ∈ d, 0 ≤ x ∧ x ≤ 255) (h1 : 0 < d.length) (h2 : d.length ≤ 11) : (decide (ppCode (upP d) = 0) && (ppB (upP d) (upE d) == d)) = upOk1 d := by
  match d, h1 with
  | b :: r, _ =>
    have hb := hr b List.mem_cons_self
    have ha := upP_all (b :: r) hr
    have hl : (hbs (b :: r)).length = 2 * r.length + 2 := by rw [hbs_length]; simp; omega
    have e0 : (hbs (b :: r)).getD 0 0 = b / 16 := rfl
    have e1 : (hbs (b :: r)).getD 1 0 = b % 16 := rfl
    have e2 : (b :: r).getD 0 0 = b := rfl
    have hh := hbs_length r
    have d1 : (hbs (b :: r)).drop 1 = b % 16 :: hbs r := rfl
    have d2 : (hbs (b :: r)).drop 2 = hbs r := rfl
    have hc : ppCode (upP (b :: r)) = if 20 < (upP (b :: r)).length then 2 else 0 := by
      unfold ppCode
      rw [ha]
      simp
    unfold upOk1
    rw [e0, e1, e2, hc]
    by_cases h20 : 20 < (upP (b :: r)).length
    · simp [h20]
    · have l0 : decide ((b :: r).length = 0) = false := by simp
      have l1 : decide (11 < (b :: r).length) = false := by simp at h2 ⊢; omega
      have l2 : decide ((upP (b :: r)).length ≤ 20) = true := by simp; omega
      rw [if_neg h20, l0, l1, l2]
      have hp : ppB (upP (b :: r)) (upE (b :: r)) = pkB (phd (upP (b :: r)).length (upE (b :: r)) ++ upP (b :: r)) := by
        unfold ppB
        rw [if_pos (by rw [hc, if_neg h20])]
      rw [hp]
      have hE : upE (b :: r) = decide (2 ≤ b / 16) := by unfold upE; rw [e0]
      rw [hE]
      unfold upP
      rw [e0, d1, d2]
      by_cases hev : b / 16 % 2 = 0
      · rw [if_pos hev]
        have hphd : phd (hbs r).length (decide (2 ≤ b / 16)) = [pmk (decide (2 ≤ b / 16)), 0] := by unfold phd; rw [if_pos (by omega)]
        rw [hphd]
        show (decide ((0 : Int) = 0) && (pkB (pmk (decide (2 ≤ b / 16)) :: 0 :: hbs r) == b :: r)) = _
        rw [pkB, pkB_hbs]
        by_cases hg : 2 ≤ b / 16
        · have : pmk (decide (2 ≤ b / 16)) = 2 := by simp [pmk, hg]
          rw [this]
          by_cases hb32 : b = 32
          · subst hb32; simp
          · have x1 : ((16 * 2 + 0 : Int) :: r == b :: r) = false := by simp; omega
            rw [x1]
            have : ¬ (b < 64 ∧ b % 16 = 0) := by omega
            simp [hev]
            omega
        · have : pmk (decide (2 ≤ b / 16)) = 0 := by simp [pmk, hg]
          rw [this]
          by_cases hb0 : b = 0
          · subst hb0; simp
          · have x1 : ((16 * 0 + 0 : Int) :: r == b :: r) = false := by simp; omega
            rw [x1]
            simp [hev]
            omega
      · rw [if_neg hev]
        have hphd : phd (b % 16 :: hbs r).length (decide (2 ≤ b / 16)) = [pmk (decide (2 ≤ b / 16)) + 1] := by unfold phd; rw [if_neg (by simp; omega)]
        rw [hphd]
        show (decide ((0 : Int) = 0) && (pkB ((pmk (decide (2 ≤ b / 16)) + 1) :: b % 16 :: hbs r) == b :: r)) = _
        rw [pkB, pkB_hbs]
        by_cases hg : 2 ≤ b / 16
        · have : pmk (decide (2 ≤ b / 16)) = 2 := by simp [pmk, hg]
          rw [this]
          by_cases hb64 : b < 64
          · have x1 : ((16 * (2 + 1) + b % 16 : Int) :: r == b :: r) = true := by simp; omega
            rw [x1]
            simp [hev]
            omega
          · have x1 : ((16 * (2 + 1) + b % 16 : Int) :: r == b :: r) = false := by simp; omega
            rw [x1]
            simp [hev]
            omega
        · have : pmk (decide (2 ≤ b / 16)) = 0 := by simp [pmk, hg]
          rw [this]
          have x1 : ((16 * (0 + 1) + b % 16 : Int) :: r == b :: r) = true := by simp; omega
          rw [x1]
          simp [hev]
          omega

/-- A path is read back. -/
theorem pp_back (p : List Int) (e : Bool) (hc : ppCode p = 0) : upOk1 (ppB p e) = true ∧ upP (ppB p e) = p ∧ upE (ppB p e) = e ∧ (ppB p e).length = p.length / 2 + 1 := by
  have hp : p.all isH = true ∧ p.length ≤ 20 := by
    unfold ppCode at hc
    split at hc
    · omega
    · split at hc
      · rename_i h1 h2; exact ⟨h2, by omega⟩
      · omega
  obtain ⟨ha, hl⟩ := hp
  have hB : ppB p e = pkB (phd p.length e ++ p) := by unfold ppB; rw [if_pos hc]
  have hall : (phd p.length e ++ p).all isH = true := by rw [List.all_append, phd_all, ha]; rfl
  have hpl := phd_length p.length e
  have hh : hbs (ppB p e) = phd p.length e ++ p := by rw [hB]; exact hbs_pkB _ (by rw [List.length_append, hpl]; omega) hall
  have hlen : (ppB p e).length = p.length / 2 + 1 := by rw [hB, pkB_length, List.length_append, hpl]; omega
  have h0 : (ppB p e).getD 0 0 / 16 = (phd p.length e ++ p).getD 0 0 := by
    rw [← hh]
    match hq : ppB p e with
    | [] => rw [hq] at hlen; simp at hlen
    | b :: r => rfl
  have hP : upP (ppB p e) = p ∧ upE (ppB p e) = e ∧ (ppB p e).getD 0 0 < 64 ∧ ((phd p.length e ++ p).getD 0 0 % 2 = 0 → (phd p.length e ++ p).getD 1 0 = 0) := by
    unfold upP upE
    rw [hh]
    by_cases hev : p.length % 2 = 0
    · have : phd p.length e = [pmk e, 0] := by unfold phd; rw [if_pos hev]
      rw [this] at h0 ⊢
      cases e <;> simp [pmk] at h0 ⊢ <;> omega
    · have : phd p.length e = [pmk e + 1] := by unfold phd; rw [if_neg hev]
      rw [this] at h0 ⊢
      cases e <;> simp [pmk] at h0 ⊢ <;> omega
  obtain ⟨q1, q2, q3, q4⟩ := hP
  refine ⟨?_, q1, q2, hlen⟩
  unfold upOk1
  rw [q1, hh]
  have l0 : decide ((ppB p e).length = 0) = false := by rw [hlen]; simp
  have l1 : decide (11 < (ppB p e).length) = false := by rw [hlen]; simp; omega
  have l2 : decide (64 ≤ (ppB p e).getD 0 0) = false := by simp only [decide_eq_false_iff_not]; omega
  have l3 : decide (p.length ≤ 20) = true := by simp; omega
  rw [l0, l1, l2, l3]
  by_cases hev : (phd p.length e ++ p).getD 0 0 % 2 = 0
  · rw [q4 hev]; simp
  · rw [decide_eq_false hev]; rfl

def upCode (d : List Int) : Int := if upOk1 d then 0 else 5
def upPath (d : List Int) : List Int := if upOk1 d then upP d else []
def upEnd (d : List Int) : Bool := upOk1 d && upE d

theorem upPath_length (d : List Int) : (upPath d).length ≤ 20 := by
  unfold upPath
  split
  · rename_i h
    unfold upOk1 at h
    simp only [Bool.and_eq_true, decide_eq_true_eq] at h
    exact h.2
  · simp

end Go.Proofs.Ytihdmdbekdadlaa

/- What is proved here: what the model's l1In answers: whether a number lies within two bounds. -/
namespace Go.Proofs.Ytihdmdbekdadlaa
open Go.RowKit
set_option linter.unusedVariables false
set_option maxRecDepth 100000

theorem in_yes (v lo hi : Int) (w : World) (h0 : lo ≤ v) (h1 : v ≤ hi) : Calls Try.prog 45 #[.int .i64 v, .int .i64 lo, .int .i64 hi] w fun e w' => e = .returned (.bool true) ∧ w' = w := by
  have e0 : decide (lo ≤ v) = true := decide_eq_true h0
  have e1 : decide (v ≤ hi) = true := decide_eq_true h1
  go_enter Try.func45, Try.ntmps45
  go_wp2
  go_ret
  exact ⟨ret_bool (by simp), rfl⟩

set_option maxHeartbeats 1000000 in
theorem in_no (v lo hi : Int) (w : World) (h : v < lo ∨ hi < v) : Calls Try.prog 45 #[.int .i64 v, .int .i64 lo, .int .i64 hi] w fun e w' => e = .returned (.bool false) ∧ w' = w := by
  by_cases h0 : lo ≤ v
  · have e0 : decide (lo ≤ v) = true := decide_eq_true h0
    have e1 : decide (v ≤ hi) = false := decide_eq_false (by omega)
    go_enter Try.func45, Try.ntmps45
    go_wp2
    go_ret
    exact ⟨ret_bool (by simp), rfl⟩
  · have e0 : decide (lo ≤ v) = false := decide_eq_false h0
    go_enter Try.func45, Try.ntmps45
    go_wp2
    go_ret
    exact ⟨ret_bool (by simp), rfl⟩

/-- Whether a number is a word. -/
def isWord (v : Int) : Bool := decide (0 ≤ v ∧ v ≤ 4294967295)

theorem in_any (v lo hi : Int) (w : World) : Calls Try.prog 45 #[.int .i64 v, .int .i64 lo, .int .i64 hi] w fun e w' => e = .returned (.bool (decide (lo ≤ v ∧ v ≤ hi))) ∧ w' = w := by
  by_cases h : lo ≤ v ∧ v ≤ hi
  · rw [decide_eq_true h]; exact in_yes v lo hi w h.1 h.2
  · rw [decide_eq_false h]; exact in_no v lo hi w (by omega)

end Go.Proofs.Ytihdmdbekdadlaa

/- What is proved here: what the model's l13Half, l13Path, PackPath answer: half bytes, and the bytes of a path, in new memory. -/
namespace Go.Proofs.Ytihdmdbekdadlaa
open Go.RowKit
set_option linter.unusedVariables false
set_option maxRecDepth 100000

theorem news2i (w : World) (x y : Value) (t : TypeId) : ∀ (j : Nat) (u : Value), [x, y][j]? = some u → (w.alloc (.cells #[x, y] t)).cell? ((⟨w.heap.size, 0, none⟩ : Addr).add j) = some u := by
  intro j u hj
  rw [add_none, Nat.zero_add, World.cell?_alloc_new]
  match j, hj with
  | 0, hj => simpa using hj
  | 1, hj => simpa using hj

set_option maxHeartbeats 1000000 in
theorem l13Half_any (a : Option Addr) (len cap : Nat) (xs : List Int) (w : World) (h : BRow w a len xs) (hl : len ≤ 1048576) :
    Calls Try.prog 59 #[.slice a len cap] w fun e w' => ∃ a' c', e = .returned (.slice a' (2 * len) c') ∧
      w'.ownsRow w.heap.size 2 1 (.slice a' (2 * len) c') (2 * len) ((hbs xs).map (Value.int .i64)) ∧ Below w.heap.size w w' := by
  obtain ⟨i0, hi, hz0, hz1, hz2⟩ := info_parts info2
  have hxl := h.1
  have HX := hide h
  have o0 : (w.alloc (.cells #[] 2)).ownsRow w.heap.size 2 1 (.slice (some ⟨w.heap.size, 0, none⟩) (2 * 0) 0) (2 * 0) ((hbs (xs.take 0)).map (Value.int .i64)) := World.ownsRow_lit w #[] 0 (Nat.le_refl _) (by unfold maxLen; omega) rfl
  have HO := hide o0
  clear h o0
  go_enter Try.func59, Try.ntmps59
  go_wp2_with fail
  go_loopw [3, 4] (fun v i wr => ∃ (k : Nat) (da : Option Addr) (dc : Nat), k ≤ len ∧ i = .int .i64 k ∧ v = .slice da (2 * k) dc ∧ wr.ownsRow w.heap.size 2 1 (.slice da (2 * k) dc) (2 * k) ((hbs (xs.take k)).map (Value.int .i64)) ∧
      Below w.heap.size w wr) (fun _ i _ => len - (intOf i).toNat)
  case atStart => exact ⟨0, _, _, Nat.zero_le _, rfl, rfl, unhide HO, below_alloc w _⟩
  case round =>
    obtain ⟨k, da, dc, hk, rfl, rfl, hown, hbel⟩ := hrel
    clear HO
    by_cases hlt : k < len
    · have hcx0 := ((unhide HX).below hbel (Nat.le_refl _))
      obtain ⟨b, off, rfl, hb, hc⟩ := hcx0.at (by omega)
      have hbw : b < w.heap.size := (by obtain ⟨b', o', e, hb', _⟩ := (unhide HX).at (by omega); cases e; exact hb')
      have hcx := hc k hlt
      clear hc hcx0
      have hxk := (unhide HX).2.1 (xs.getD k 0) (by rw [getD_at _ _ (by omega)]; exact List.getElem_mem _)
      have HS := hide (hbs_snoc xs k (by omega))
      generalize xs.getD k 0 = x at hcx hxk HS
      have hz := hbel.size
      have e1 : IntKind.i64.wrap (x.tdiv 16) = x / 16 := by rw [Int.tdiv_eq_ediv_of_nonneg hxk.1]; exact i64_up _ (by omega) (by omega)
      have e2 : x.tmod 16 = x % 16 := by rw [Int.tmod_eq_emod_of_nonneg hxk.1]
      have e3 : IntKind.i64.wrap x = x := i64_up _ (by omega) (by omega)
      have hcw : w.cell? ⟨b, off + k, none⟩ = some (.int .u8 x) := by rw [← hbel.cell (by exact hbw)]; exact hcx
      have HCW := hide hcw
      have HBE := hide hbel
      clear hbel hcw
      go_wp2_with fail
      go_region_held3 (fun w' => w'.cell? ⟨b, off + k, none⟩ = some (.int .u8 x)) (first | go_keep | assumption) ((refine step_append_lies _ (by rfl) (.tmp 12) (.tmp 25) 25 (by rfl) w.heap.size 2 i0 (.int .i64 0) 1 8 Try.underlying25 hi hz0 hz1 hz2 rfl (by decide) _ _ _ (by rfl) (by first | exact hown.alloc _ | exact (hown.alloc _).drew) ⟨wr.heap.size, 0, none⟩ 2 2 [.int .i64 (x / 16), .int .i64 (x % 16)] (by rfl) rfl (by exact news2i _ _ _ _) (by simp [Value.oneCell']) (by omega) (by unfold maxLen; omega) (by omega) (by simp; omega) _ rfl ?_; intro g cap2 w2 hown2 hgrow2 hat2 hlt2; have hb2 : Below w.heap.size w w2 := (((unhide HBE).alloc (by omega) _).drew).grown hgrow2 (by simp; omega) (fun q e => (hown.lt q e).1); have hS2 := (hb2.cell hbw).trans (unhide HCW)))
      have ho2 : w2.ownsRow w.heap.size 2 1 (.slice (some ⟨g, 0, none⟩) (2 * (k + 1)) cap2) (2 * (k + 1)) ((hbs (xs.take (k + 1))).map (Value.int .i64)) := by
        rw [unhide HS, List.map_append, show 2 * (k + 1) = 2 * k + 2 from by omega]
        exact hown2
      have HB2 := hide hb2
      have HO2 := hide ho2
      clear hb2 ho2 hown2 hgrow2 hown
      go_wp2_with fail
      go_roundw
      case rel => exact ⟨k + 1, some ⟨g, 0, none⟩, cap2, by omega, by go_num, rfl, unhide HO2, unhide HB2⟩
      case measure => simp [intOf]; omega
    · obtain rfl : k = len := by omega
      rw [List.take_of_length_le (by omega)] at hown
      go_wp2_with fail
      go_ret
      exact ⟨_, _, rfl, hown, hbel⟩

end Go.Proofs.Ytihdmdbekdadlaa

/- What is proved here: what the program's isHalfByte, pathHead, halfBytesOf and bytesOfHalves answer. -/
namespace Go.Proofs.Ytihdmdbekdadlaa
open Go.RowKit
set_option linter.unusedVariables false
set_option maxRecDepth 100000

set_option maxHeartbeats 1000000 in
theorem withinH_any (v lo hi : Int) (w : World) : Calls Try.prog 57 #[.int .i64 v, .int .i64 lo, .int .i64 hi] w fun e w' => e = .returned (.bool (decide (lo ≤ v ∧ v ≤ hi))) ∧ w' = w := by
  by_cases h0 : lo ≤ v
  · have e0 : decide (lo ≤ v) = true := decide_eq_true h0
    by_cases h1 : v ≤ hi
    · have e1 : decide (v ≤ hi) = true := decide_eq_true h1
      have e2 : decide (lo ≤ v ∧ v ≤ hi) = true := decide_eq_true ⟨h0, h1⟩
      rw [e2]
      go_enter Try.func57, Try.ntmps57
      go_wp2
      go_ret
      exact ⟨ret_bool (by simp), rfl⟩
    · have e1 : decide (v ≤ hi) = false := decide_eq_false h1
      have e2 : decide (lo ≤ v ∧ v ≤ hi) = false := decide_eq_false (fun h => h1 h.2)
      rw [e2]
      go_enter Try.func57, Try.ntmps57
      go_wp2
      go_ret
      exact ⟨ret_bool (by simp), rfl⟩
  · have e0 : decide (lo ≤ v) = false := decide_eq_false h0
    have e2 : decide (lo ≤ v ∧ v ≤ hi) = false := decide_eq_false (fun h => h0 h.1)
    rw [e2]
    go_enter Try.func57, Try.ntmps57
    go_wp2
    go_ret
    exact ⟨ret_bool (by simp), rfl⟩

theorem isHalf_any (v : Int) (w : World) : Calls Try.prog 39 #[.int .i64 v] w fun e w' => e = .returned (.bool (isH v)) ∧ w' = w := by
  go_enter Try.func39, Try.ntmps39
  go_wp2_with fail
  refine (withinH_any v 0 15 w).mono ?_
  rintro e w1 ⟨rfl, rfl⟩
  go_wp2_with fail
  go_ret
  exact ⟨ret_bool (by simp [isH]), rfl⟩

set_option maxHeartbeats 1000000 in
theorem pathHead_any (n : Nat) (e : Bool) (w : World) (hn : n ≤ 1000) : Calls Try.prog 41 #[.int .i64 n, .bool e] w fun e' w' => ∃ c', e' = .returned (.slice (some ⟨w.heap.size, 0, none⟩) (phd n e).length c') ∧
      w'.ownsRow w.heap.size 2 1 (.slice (some ⟨w.heap.size, 0, none⟩) (phd n e).length c') (phd n e).length ((phd n e).map (Value.int .i64)) ∧ Below w.heap.size w w' := by
  by_cases hev : n % 2 = 0
  · have hpar : (((n : Nat) : Int) % 2 == 0) = true := by rw [beq_iff_eq]; omega
    cases e
    · have hp : phd n false = [0, 0] := by unfold phd; rw [if_pos hev]; rfl
      rw [hp]
      go_enter Try.func41, Try.ntmps41
      go_wp2_with fail
      go_ret
      exact ⟨2, rfl, World.ownsRow_lit (size := 1) (e := 2) (base := w.heap.size) w #[.int .i64 0, .int .i64 0] 2 (Nat.le_refl _) (by unfold maxLen; omega) rfl, below_alloc w _⟩
    · have hp : phd n true = [2, 0] := by unfold phd; rw [if_pos hev]; rfl
      rw [hp]
      go_enter Try.func41, Try.ntmps41
      go_wp2_with fail
      go_ret
      exact ⟨2, rfl, World.ownsRow_lit (size := 1) (e := 2) (base := w.heap.size) w #[.int .i64 2, .int .i64 0] 2 (Nat.le_refl _) (by unfold maxLen; omega) rfl, below_alloc w _⟩
  · have hpar : (((n : Nat) : Int) % 2 == 0) = false := by rw [beq_eq_false_iff_ne]; omega
    cases e
    · have hp : phd n false = [1] := by unfold phd; rw [if_neg hev]; rfl
      rw [hp]
      go_enter Try.func41, Try.ntmps41
      go_wp2_with fail
      go_ret
      exact ⟨1, rfl, World.ownsRow_lit (size := 1) (e := 2) (base := w.heap.size) w #[.int .i64 1] 1 (Nat.le_refl _) (by unfold maxLen; omega) rfl, below_alloc w _⟩
    · have hp : phd n true = [3] := by unfold phd; rw [if_neg hev]; rfl
      rw [hp]
      go_enter Try.func41, Try.ntmps41
      go_wp2_with fail
      go_ret
      exact ⟨1, rfl, World.ownsRow_lit (size := 1) (e := 2) (base := w.heap.size) w #[.int .i64 3] 1 (Nat.le_refl _) (by unfold maxLen; omega) rfl, below_alloc w _⟩

set_option maxHeartbeats 1000000 in
theorem halfBytes_any (a : Option Addr) (len cap : Nat) (xs : List Int) (w : World) (h : BRow w a len xs) (hl : len ≤ 1048576) :
    Calls Try.prog 37 #[.slice a len cap] w fun e w' => ∃ g c', e = .returned (.slice (some ⟨g, 0, none⟩) (2 * len) c') ∧
      w'.ownsRow w.heap.size 2 1 (.slice (some ⟨g, 0, none⟩) (2 * len) c') (2 * len) ((hbs xs).map (Value.int .i64)) ∧ Below w.heap.size w w' := by
  obtain ⟨i0, hi, hz0, hz1, hz2⟩ := info_parts info2
  have hxl := h.1
  have HX := hide h
  clear h
  go_enter Try.func37, Try.ntmps37
  go_wp2_with (at_make; refine wpList_make_own _ rfl _ _ 25 rfl w.heap.size 2 i0 (.int .i64 0) 1 Try.underlying25 hi hz0 hz1 _ _ _ (2 * len) rfl rfl (by omega) ?c1 ?c2 ?c3 ?_)
  case c1 => rw [hz2]; omega
  case c2 => unfold maxLen; omega
  case c3 => simp
  intro w1 hown hgrow
  have hbel : Below w.heap.size w w1 := (Below.refl _ _).grown hgrow (Nat.le_refl _) (fun k e => by cases e)
  have HO := hide hown
  have HB := hide hbel
  clear hown hgrow hbel
  go_wp2_with fail
  go_loopw [3, 12] (fun v i wr => ∃ (k t g : Nat) (dc : Nat), k ≤ len ∧ t = 2 * k ∧ i = .int .i64 k ∧ v = .slice (some ⟨g, 0, none⟩) t dc ∧ wr.ownsRow w.heap.size 2 1 (.slice (some ⟨g, 0, none⟩) t dc) t ((hbs (xs.take k)).map (Value.int .i64)) ∧
      Below w.heap.size w wr) (fun _ i _ => len - (intOf i).toNat)
  case atStart => exact ⟨0, 0, _, _, Nat.zero_le _, rfl, rfl, rfl, unhide HO, unhide HB⟩
  case round =>
    obtain ⟨k, t, g, dc, hk, ht, rfl, rfl, hown, hbel⟩ := hrel
    clear HO HB
    by_cases hlt : k < len
    · obtain ⟨b, off, rfl, hb, hc⟩ := ((unhide HX).below hbel (Nat.le_refl _)).at (by omega)
      have hcx := hc k hlt
      clear hc
      have hxk := (unhide HX).2.1 (xs.getD k 0) (by rw [getD_at _ _ (by omega)]; exact List.getElem_mem _)
      have HS := hide (hbs_snoc xs k (by omega))
      generalize xs.getD k 0 = x at hcx hxk HS
      have hz := hbel.size
      have e1 : IntKind.u8.wrap (x.tdiv 16) = x / 16 := by rw [Int.tdiv_eq_ediv_of_nonneg hxk.1, IntKind.wrap_u8]; omega
      have e2 : x.tmod 16 = x % 16 := by rw [Int.tmod_eq_emod_of_nonneg hxk.1]
      have i1 : (0 : Int) ≤ (k : Int) := by omega
      have i2 : (k : Int) < (len : Int) := by omega
      have HBE := hide hbel
      have HT := hide ht
      clear hbel ht
      go_wp2_with (at_builtin; refine wpList_append_own _ rfl _ _ 25 rfl w.heap.size 2 i0 (.int .i64 0) 1 8 Try.underlying25 hi hz0 hz1 hz2 rfl (by decide) _ _ _ rfl (hown.alloc _) ⟨wr.heap.size, 0, none⟩ 2 2 [.int .i64 (x / 16), .int .i64 (x % 16)] rfl rfl ?c1 ?c2 ?c3 ?c4 ?c5 ?_)
      case c1 => exact news2i _ _ _ _
      case c2 => simp [Value.oneCell']
      case c3 => have := unhide HT; unfold maxLen; omega
      case c4 => have := unhide HT; omega
      case c5 => simp; omega
      intro v3 w3 o3 hgrow _
      obtain ⟨g3, cap3, hv3⟩ := own_some o3 (by omega)
      have b3 : Below w.heap.size w w3 := ((unhide HBE).alloc hz _).grown hgrow (by simp; omega) (fun q e => (hown.lt q e).1)
      rw [hv3] at o3
      rw [hv3]
      have O3 : Hid (w3.ownsRow w.heap.size 2 1 (.slice (some ⟨g3, 0, none⟩) (t + 2) cap3) (t + 2) ((hbs (xs.take (k + 1))).map (Value.int .i64))) := by
        show w3.ownsRow _ _ _ _ _ _
        rw [unhide HS, List.map_append]
        exact o3
      have HB3 := hide b3
      clear o3 b3 hgrow hv3 hown
      go_wp2_with fail
      go_roundw
      case rel => exact ⟨k + 1, t + 2, g3, cap3, by omega, by have := unhide HT; omega, by go_num, rfl, unhide O3, unhide HB3⟩
      case measure => simp [intOf]; omega
    · obtain rfl : k = len := by omega
      rw [List.take_of_length_le (by omega)] at hown
      subst ht
      have HBE := hide hbel
      have HO := hide hown
      clear hbel hown
      go_wp2_with fail
      go_ret
      exact ⟨_, _, rfl, unhide HO, unhide HBE⟩

set_option maxHeartbeats 2000000 in
theorem bytesOfHalves_any (a : Option Addr) (n cap : Nat) (q : List Int) (w : World) (h : IRow w a n q) (hn : n ≤ 1000) (ha : q.all isH = true) :
    Calls Try.prog 42 #[.slice a n cap] w fun e w' => ∃ a' c', e = .returned (.slice a' (n / 2) c') ∧
      w'.ownsRow w.heap.size 5 1 (.slice a' (n / 2) c') (n / 2) ((pkB q).map (Value.int .u8)) ∧ Below w.heap.size w w' := by
  obtain ⟨i0, hi, hz0, hz1, hz2⟩ := info_parts info5
  have hql := h.1
  have hpk := pkB_length q
  rw [hql] at hpk
  have HX := hide h
  have HAT := hide (fun k hk => all_at ha (k := k) hk)
  have HPA := hide (pkB_at q)
  obtain ⟨H, hH⟩ : ∃ H, H = n / 2 := ⟨_, rfl⟩
  rw [← hH] at hpk ⊢
  have hH2 : 2 * H ≤ n := by omega
  have hHq : (n : Int) / 2 = (H : Int) := by omega
  have HF := hide (fun k hk => fill_step (pkB q) H k hpk hk)
  clear h ha hH
  go_enter Try.func42, Try.ntmps42
  go_wp2_with (at_make; refine wpList_make_full _ rfl _ _ 22 rfl w.heap.size 5 i0 (.int .u8 0) 1 Try.underlying22 hi hz0 hz1 _ _ _ _ H rfl rfl (by omega) (by omega) ?c1 ?c2 ?c3 ?_)
  case c1 => rw [hz2]; omega
  case c2 => unfold maxLen; omega
  case c3 => simp
  intro w1 hown hgrow
  have hown0 : w1.ownsRow w.heap.size 5 1 (.slice (some ⟨w.heap.size, 0, none⟩) H H) H (((pkB q).take 0 ++ List.replicate (H - 0) 0).map (Value.int .u8)) := by
    have e : (madeCells #[Value.int .u8 0] H).toList = ((pkB q).take 0 ++ List.replicate (H - 0) 0).map (Value.int .u8) := by
      rw [toList_madeCells_one]; simp
    rw [← e]; exact hown
  have hbel : Below w.heap.size w w1 := (Below.refl _ _).grown hgrow (Nat.le_refl _) (fun k e => by cases e)
  have HO := hide hown0
  have HB := hide hbel
  clear hown hgrow hbel hown0
  go_wp2_with fail
  go_loopw [11] (fun i wr => ∃ k : Nat, k ≤ H ∧ i = .int .i64 k ∧ wr.ownsRow w.heap.size 5 1 (.slice (some ⟨w.heap.size, 0, none⟩) H H) H (((pkB q).take k ++ List.replicate (H - k) 0).map (Value.int .u8)) ∧ Below w.heap.size w wr) (fun i _ => H - (intOf i).toNat)
  case atStart => exact ⟨0, Nat.zero_le _, rfl, unhide HO, unhide HB⟩
  case round =>
    obtain ⟨k, hk, rfl, hown, hbel⟩ := hrel
    clear HO HB
    by_cases hlt : k < H
    · obtain ⟨t, ht⟩ : ∃ t, t = 2 * k := ⟨_, rfl⟩
      obtain ⟨s, hs⟩ : ∃ s, s = t + 1 := ⟨_, rfl⟩
      obtain ⟨b, off, rfl, hb, hc⟩ := ((unhide HX).below hbel (Nat.le_refl _)).at (by omega)
      have c0 : wr.cell? ⟨b, off + t, none⟩ = some (.int .i64 (q.getD t 0)) := hc t (by omega)
      have c1 : wr.cell? ⟨b, off + s, none⟩ = some (.int .i64 (q.getD s 0)) := hc s (by omega)
      have x0 := (unhide HAT) t (by omega)
      have x1 := (unhide HAT) s (by omega)
      have hst := (unhide HF) k hlt
      have hpa := (unhide HPA) k (by omega)
      rw [← ht, ← hs] at hpa
      rw [hpa] at hst
      generalize q.getD t 0 = x at c0 x0 hst
      generalize q.getD s 0 = y at c1 x1 hst
      have hfz := hown.frozenAt k
      obtain ⟨u, hu⟩ : ∃ u, wr.cell? ⟨w.heap.size, k, none⟩ = some u := by
        rw [hown.cellAt k (by omega)]
        exact ⟨_, List.getElem?_eq_getElem (by rw [hown.1]; omega)⟩
      have R := hown.stored k (.int .u8 (16 * x + y))
      rw [hst] at R
      have HR := hide R.1
      have HB2 : Hid (Below w.heap.size w (wr.setCell ⟨w.heap.size, k, none⟩ (.int .u8 (16 * x + y)))) := hbel.setCell (Nat.le_refl _) _
      have e1 : IntKind.i64.wrap (16 * x) = 16 * x := i64_up _ (by omega) (by omega)
      have e2 : IntKind.i64.wrap (16 * x + y) = 16 * x + y := i64_up _ (by omega) (by omega)
      have e3 : IntKind.u8.wrap (16 * x + y) = 16 * x + y := by rw [IntKind.wrap_u8]; omega
      have j1 : (2 : Int) * (k : Int) = (t : Int) := by omega
      have j2 : IntKind.i64.wrap (t : Int) = (t : Int) := i64_up _ (by omega) (by omega)
      have j3 : (t : Int) + 1 = (s : Int) := by omega
      have j4 : IntKind.i64.wrap (s : Int) = (s : Int) := i64_up _ (by omega) (by omega)
      have i1 : (0 : Int) ≤ (k : Int) := by omega
      have i2 : (k : Int) < (H : Int) := by omega
      have i3 : (0 : Int) ≤ (t : Int) := by omega
      have i4 : (t : Int) < (n : Int) := by omega
      have i5 : (0 : Int) ≤ (s : Int) := by omega
      have i6 : (s : Int) < (n : Int) := by omega
      clear R hst hpa hc hs ht hown hbel HAT HPA HF
      go_wp2_with fail
      go_region
      go_wp2_with fail
      go_roundw
      case rel => exact ⟨k + 1, by omega, by go_num, unhide HR, (unhide HB2).drew⟩
      case measure => simp [intOf]; omega
    · obtain rfl : k = H := by omega
      have e : ((pkB q).take k ++ List.replicate (k - k) 0) = pkB q := by rw [List.take_of_length_le (by omega)]; simp
      rw [e] at hown
      have HBE := hide hbel
      have HO := hide hown
      clear hbel hown e
      go_wp2_with fail
      go_ret
      exact ⟨_, _, rfl, unhide HO, unhide HBE⟩

end Go.Proofs.Ytihdmdbekdadlaa
