/- What is proved here: the operations of the model's l5Same may be carried out in the order of their text, whatever order is drawn: looked up by the kernel, a few at a time. -/
import Derived.Test.YtlenpjbkbjdbeabChecked
import Derived.Deep.Quiet
import Derived.KernelRfl
namespace Go.Proofs.Ytlenpjbkbjdbeab
set_option linter.unusedVariables false

/-- The operations of a region of some code. -/
def codeOps : Code → Nat → List Oper
  | .region id ops _, n => if id = n then ops.toList else []
  | .seq a b, n => codeOps a n ++ codeOps b n
  | .cond _ a b, n => codeOps a n ++ codeOps b n
  | .block _ b, n => codeOps b n
  | .loop b, n => codeOps b n
  | .scope b, n => codeOps b n
  | _, _ => []

def opsOf (f : Func) (n : Nat) : List Oper := match f.body with
  | some c => codeOps c n
  | none => []

/-- Of n the first k have come up. -/
def lst (n k : Nat) : Array Bool := (List.replicate k true ++ List.replicate (n - k) false).toArray

def chk (ops : Array Oper) (n k : Nat) : Bool := (Region.ready .any ops (lst n k)).contains k && Region.free .any ops (lst n k) k

theorem lst_set (n k : Nat) (h : k < n) : (lst n k).setIfInBounds k true = lst n (k + 1) := by
  unfold lst
  rw [List.setIfInBounds_toArray]
  congr 1
  have e : n - k = (n - (k + 1)) + 1 := by omega
  rw [e, List.replicate_succ, List.set_append, if_neg (by simp), List.length_replicate, Nat.sub_self, List.set_cons_zero, List.replicate_succ', List.append_assoc]
  rfl

theorem lexFrom_all (ops : Array Oper) (n : Nat) (h : ∀ k, k < n → chk ops n k = true) (hend : (Region.ready .any ops (lst n n)).isEmpty = true) :
    ∀ (fuel k : Nat), k + fuel = n → Region.lexFrom .any ops fuel k (lst n k) = true
  | 0, k, e => by
    obtain rfl : k = n := by omega
    exact hend
  | fuel + 1, k, e => by
    have hk : k < n := by omega
    have hc := h k hk
    unfold chk at hc
    unfold Region.lexFrom
    rw [hc, lst_set n k hk, lexFrom_all ops n h hend fuel (k + 1) (by omega)]
    rfl

theorem lexB_of (ops : Array Oper) (n : Nat) (hn : ops.size = n) (hs : Region.noSelect ops = true) (h : ∀ k, k < n → chk ops n k = true) (hend : (Region.ready .any ops (lst n n)).isEmpty = true) : Region.lexB .any ops = true := by
  have e : Array.replicate ops.size false = lst n 0 := by
    unfold lst
    rw [hn]
    simp
  unfold Region.lexB
  rw [hs, e, hn, lexFrom_all ops n h hend n 0 (by omega)]
  rfl

theorem all5 (f : Nat → Bool) (a : Nat) (h : ([a, a + 1, a + 2, a + 3, a + 4].all f) = true) : ∀ k, a ≤ k → k < a + 5 → f k = true := by
  simp only [List.all_cons, List.all_nil, Bool.and_true, Bool.and_eq_true] at h
  obtain ⟨h0, h1, h2, h3, h4⟩ := h
  intro k ha hb
  rcases (by omega : k = a ∨ k = a + 1 ∨ k = a + 2 ∨ k = a + 3 ∨ k = a + 4) with rfl | rfl | rfl | rfl | rfl
  · exact h0
  · exact h1
  · exact h2
  · exact h3
  · exact h4

theorem lexAt0 : ∀ k, 0 ≤ k → k < 5 → chk (opsOf Try.f21 1).toArray 120 k = true := all5 _ 0 (by kernel_rfl)
theorem lexAt5 : ∀ k, 5 ≤ k → k < 10 → chk (opsOf Try.f21 1).toArray 120 k = true := all5 _ 5 (by kernel_rfl)
theorem lexAt10 : ∀ k, 10 ≤ k → k < 15 → chk (opsOf Try.f21 1).toArray 120 k = true := all5 _ 10 (by kernel_rfl)
theorem lexAt15 : ∀ k, 15 ≤ k → k < 20 → chk (opsOf Try.f21 1).toArray 120 k = true := all5 _ 15 (by kernel_rfl)
theorem lexAt20 : ∀ k, 20 ≤ k → k < 25 → chk (opsOf Try.f21 1).toArray 120 k = true := all5 _ 20 (by kernel_rfl)
theorem lexAt25 : ∀ k, 25 ≤ k → k < 30 → chk (opsOf Try.f21 1).toArray 120 k = true := all5 _ 25 (by kernel_rfl)
theorem lexAt30 : ∀ k, 30 ≤ k → k < 35 → chk (opsOf Try.f21 1).toArray 120 k = true := all5 _ 30 (by kernel_rfl)
theorem lexAt35 : ∀ k, 35 ≤ k → k < 40 → chk (opsOf Try.f21 1).toArray 120 k = true := all5 _ 35 (by kernel_rfl)
theorem lexAt40 : ∀ k, 40 ≤ k → k < 45 → chk (opsOf Try.f21 1).toArray 120 k = true := all5 _ 40 (by kernel_rfl)
theorem lexAt45 : ∀ k, 45 ≤ k → k < 50 → chk (opsOf Try.f21 1).toArray 120 k = true := all5 _ 45 (by kernel_rfl)
theorem lexAt50 : ∀ k, 50 ≤ k → k < 55 → chk (opsOf Try.f21 1).toArray 120 k = true := all5 _ 50 (by kernel_rfl)
theorem lexAt55 : ∀ k, 55 ≤ k → k < 60 → chk (opsOf Try.f21 1).toArray 120 k = true := all5 _ 55 (by kernel_rfl)
theorem lexAt60 : ∀ k, 60 ≤ k → k < 65 → chk (opsOf Try.f21 1).toArray 120 k = true := all5 _ 60 (by kernel_rfl)
theorem lexAt65 : ∀ k, 65 ≤ k → k < 70 → chk (opsOf Try.f21 1).toArray 120 k = true := all5 _ 65 (by kernel_rfl)
theorem lexAt70 : ∀ k, 70 ≤ k → k < 75 → chk (opsOf Try.f21 1).toArray 120 k = true := all5 _ 70 (by kernel_rfl)
theorem lexAt75 : ∀ k, 75 ≤ k → k < 80 → chk (opsOf Try.f21 1).toArray 120 k = true := all5 _ 75 (by kernel_rfl)
theorem lexAt80 : ∀ k, 80 ≤ k → k < 85 → chk (opsOf Try.f21 1).toArray 120 k = true := all5 _ 80 (by kernel_rfl)
theorem lexAt85 : ∀ k, 85 ≤ k → k < 90 → chk (opsOf Try.f21 1).toArray 120 k = true := all5 _ 85 (by kernel_rfl)
theorem lexAt90 : ∀ k, 90 ≤ k → k < 95 → chk (opsOf Try.f21 1).toArray 120 k = true := all5 _ 90 (by kernel_rfl)
theorem lexAt95 : ∀ k, 95 ≤ k → k < 100 → chk (opsOf Try.f21 1).toArray 120 k = true := all5 _ 95 (by kernel_rfl)
theorem lexAt100 : ∀ k, 100 ≤ k → k < 105 → chk (opsOf Try.f21 1).toArray 120 k = true := all5 _ 100 (by kernel_rfl)
theorem lexAt105 : ∀ k, 105 ≤ k → k < 110 → chk (opsOf Try.f21 1).toArray 120 k = true := all5 _ 105 (by kernel_rfl)
theorem lexAt110 : ∀ k, 110 ≤ k → k < 115 → chk (opsOf Try.f21 1).toArray 120 k = true := all5 _ 110 (by kernel_rfl)
theorem lexAt115 : ∀ k, 115 ≤ k → k < 120 → chk (opsOf Try.f21 1).toArray 120 k = true := all5 _ 115 (by kernel_rfl)

theorem lexAll : ∀ k, k < 120 → chk (opsOf Try.f21 1).toArray 120 k = true := fun k hk =>
  if h0 : k < 5 then lexAt0 k (by omega) h0 else
  if h5 : k < 10 then lexAt5 k (by omega) h5 else
  if h10 : k < 15 then lexAt10 k (by omega) h10 else
  if h15 : k < 20 then lexAt15 k (by omega) h15 else
  if h20 : k < 25 then lexAt20 k (by omega) h20 else
  if h25 : k < 30 then lexAt25 k (by omega) h25 else
  if h30 : k < 35 then lexAt30 k (by omega) h30 else
  if h35 : k < 40 then lexAt35 k (by omega) h35 else
  if h40 : k < 45 then lexAt40 k (by omega) h40 else
  if h45 : k < 50 then lexAt45 k (by omega) h45 else
  if h50 : k < 55 then lexAt50 k (by omega) h50 else
  if h55 : k < 60 then lexAt55 k (by omega) h55 else
  if h60 : k < 65 then lexAt60 k (by omega) h60 else
  if h65 : k < 70 then lexAt65 k (by omega) h65 else
  if h70 : k < 75 then lexAt70 k (by omega) h70 else
  if h75 : k < 80 then lexAt75 k (by omega) h75 else
  if h80 : k < 85 then lexAt80 k (by omega) h80 else
  if h85 : k < 90 then lexAt85 k (by omega) h85 else
  if h90 : k < 95 then lexAt90 k (by omega) h90 else
  if h95 : k < 100 then lexAt95 k (by omega) h95 else
  if h100 : k < 105 then lexAt100 k (by omega) h100 else
  if h105 : k < 110 then lexAt105 k (by omega) h105 else
  if h110 : k < 115 then lexAt110 k (by omega) h110 else
  lexAt115 k (by omega) (by omega)

theorem l5SameLex : Region.lexB .any (opsOf Try.f21 1).toArray = true := lexB_of _ 120 (by kernel_rfl) (by kernel_rfl) lexAll (by kernel_rfl)

end Go.Proofs.Ytlenpjbkbjdbeab
