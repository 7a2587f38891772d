/- What is proved here: the four lanes of a hash, given out byte by byte: what a row, two words' bytes and a state are to one another while the model appends them. -/
import Derived.Test.YtjdeobifhgdffaaDoorKcS
import Derived.Test.YtjdeobifhgdffaaDoorOwnG
import Derived.Test.YtjdeobifhgdffaaDoorCopy
import Derived.Deep.AppendLies
namespace Go.Proofs.YtjdeobifhgdffaaDoor
open Go.RowKit
set_option linter.unusedVariables false

/-- The bytes of the first lanes. -/
def hsh (Z : List Nat) : Nat → List Int
  | 0 => []
  | k + 1 => hsh Z k ++ wordBytes (loW (Z.getD k 0)) ++ wordBytes (hiW (Z.getD k 0))

theorem hsh_length (Z : List Nat) : ∀ k, (hsh Z k).length = 8 * k
  | 0 => rfl
  | k + 1 => by
    have := hsh_length Z k
    simp [hsh, wordBytes]
    omega

theorem eight (z : Nat) (hz : z < 18446744073709551616) : wordBytes (loW z) ++ wordBytes (hiW z) = (List.range 8).map fun i => ((z / 2 ^ (8 * i) % 256 : Nat) : Int) := by
  have e : (List.range 8).map (fun i => ((z / 2 ^ (8 * i) % 256 : Nat) : Int)) = [((z / 2 ^ (8 * 0) % 256 : Nat) : Int), ((z / 2 ^ (8 * 1) % 256 : Nat) : Int), ((z / 2 ^ (8 * 2) % 256 : Nat) : Int), ((z / 2 ^ (8 * 3) % 256 : Nat) : Int), ((z / 2 ^ (8 * 4) % 256 : Nat) : Int), ((z / 2 ^ (8 * 5) % 256 : Nat) : Int), ((z / 2 ^ (8 * 6) % 256 : Nat) : Int), ((z / 2 ^ (8 * 7) % 256 : Nat) : Int)] := rfl
  rw [e]
  unfold wordBytes loW hiW
  simp only [List.cons_append, List.nil_append, List.cons.injEq, and_true]
  rw [show 2 ^ (8 * 0) = 1 from rfl, show 2 ^ (8 * 1) = 256 from rfl, show 2 ^ (8 * 2) = 65536 from rfl, show 2 ^ (8 * 3) = 16777216 from rfl, show 2 ^ (8 * 5) = 1099511627776 from rfl, show 2 ^ (8 * 6) = 281474976710656 from rfl, show 2 ^ (8 * 7) = 72057594037927936 from rfl]
  refine ⟨?_, ?_, ?_, ?_, ?_, ?_, ?_, ?_⟩ <;> first | trivial | (refine congrArg (fun n : Nat => (n : Int)) ?_; omega)

theorem hash_hsh (Z : List Nat) (hZ : Lanes Z) : hashOf Z = hsh Z 4 := by
  have h0 := eight (Z.getD 0 0) (getD_lt hZ.2 (by decide) 0)
  have h1 := eight (Z.getD 1 0) (getD_lt hZ.2 (by decide) 1)
  have h2 := eight (Z.getD 2 0) (getD_lt hZ.2 (by decide) 2)
  have h3 := eight (Z.getD 3 0) (getD_lt hZ.2 (by decide) 3)
  have e : hsh Z 4 = (wordBytes (loW (Z.getD 0 0)) ++ wordBytes (hiW (Z.getD 0 0))) ++ ((wordBytes (loW (Z.getD 1 0)) ++ wordBytes (hiW (Z.getD 1 0))) ++ ((wordBytes (loW (Z.getD 2 0)) ++ wordBytes (hiW (Z.getD 2 0))) ++ (wordBytes (loW (Z.getD 3 0)) ++ wordBytes (hiW (Z.getD 3 0))))) := by
    simp [hsh, List.append_assoc]
  rw [e, h0, h1, h2, h3]
  rfl

/-- Four bytes in a block of their own. -/
def W4 (W : World) (B : Nat) (v : Value) (x : Nat) (o : Option Nat) : Prop := ∀ b, o = some b → b < W.heap.size ∧ B ≤ b ∧ v.ownBlock ≠ some b ∧ W.heap[b]? = some (.cells ((wordBytes x).map (Value.int .u8)).toArray 5 (0, 0))

/-- What holds while two words' bytes are appended. -/
def Inv (w W : World) (g B : Nat) (t : TypeId) (Z : List Nat) (v : Value) (n : Nat) (L : List Int) (lo hi : Nat) (oA oB : Option Nat) : Prop :=
  LBlk W g Z t ∧ Below g w W ∧ B ≤ W.heap.size ∧ g < B ∧ W.ownsRow B 5 1 v n (L.map (Value.int .u8)) ∧ W4 W B v lo oA ∧ W4 W B v hi oB

theorem byt_any (x : Nat) (hx : x < 4294967296) (W : World) :
    Calls Tryd.prog 55 #[.int .i64 (x : Int)] W fun e W1 => ∃ b, e = .returned (.slice (some ⟨b, 0, none⟩) 4 4) ∧ b = W.heap.size ∧ W1.heap[b]? = some (.cells ((wordBytes x).map (Value.int .u8)).toArray 5 (0, 0)) ∧ Below W.heap.size W W1 ∧ W1.heap.size = W.heap.size + 1 := by
  refine (l2Bytes_any x hx W).mono ?_
  rintro e w' ⟨rfl, rfl⟩
  refine ⟨_, rfl, rfl, ?_, below_alloc W _, by simp⟩
  show (W.heap.push _)[W.heap.size]? = _
  simp

theorem W4.below {W W1 : World} {B : Nat} {v : Value} {x : Nat} {o : Option Nat} (h : W4 W B v x o) (hb : Below W.heap.size W W1) : W4 W1 B v x o := fun b e => by
  obtain ⟨h1, h2, h3, h4⟩ := h b e
  exact ⟨Nat.lt_of_lt_of_le h1 hb.size, h2, h3, (hb.block b h1).trans h4⟩

theorem Inv.step {w W W1 : World} {g B : Nat} {t : TypeId} {Z : List Nat} {v : Value} {n : Nat} {L : List Int} {lo hi : Nat} {oA oB : Option Nat} (h : Inv w W g B t Z v n L lo hi oA oB) (hb : Below W.heap.size W W1) : Inv w W1 g B t Z v n L lo hi oA oB := by
  obtain ⟨h1, h2, h3, h4, h5, h6, h7⟩ := h
  exact ⟨Blk.below h1 hb (by omega), h2.trans (hb.mono (by omega)), Nat.le_trans h3 hb.size, h4, own_below h5 hb (Nat.le_refl _), h6.below hb, h7.below hb⟩

theorem W4.new {W W1 : World} {B b n : Nat} {v : Value} {x : Nat} {L : List Value} (hown : W.ownsRow B 5 1 v n L) (hB : B ≤ W.heap.size) (e : b = W.heap.size) (hc : W1.heap[b]? = some (.cells ((wordBytes x).map (Value.int .u8)).toArray 5 (0, 0))) (hs : W1.heap.size = W.heap.size + 1) : W4 W1 B v x (some b) := fun c hcb => by
  obtain rfl := Option.some.inj hcb
  refine ⟨by omega, by omega, fun hv => ?_, hc⟩
  have := (hown.lt _ hv).2
  omega

theorem Inv.callA {w W W1 : World} {g B b : Nat} {t : TypeId} {Z : List Nat} {v : Value} {n : Nat} {L : List Int} {lo hi : Nat} {oA oB : Option Nat} (h : Inv w W g B t Z v n L lo hi oA oB) (e : b = W.heap.size) (hc : W1.heap[b]? = some (.cells ((wordBytes lo).map (Value.int .u8)).toArray 5 (0, 0))) (hb : Below W.heap.size W W1) (hs : W1.heap.size = W.heap.size + 1) :
    Inv w W1 g B t Z v n L lo hi (some b) oB := by
  have n4 := W4.new h.2.2.2.2.1 h.2.2.1 e hc hs
  obtain ⟨h1, h2, h3, h4, h5, h6, h7⟩ := h.step hb
  exact ⟨h1, h2, h3, h4, h5, n4, h7⟩

theorem Inv.callB {w W W1 : World} {g B b : Nat} {t : TypeId} {Z : List Nat} {v : Value} {n : Nat} {L : List Int} {lo hi : Nat} {oA oB : Option Nat} (h : Inv w W g B t Z v n L lo hi oA oB) (e : b = W.heap.size) (hc : W1.heap[b]? = some (.cells ((wordBytes hi).map (Value.int .u8)).toArray 5 (0, 0))) (hb : Below W.heap.size W W1) (hs : W1.heap.size = W.heap.size + 1) :
    Inv w W1 g B t Z v n L lo hi oA (some b) := by
  have n4 := W4.new h.2.2.2.2.1 h.2.2.1 e hc hs
  obtain ⟨h1, h2, h3, h4, h5, h6, h7⟩ := h.step hb
  exact ⟨h1, h2, h3, h4, h5, h6, n4⟩

/-- What an append leaves. -/
theorem Inv.app {w W W2 : World} {g B g2 cap2 : Nat} {t : TypeId} {Z : List Nat} {v : Value} {n : Nat} {L N : List Int} {lo hi : Nat} {oA oB : Option Nat} (h : Inv w W g B t Z v n L lo hi oA oB)
    (hown : W2.ownsRow B 5 1 (.slice (some ⟨g2, 0, none⟩) (n + 4) cap2) (n + 4) (L.map (Value.int .u8) ++ N.map (Value.int .u8))) (hg : W.grownBy W2 v.ownBlock) (hat : v.ownBlock = some g2 ∨ g2 = W.heap.size) :
    Inv w W2 g B t Z (.slice (some ⟨g2, 0, none⟩) (n + 4) cap2) (n + 4) (L ++ N) lo hi oA oB := by
  obtain ⟨h1, h2, h3, h4, h5, h6, h7⟩ := h
  have key : ∀ b, v.ownBlock = some b → B ≤ b := fun b e => (h5.lt b e).1
  have w4 : ∀ x o, W4 W B v x o → W4 W2 B (.slice (some ⟨g2, 0, none⟩) (n + 4) cap2) x o := by
    intro x o hw b e
    obtain ⟨k1, k2, k3, k4⟩ := hw b e
    refine ⟨Nat.lt_of_lt_of_le k1 hg.size, k2, fun e2 => ?_, (hg.block b k1 (fun e3 => k3 e3.symm)).trans k4⟩
    have e2' : g2 = b := Option.some.inj e2
    subst e2'
    rcases hat with e3 | e3
    · exact k3 e3
    · omega
  refine ⟨?_, h2.grown hg (by omega) (fun b e => by have := key b e; omega), Nat.le_trans h3 hg.size, h4, by rw [List.map_append]; exact hown, w4 lo oA h6, w4 hi oB h7⟩
  unfold LBlk Blk
  rw [hg.block g (by omega) (fun e => by have := key g e.symm; omega)]
  exact h1

theorem Inv.newsA {w W : World} {g B b : Nat} {t : TypeId} {Z : List Nat} {v : Value} {n : Nat} {L : List Int} {lo hi : Nat} {oB : Option Nat} (h : Inv w W g B t Z v n L lo hi (some b) oB) : ∀ j u, ((wordBytes lo).map (Value.int .u8))[j]? = some u → W.cell? ((⟨b, 0, none⟩ : Addr).add j) = some u := by
  have := World.news_of_block (h.2.2.2.2.2.1 b rfl).2.2.2
  simpa using this

theorem Inv.newsB {w W : World} {g B b : Nat} {t : TypeId} {Z : List Nat} {v : Value} {n : Nat} {L : List Int} {lo hi : Nat} {oA : Option Nat} (h : Inv w W g B t Z v n L lo hi oA (some b)) : ∀ j u, ((wordBytes hi).map (Value.int .u8))[j]? = some u → W.cell? ((⟨b, 0, none⟩ : Addr).add j) = some u := by
  have := World.news_of_block (h.2.2.2.2.2.2 b rfl).2.2.2
  simpa using this

theorem Inv.drew {w W : World} {g B : Nat} {t : TypeId} {Z : List Nat} {v : Value} {n : Nat} {L : List Int} {lo hi : Nat} {oA oB : Option Nat} (h : Inv w W g B t Z v n L lo hi oA oB) : Inv w W.drew g B t Z v n L lo hi oA oB :=
  h.step (Below.refl _ _).drew

end Go.Proofs.YtjdeobifhgdffaaDoor
