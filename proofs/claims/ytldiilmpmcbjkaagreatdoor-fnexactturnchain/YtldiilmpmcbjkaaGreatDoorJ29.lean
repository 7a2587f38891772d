/- What is proved here: the laws' helper functions that mark entries and stores that a call made write nothing else, and answer a number (markEntryS, markStore). -/
import Derived.Test.YtldiilmpmcbjkaaGreatDoorJ28
import Derived.Test.YtldiilmpmcbjkaaGreatDoorJ15
namespace Go.Proofs.YtldiilmpmcbjkaaGreatDoor
open Go.RowKit
set_option linter.unusedVariables false
set_option linter.unusedSimpArgs false
set_option maxRecDepth 100000

theorem pairL {α β α' β' : Type} {K : Kd α β} {L : Kd α' β'} {w w' : World} {B : Nat} {d : Nat → Path} {q : Path} {e : β × β'} {x : α × α'} {y : α} (h : (pairK K L).Own w B d q e x) (n : K.Own w' B d (q ++ [0]) e.1 y) (o : OnlyP B d (q ++ [0]) w w') : (pairK K L).Own w' B d q e (y, x.2) :=
  ⟨n, L.apart h.2 o (fun c h1 h2 => pre_snoc q c 1 0 (by omega) h1 h2)⟩

theorem pairR {α β α' β' : Type} {K : Kd α β} {L : Kd α' β'} {w w' : World} {B : Nat} {d : Nat → Path} {q : Path} {e : β × β'} {x : α × α'} {y : α'} (h : (pairK K L).Own w B d q e x) (n : L.Own w' B d (q ++ [1]) e.2 y) (o : OnlyP B d (q ++ [1]) w w') : (pairK K L).Own w' B d q e (x.1, y) :=
  ⟨K.apart h.1 o (fun c h1 h2 => pre_snoc q c 0 1 (by omega) h1 h2), n⟩

/-- All bytes and numbers of an entry. -/
def enTot (x : En) : Nat := hTot x.1 + x.2.1.length + x.2.2.2.length

theorem hdUp_p {w w' : World} {B : Nat} {d : Nat → Path} {q : Path} {e : HS} {x : Hd} {y : List Int} (h : hdK.Own w B d q e x) (n : BOwn w' B d (q ++ [0]) e.p y) (o : OnlyP B d (q ++ [0]) w w') : hdK.Own w' B d q e { x with p := y } :=
  (pairL (h) n o)

theorem hdUp_t {w w' : World} {B : Nat} {d : Nat → Path} {q : Path} {e : HS} {x : Hd} {y : List Int} (h : hdK.Own w B d q e x) (n : BOwn w' B d (q ++ [1] ++ [1] ++ [1] ++ [1] ++ [0]) e.t y) (o : OnlyP B d (q ++ [1] ++ [1] ++ [1] ++ [1] ++ [0]) w w') : hdK.Own w' B d q e { x with t := y } :=
  (pairR (h) (pairR (h.2) (pairR (h.2.2) (pairR (h.2.2.2) (pairL (h.2.2.2.2) n o) o.up) o.up.up) o.up.up.up) o.up.up.up.up)

theorem hdUp_s {w w' : World} {B : Nat} {d : Nat → Path} {q : Path} {e : HS} {x : Hd} {y : List (List Int)} (h : hdK.Own w B d q e x) (n : RowOwn bytesK 60 w' B d (q ++ [1] ++ [1] ++ [1] ++ [1] ++ [1] ++ [1] ++ [0]) e.s y) (o : OnlyP B d (q ++ [1] ++ [1] ++ [1] ++ [1] ++ [1] ++ [1] ++ [0]) w w') : hdK.Own w' B d q e { x with s := y } :=
  (pairR (h) (pairR (h.2) (pairR (h.2.2) (pairR (h.2.2.2) (pairR (h.2.2.2.2) (pairR (h.2.2.2.2.2) (pairL (h.2.2.2.2.2.2) n o) o.up) o.up.up) o.up.up.up) o.up.up.up.up) o.up.up.up.up.up) o.up.up.up.up.up.up)

theorem hdUp_r {w w' : World} {B : Nat} {d : Nat → Path} {q : Path} {e : HS} {x : Hd} {y : List Int} (h : hdK.Own w B d q e x) (n : BOwn w' B d (q ++ [1] ++ [1] ++ [1] ++ [1] ++ [1] ++ [1] ++ [1] ++ [0]) e.r y) (o : OnlyP B d (q ++ [1] ++ [1] ++ [1] ++ [1] ++ [1] ++ [1] ++ [1] ++ [0]) w w') : hdK.Own w' B d q e { x with r := y } :=
  (pairR (h) (pairR (h.2) (pairR (h.2.2) (pairR (h.2.2.2) (pairR (h.2.2.2.2) (pairR (h.2.2.2.2.2) (pairR (h.2.2.2.2.2.2) (pairL (h.2.2.2.2.2.2.2) n o) o.up) o.up.up) o.up.up.up) o.up.up.up.up) o.up.up.up.up.up) o.up.up.up.up.up.up) o.up.up.up.up.up.up.up)

theorem hdUp_g {w w' : World} {B : Nat} {d : Nat → Path} {q : Path} {e : HS} {x : Hd} {y : List Int} (h : hdK.Own w B d q e x) (n : BOwn w' B d (q ++ [1] ++ [1] ++ [1] ++ [1] ++ [1] ++ [1] ++ [1] ++ [1] ++ [0]) e.g y) (o : OnlyP B d (q ++ [1] ++ [1] ++ [1] ++ [1] ++ [1] ++ [1] ++ [1] ++ [1] ++ [0]) w w') : hdK.Own w' B d q e { x with g := y } :=
  (pairR (h) (pairR (h.2) (pairR (h.2.2) (pairR (h.2.2.2) (pairR (h.2.2.2.2) (pairR (h.2.2.2.2.2) (pairR (h.2.2.2.2.2.2) (pairR (h.2.2.2.2.2.2.2) (pairL (h.2.2.2.2.2.2.2.2) n o) o.up) o.up.up) o.up.up.up) o.up.up.up.up) o.up.up.up.up.up) o.up.up.up.up.up.up) o.up.up.up.up.up.up.up) o.up.up.up.up.up.up.up.up)

theorem hdUp_e {w w' : World} {B : Nat} {d : Nat → Path} {q : Path} {e : HS} {x : Hd} {y : List Int} (h : hdK.Own w B d q e x) (n : BOwn w' B d (q ++ [1] ++ [1] ++ [1] ++ [1] ++ [1] ++ [1] ++ [1] ++ [1] ++ [1] ++ [0]) e.e y) (o : OnlyP B d (q ++ [1] ++ [1] ++ [1] ++ [1] ++ [1] ++ [1] ++ [1] ++ [1] ++ [1] ++ [0]) w w') : hdK.Own w' B d q e { x with e := y } :=
  (pairR (h) (pairR (h.2) (pairR (h.2.2) (pairR (h.2.2.2) (pairR (h.2.2.2.2) (pairR (h.2.2.2.2.2) (pairR (h.2.2.2.2.2.2) (pairR (h.2.2.2.2.2.2.2) (pairR (h.2.2.2.2.2.2.2.2) (pairL (h.2.2.2.2.2.2.2.2.2) n o) o.up) o.up.up) o.up.up.up) o.up.up.up.up) o.up.up.up.up.up) o.up.up.up.up.up.up) o.up.up.up.up.up.up.up) o.up.up.up.up.up.up.up.up) o.up.up.up.up.up.up.up.up.up)

theorem hdUp_k {w w' : World} {B : Nat} {d : Nat → Path} {q : Path} {e : HS} {x : Hd} {y : List (List Int)} (h : hdK.Own w B d q e x) (n : RowOwn bytesK 60 w' B d (q ++ [1] ++ [1] ++ [1] ++ [1] ++ [1] ++ [1] ++ [1] ++ [1] ++ [1] ++ [1]) e.k y) (o : OnlyP B d (q ++ [1] ++ [1] ++ [1] ++ [1] ++ [1] ++ [1] ++ [1] ++ [1] ++ [1] ++ [1]) w w') : hdK.Own w' B d q e { x with k := y } :=
  (pairR (h) (pairR (h.2) (pairR (h.2.2) (pairR (h.2.2.2) (pairR (h.2.2.2.2) (pairR (h.2.2.2.2.2) (pairR (h.2.2.2.2.2.2) (pairR (h.2.2.2.2.2.2.2) (pairR (h.2.2.2.2.2.2.2.2) (pairR (h.2.2.2.2.2.2.2.2.2) n o) o.up) o.up.up) o.up.up.up) o.up.up.up.up) o.up.up.up.up.up) o.up.up.up.up.up.up) o.up.up.up.up.up.up.up) o.up.up.up.up.up.up.up.up) o.up.up.up.up.up.up.up.up.up)

/- stages -/

/-- While the entry at k is marked. -/
structure Stg (B : Nat) (d : Nat → Path) (p : Path) (s : Sl) (xs : List En) (k : Nat) (w wr : World) (L : List En) (x : En) : Prop where
  row : RowOwn enK 70 wr B d p s L
  at' : L[k]? = some x
  rest : ∀ j, k < j → L[j]? = xs[j]?
  len : L.length = xs.length
  only : OnlyP B d p w wr
  size : B ≤ wr.heap.size

theorem Stg.next {B : Nat} {d : Nat → Path} {p : Path} {s : Sl} {xs : List En} {k : Nat} {w wr : World} {L : List En} {x : En} (S : Stg B d p s xs k w wr L x) {x' : En} {w' : World} (row : RowOwn enK 70 w' B d p s (L.set k x')) (o : OnlyP B d p wr w') : Stg B d p s xs k w w' (L.set k x') x' :=
  ⟨row, List.getElem?_set_self (List.getElem?_eq_some_iff.1 S.at').1, fun j hj => by rw [List.getElem?_set_ne (by omega)]; exact S.rest j hj, by rw [List.length_set]; exact S.len, S.only.trans o, Nat.le_trans S.size o.1.size⟩

theorem Stg.cells {B : Nat} {d : Nat → Path} {p : Path} {s : Sl} {xs : List En} {k : Nat} {w wr : World} {L : List En} {x : En} (S : Stg B d p s xs k w wr L x) {b off : Nat} (ha : s.a = some ⟨b, off, none⟩) (c : Nat) (u : Value) (hu : ∀ e : EnS, (evals e x).toList[c]? = some u) : wr.cell? ⟨b, off + k * 14 + c, none⟩ = some u ∧ wr.frozen? ⟨b, off + k * 14 + c, none⟩ = false := by
  obtain ⟨b', off', e, ha', _, _, _, _, hcell, hfz, _⟩ := S.row.swap S.at'
  rw [ha] at ha'
  simp only [Option.some.injEq, Addr.mk.injEq, and_true] at ha'
  obtain ⟨rfl, rfl⟩ := ha'
  exact ⟨hcell c u (hu e), hfz _⟩

theorem Stg.block {B : Nat} {d : Nat → Path} {p : Path} {s : Sl} {xs : List En} {k : Nat} {w wr : World} {L : List En} {x : En} (S : Stg B d p s xs k w wr L x) {b off : Nat} (ha : s.a = some ⟨b, off, none⟩) : B ≤ b ∧ d b = p := by
  obtain ⟨b', off', e, ha', h1, _, h2, _⟩ := S.row.swap S.at'
  rw [ha] at ha'
  simp only [Option.some.injEq, Addr.mk.injEq, and_true] at ha'
  obtain ⟨rfl, rfl⟩ := ha'
  exact ⟨h1, h2⟩

theorem OnlyP.setRow {B : Nat} {d : Nat → Path} {p : Path} {w : World} {b : Nat} (hB : B ≤ b) (hd : d b = p) (o : Nat) (v : Value) : OnlyP B d p w (w.setCell ⟨b, o, none⟩ v) :=
  ⟨(Below.refl _ _).setCell hB v, fun g hg hs => heap_setCell_other w ⟨b, o, none⟩ g v (fun (e : g = b) => hs (by rw [e, hd]; exact List.prefix_rfl))⟩

theorem st_p {B : Nat} {d : Nat → Path} {p : Path} {s : Sl} {xs : List En} {k : Nat} {w wr : World} {L : List En} {x : En} (S : Stg B d p s xs k w wr L x) {b off : Nat} (ha : s.a = some ⟨b, off, none⟩) (q q' : Int) (hq0 : 0 ≤ q) (hq1 : q ≤ 16777216) (hl : x.1.p.length ≤ 1048576) (hq : q' = q + (x.1.p.length : Nat)) :
    ∃ sl : Sl, wr.cell? ⟨b, off + k * 14 + 0, none⟩ = some (.slice sl.a sl.n sl.c) ∧ Calls Tryz.prog 43 #[.slice sl.a sl.n sl.c, .int .i64 q] wr fun e w' => e = .returned (.int .i64 q') ∧ Stg B d p s xs k w w' (L.set k ({ x.1 with p := marks q x.1.p.length }, x.2)) ({ x.1 with p := marks q x.1.p.length }, x.2) := by
  obtain ⟨b', off', e, ha', hbB, hblt, hbd, hO, hcell, hfz, hst⟩ := S.row.swap S.at'
  rw [ha] at ha'
  simp only [Option.some.injEq, Addr.mk.injEq, and_true] at ha'
  obtain ⟨rfl, rfl⟩ := ha'
  refine ⟨e.1.p, hcell 0 _ rfl, (markB_p B d _ e.1.p x.1.p q wr hO.1.1 S.size hl hq0 (by omega)).mono ?_⟩
  rintro r w' ⟨rfl, n, o⟩
  exact ⟨by rw [hq], S.next (hst w' ({ x.1 with p := marks q x.1.p.length }, x.2) (o.up.up) (pairL hO (hdUp_p hO.1 n o) o.up) rfl) (o.up.up.up)⟩

theorem st_t {B : Nat} {d : Nat → Path} {p : Path} {s : Sl} {xs : List En} {k : Nat} {w wr : World} {L : List En} {x : En} (S : Stg B d p s xs k w wr L x) {b off : Nat} (ha : s.a = some ⟨b, off, none⟩) (q q' : Int) (hq0 : 0 ≤ q) (hq1 : q ≤ 16777216) (hl : x.1.t.length ≤ 1048576) (hq : q' = q + (x.1.t.length : Nat)) :
    ∃ sl : Sl, wr.cell? ⟨b, off + k * 14 + 4, none⟩ = some (.slice sl.a sl.n sl.c) ∧ Calls Tryz.prog 43 #[.slice sl.a sl.n sl.c, .int .i64 q] wr fun e w' => e = .returned (.int .i64 q') ∧ Stg B d p s xs k w w' (L.set k ({ x.1 with t := marks q x.1.t.length }, x.2)) ({ x.1 with t := marks q x.1.t.length }, x.2) := by
  obtain ⟨b', off', e, ha', hbB, hblt, hbd, hO, hcell, hfz, hst⟩ := S.row.swap S.at'
  rw [ha] at ha'
  simp only [Option.some.injEq, Addr.mk.injEq, and_true] at ha'
  obtain ⟨rfl, rfl⟩ := ha'
  refine ⟨e.1.t, hcell 4 _ rfl, (markB_p B d _ e.1.t x.1.t q wr hO.1.2.2.2.2.1 S.size hl hq0 (by omega)).mono ?_⟩
  rintro r w' ⟨rfl, n, o⟩
  exact ⟨by rw [hq], S.next (hst w' ({ x.1 with t := marks q x.1.t.length }, x.2) (o.up.up.up.up.up.up) (pairL hO (hdUp_t hO.1 n o) o.up.up.up.up.up) rfl) (o.up.up.up.up.up.up.up)⟩

theorem st_s {B : Nat} {d : Nat → Path} {p : Path} {s : Sl} {xs : List En} {k : Nat} {w wr : World} {L : List En} {x : En} (S : Stg B d p s xs k w wr L x) {b off : Nat} (ha : s.a = some ⟨b, off, none⟩) (q q' : Int) (hq0 : 0 ≤ q) (hq1 : q ≤ 16777216) (hl : x.1.s.length ≤ 1048576) (hl2 : bsum x.1.s ≤ 1048576) (hq : q' = q + (bsum x.1.s : Nat)) :
    ∃ sl : Sl, wr.cell? ⟨b, off + k * 14 + 6, none⟩ = some (.slice sl.a sl.n sl.c) ∧ Calls Tryz.prog 44 #[.slice sl.a sl.n sl.c, .int .i64 q] wr fun e w' => e = .returned (.int .i64 q') ∧ Stg B d p s xs k w w' (L.set k ({ x.1 with s := mkss q x.1.s }, x.2)) ({ x.1 with s := mkss q x.1.s }, x.2) := by
  obtain ⟨b', off', e, ha', hbB, hblt, hbd, hO, hcell, hfz, hst⟩ := S.row.swap S.at'
  rw [ha] at ha'
  simp only [Option.some.injEq, Addr.mk.injEq, and_true] at ha'
  obtain ⟨rfl, rfl⟩ := ha'
  refine ⟨e.1.s, hcell 6 _ rfl, (markSs_p B d _ e.1.s x.1.s q wr hO.1.2.2.2.2.2.2.1 S.size hl hl2 hq0 (by omega)).mono ?_⟩
  rintro r w' ⟨rfl, n, o⟩
  exact ⟨by rw [hq], S.next (hst w' ({ x.1 with s := mkss q x.1.s }, x.2) (o.up.up.up.up.up.up.up.up) (pairL hO (hdUp_s hO.1 n o) o.up.up.up.up.up.up.up) rfl) (o.up.up.up.up.up.up.up.up.up)⟩

theorem st_r {B : Nat} {d : Nat → Path} {p : Path} {s : Sl} {xs : List En} {k : Nat} {w wr : World} {L : List En} {x : En} (S : Stg B d p s xs k w wr L x) {b off : Nat} (ha : s.a = some ⟨b, off, none⟩) (q q' : Int) (hq0 : 0 ≤ q) (hq1 : q ≤ 16777216) (hl : x.1.r.length ≤ 1048576) (hq : q' = q + (x.1.r.length : Nat)) :
    ∃ sl : Sl, wr.cell? ⟨b, off + k * 14 + 7, none⟩ = some (.slice sl.a sl.n sl.c) ∧ Calls Tryz.prog 43 #[.slice sl.a sl.n sl.c, .int .i64 q] wr fun e w' => e = .returned (.int .i64 q') ∧ Stg B d p s xs k w w' (L.set k ({ x.1 with r := marks q x.1.r.length }, x.2)) ({ x.1 with r := marks q x.1.r.length }, x.2) := by
  obtain ⟨b', off', e, ha', hbB, hblt, hbd, hO, hcell, hfz, hst⟩ := S.row.swap S.at'
  rw [ha] at ha'
  simp only [Option.some.injEq, Addr.mk.injEq, and_true] at ha'
  obtain ⟨rfl, rfl⟩ := ha'
  refine ⟨e.1.r, hcell 7 _ rfl, (markB_p B d _ e.1.r x.1.r q wr hO.1.2.2.2.2.2.2.2.1 S.size hl hq0 (by omega)).mono ?_⟩
  rintro r w' ⟨rfl, n, o⟩
  exact ⟨by rw [hq], S.next (hst w' ({ x.1 with r := marks q x.1.r.length }, x.2) (o.up.up.up.up.up.up.up.up.up) (pairL hO (hdUp_r hO.1 n o) o.up.up.up.up.up.up.up.up) rfl) (o.up.up.up.up.up.up.up.up.up.up)⟩

theorem st_g {B : Nat} {d : Nat → Path} {p : Path} {s : Sl} {xs : List En} {k : Nat} {w wr : World} {L : List En} {x : En} (S : Stg B d p s xs k w wr L x) {b off : Nat} (ha : s.a = some ⟨b, off, none⟩) (q q' : Int) (hq0 : 0 ≤ q) (hq1 : q ≤ 16777216) (hl : x.1.g.length ≤ 1048576) (hq : q' = q + (x.1.g.length : Nat)) :
    ∃ sl : Sl, wr.cell? ⟨b, off + k * 14 + 8, none⟩ = some (.slice sl.a sl.n sl.c) ∧ Calls Tryz.prog 43 #[.slice sl.a sl.n sl.c, .int .i64 q] wr fun e w' => e = .returned (.int .i64 q') ∧ Stg B d p s xs k w w' (L.set k ({ x.1 with g := marks q x.1.g.length }, x.2)) ({ x.1 with g := marks q x.1.g.length }, x.2) := by
  obtain ⟨b', off', e, ha', hbB, hblt, hbd, hO, hcell, hfz, hst⟩ := S.row.swap S.at'
  rw [ha] at ha'
  simp only [Option.some.injEq, Addr.mk.injEq, and_true] at ha'
  obtain ⟨rfl, rfl⟩ := ha'
  refine ⟨e.1.g, hcell 8 _ rfl, (markB_p B d _ e.1.g x.1.g q wr hO.1.2.2.2.2.2.2.2.2.1 S.size hl hq0 (by omega)).mono ?_⟩
  rintro r w' ⟨rfl, n, o⟩
  exact ⟨by rw [hq], S.next (hst w' ({ x.1 with g := marks q x.1.g.length }, x.2) (o.up.up.up.up.up.up.up.up.up.up) (pairL hO (hdUp_g hO.1 n o) o.up.up.up.up.up.up.up.up.up) rfl) (o.up.up.up.up.up.up.up.up.up.up.up)⟩

theorem st_e {B : Nat} {d : Nat → Path} {p : Path} {s : Sl} {xs : List En} {k : Nat} {w wr : World} {L : List En} {x : En} (S : Stg B d p s xs k w wr L x) {b off : Nat} (ha : s.a = some ⟨b, off, none⟩) (q q' : Int) (hq0 : 0 ≤ q) (hq1 : q ≤ 16777216) (hl : x.1.e.length ≤ 1048576) (hq : q' = q + (x.1.e.length : Nat)) :
    ∃ sl : Sl, wr.cell? ⟨b, off + k * 14 + 9, none⟩ = some (.slice sl.a sl.n sl.c) ∧ Calls Tryz.prog 43 #[.slice sl.a sl.n sl.c, .int .i64 q] wr fun e w' => e = .returned (.int .i64 q') ∧ Stg B d p s xs k w w' (L.set k ({ x.1 with e := marks q x.1.e.length }, x.2)) ({ x.1 with e := marks q x.1.e.length }, x.2) := by
  obtain ⟨b', off', e, ha', hbB, hblt, hbd, hO, hcell, hfz, hst⟩ := S.row.swap S.at'
  rw [ha] at ha'
  simp only [Option.some.injEq, Addr.mk.injEq, and_true] at ha'
  obtain ⟨rfl, rfl⟩ := ha'
  refine ⟨e.1.e, hcell 9 _ rfl, (markB_p B d _ e.1.e x.1.e q wr hO.1.2.2.2.2.2.2.2.2.2.1 S.size hl hq0 (by omega)).mono ?_⟩
  rintro r w' ⟨rfl, n, o⟩
  exact ⟨by rw [hq], S.next (hst w' ({ x.1 with e := marks q x.1.e.length }, x.2) (o.up.up.up.up.up.up.up.up.up.up.up) (pairL hO (hdUp_e hO.1 n o) o.up.up.up.up.up.up.up.up.up.up) rfl) (o.up.up.up.up.up.up.up.up.up.up.up.up)⟩

theorem st_k {B : Nat} {d : Nat → Path} {p : Path} {s : Sl} {xs : List En} {k : Nat} {w wr : World} {L : List En} {x : En} (S : Stg B d p s xs k w wr L x) {b off : Nat} (ha : s.a = some ⟨b, off, none⟩) (q q' : Int) (hq0 : 0 ≤ q) (hq1 : q ≤ 16777216) (hl : x.1.k.length ≤ 1048576) (hl2 : bsum x.1.k ≤ 1048576) (hq : q' = q + (bsum x.1.k : Nat)) :
    ∃ sl : Sl, wr.cell? ⟨b, off + k * 14 + 10, none⟩ = some (.slice sl.a sl.n sl.c) ∧ Calls Tryz.prog 44 #[.slice sl.a sl.n sl.c, .int .i64 q] wr fun e w' => e = .returned (.int .i64 q') ∧ Stg B d p s xs k w w' (L.set k ({ x.1 with k := mkss q x.1.k }, x.2)) ({ x.1 with k := mkss q x.1.k }, x.2) := by
  obtain ⟨b', off', e, ha', hbB, hblt, hbd, hO, hcell, hfz, hst⟩ := S.row.swap S.at'
  rw [ha] at ha'
  simp only [Option.some.injEq, Addr.mk.injEq, and_true] at ha'
  obtain ⟨rfl, rfl⟩ := ha'
  refine ⟨e.1.k, hcell 10 _ rfl, (markSs_p B d _ e.1.k x.1.k q wr hO.1.2.2.2.2.2.2.2.2.2.2 S.size hl hl2 hq0 (by omega)).mono ?_⟩
  rintro r w' ⟨rfl, n, o⟩
  exact ⟨by rw [hq], S.next (hst w' ({ x.1 with k := mkss q x.1.k }, x.2) (o.up.up.up.up.up.up.up.up.up.up.up) (pairL hO (hdUp_k hO.1 n o) o.up.up.up.up.up.up.up.up.up.up) rfl) (o.up.up.up.up.up.up.up.up.up.up.up.up)⟩

theorem st_hash {B : Nat} {d : Nat → Path} {p : Path} {s : Sl} {xs : List En} {k : Nat} {w wr : World} {L : List En} {x : En} (S : Stg B d p s xs k w wr L x) {b off : Nat} (ha : s.a = some ⟨b, off, none⟩) (q q' : Int) (hq0 : 0 ≤ q) (hq1 : q ≤ 16777216) (hl : x.2.1.length ≤ 1048576) (hq : q' = q + (x.2.1.length : Nat)) :
    ∃ sl : Sl, wr.cell? ⟨b, off + k * 14 + 11, none⟩ = some (.slice sl.a sl.n sl.c) ∧ Calls Tryz.prog 43 #[.slice sl.a sl.n sl.c, .int .i64 q] wr fun e w' => e = .returned (.int .i64 q') ∧ Stg B d p s xs k w w' (L.set k (x.1, marks q x.2.1.length, x.2.2)) (x.1, marks q x.2.1.length, x.2.2) := by
  obtain ⟨b', off', e, ha', hbB, hblt, hbd, hO, hcell, hfz, hst⟩ := S.row.swap S.at'
  rw [ha] at ha'
  simp only [Option.some.injEq, Addr.mk.injEq, and_true] at ha'
  obtain ⟨rfl, rfl⟩ := ha'
  refine ⟨e.2.1, hcell 11 _ rfl, (markB_p B d _ e.2.1 x.2.1 q wr hO.2.1 S.size hl hq0 (by omega)).mono ?_⟩
  rintro r w' ⟨rfl, n, o⟩
  exact ⟨by rw [hq], S.next (hst w' (x.1, marks q x.2.1.length, x.2.2) (o.up.up) (pairR hO (pairL hO.2 n o) o.up) rfl) (o.up.up.up)⟩

theorem st_total {B : Nat} {d : Nat → Path} {p : Path} {s : Sl} {xs : List En} {k : Nat} {w wr : World} {L : List En} {x : En} (S : Stg B d p s xs k w wr L x) {b off : Nat} (ha : s.a = some ⟨b, off, none⟩) (q q' : Int) (hq0 : 0 ≤ q) (hq1 : q ≤ 16777216) (hl : x.2.2.2.length ≤ 1048576) (hq : q' = q + (x.2.2.2.length : Nat)) :
    ∃ sl : Sl, wr.cell? ⟨b, off + k * 14 + 13, none⟩ = some (.slice sl.a sl.n sl.c) ∧ Calls Tryz.prog 28 #[.slice sl.a sl.n sl.c, .int .i64 q] wr fun e w' => e = .returned (.int .i64 q') ∧ Stg B d p s xs k w w' (L.set k (x.1, x.2.1, x.2.2.1, imarks q x.2.2.2.length)) (x.1, x.2.1, x.2.2.1, imarks q x.2.2.2.length) := by
  obtain ⟨b', off', e, ha', hbB, hblt, hbd, hO, hcell, hfz, hst⟩ := S.row.swap S.at'
  rw [ha] at ha'
  simp only [Option.some.injEq, Addr.mk.injEq, and_true] at ha'
  obtain ⟨rfl, rfl⟩ := ha'
  refine ⟨e.2.2.2, hcell 13 _ rfl, (markI_p B d _ e.2.2.2 x.2.2.2 q wr hO.2.2.2 S.size hl hq0 (by omega)).mono ?_⟩
  rintro r w' ⟨rfl, n, o⟩
  exact ⟨by rw [hq], S.next (hst w' (x.1, x.2.1, x.2.2.1, imarks q x.2.2.2.length) (o.up.up.up) (pairR hO (pairR hO.2 (pairR hO.2.2 n o) o.up) o.up.up) rfl) (o.up.up.up.up)⟩

theorem st_n1 {B : Nat} {d : Nat → Path} {p : Path} {s : Sl} {xs : List En} {k : Nat} {w wr : World} {L : List En} {x : En} (S : Stg B d p s xs k w wr L x) {b off : Nat} (ha : s.a = some ⟨b, off, none⟩) (v : Int) (hv : in64 v) :
    (wr.cell? ⟨b, off + k * 14 + 1, none⟩ = some (.int .i64 x.1.n1) ∧ wr.frozen? ⟨b, off + k * 14 + 1, none⟩ = false) ∧ Stg B d p s xs k w (wr.setCell ⟨b, off + k * 14 + 1, none⟩ (.int .i64 v)) (L.set k ({ x.1 with n1 := v }, x.2)) ({ x.1 with n1 := v }, x.2) :=
  ⟨S.cells ha 1 _ (fun e => rfl), S.next (S.row.setAt S.at' ha 1 (by decide) _ _ (fun e => rfl) (fun w' e => by rintro ⟨⟨P, h1, h2, h3, T, h5, R1, R2, R3, R4, R5⟩, H, U, TT⟩; exact ⟨⟨P, hv, h2, h3, T, h5, R1, R2, R3, R4, R5⟩, H, U, TT⟩)) (OnlyP.setRow (S.block ha).1 (S.block ha).2 _ _)⟩

theorem st_n2 {B : Nat} {d : Nat → Path} {p : Path} {s : Sl} {xs : List En} {k : Nat} {w wr : World} {L : List En} {x : En} (S : Stg B d p s xs k w wr L x) {b off : Nat} (ha : s.a = some ⟨b, off, none⟩) (v : Int) (hv : in64 v) :
    (wr.cell? ⟨b, off + k * 14 + 2, none⟩ = some (.int .i64 x.1.n2) ∧ wr.frozen? ⟨b, off + k * 14 + 2, none⟩ = false) ∧ Stg B d p s xs k w (wr.setCell ⟨b, off + k * 14 + 2, none⟩ (.int .i64 v)) (L.set k ({ x.1 with n2 := v }, x.2)) ({ x.1 with n2 := v }, x.2) :=
  ⟨S.cells ha 2 _ (fun e => rfl), S.next (S.row.setAt S.at' ha 2 (by decide) _ _ (fun e => rfl) (fun w' e => by rintro ⟨⟨P, h1, h2, h3, T, h5, R1, R2, R3, R4, R5⟩, H, U, TT⟩; exact ⟨⟨P, h1, hv, h3, T, h5, R1, R2, R3, R4, R5⟩, H, U, TT⟩)) (OnlyP.setRow (S.block ha).1 (S.block ha).2 _ _)⟩

theorem st_n3 {B : Nat} {d : Nat → Path} {p : Path} {s : Sl} {xs : List En} {k : Nat} {w wr : World} {L : List En} {x : En} (S : Stg B d p s xs k w wr L x) {b off : Nat} (ha : s.a = some ⟨b, off, none⟩) (v : Int) (hv : in64 v) :
    (wr.cell? ⟨b, off + k * 14 + 3, none⟩ = some (.int .i64 x.1.n3) ∧ wr.frozen? ⟨b, off + k * 14 + 3, none⟩ = false) ∧ Stg B d p s xs k w (wr.setCell ⟨b, off + k * 14 + 3, none⟩ (.int .i64 v)) (L.set k ({ x.1 with n3 := v }, x.2)) ({ x.1 with n3 := v }, x.2) :=
  ⟨S.cells ha 3 _ (fun e => rfl), S.next (S.row.setAt S.at' ha 3 (by decide) _ _ (fun e => rfl) (fun w' e => by rintro ⟨⟨P, h1, h2, h3, T, h5, R1, R2, R3, R4, R5⟩, H, U, TT⟩; exact ⟨⟨P, h1, h2, hv, T, h5, R1, R2, R3, R4, R5⟩, H, U, TT⟩)) (OnlyP.setRow (S.block ha).1 (S.block ha).2 _ _)⟩

theorem st_n5 {B : Nat} {d : Nat → Path} {p : Path} {s : Sl} {xs : List En} {k : Nat} {w wr : World} {L : List En} {x : En} (S : Stg B d p s xs k w wr L x) {b off : Nat} (ha : s.a = some ⟨b, off, none⟩) (v : Int) (hv : in64 v) :
    (wr.cell? ⟨b, off + k * 14 + 5, none⟩ = some (.int .i64 x.1.n5) ∧ wr.frozen? ⟨b, off + k * 14 + 5, none⟩ = false) ∧ Stg B d p s xs k w (wr.setCell ⟨b, off + k * 14 + 5, none⟩ (.int .i64 v)) (L.set k ({ x.1 with n5 := v }, x.2)) ({ x.1 with n5 := v }, x.2) :=
  ⟨S.cells ha 5 _ (fun e => rfl), S.next (S.row.setAt S.at' ha 5 (by decide) _ _ (fun e => rfl) (fun w' e => by rintro ⟨⟨P, h1, h2, h3, T, h5, R1, R2, R3, R4, R5⟩, H, U, TT⟩; exact ⟨⟨P, h1, h2, h3, T, hv, R1, R2, R3, R4, R5⟩, H, U, TT⟩)) (OnlyP.setRow (S.block ha).1 (S.block ha).2 _ _)⟩

theorem st_up {B : Nat} {d : Nat → Path} {p : Path} {s : Sl} {xs : List En} {k : Nat} {w wr : World} {L : List En} {x : En} (S : Stg B d p s xs k w wr L x) {b off : Nat} (ha : s.a = some ⟨b, off, none⟩) (v : Int) (hv : in64 v) :
    (wr.cell? ⟨b, off + k * 14 + 12, none⟩ = some (.int .i64 x.2.2.1) ∧ wr.frozen? ⟨b, off + k * 14 + 12, none⟩ = false) ∧ Stg B d p s xs k w (wr.setCell ⟨b, off + k * 14 + 12, none⟩ (.int .i64 v)) (L.set k (x.1, x.2.1, v, x.2.2.2)) (x.1, x.2.1, v, x.2.2.2) :=
  ⟨S.cells ha 12 _ (fun e => rfl), S.next (S.row.setAt S.at' ha 12 (by decide) _ _ (fun e => rfl) (fun w' e => by rintro ⟨⟨P, h1, h2, h3, T, h5, R1, R2, R3, R4, R5⟩, H, U, TT⟩; exact ⟨⟨P, h1, h2, h3, T, h5, R1, R2, R3, R4, R5⟩, H, hv, TT⟩)) (OnlyP.setRow (S.block ha).1 (S.block ha).2 _ _)⟩

set_option maxHeartbeats 16000000 in
theorem markEntryS_any (B : Nat) (d : Nat → Path) (p : Path) (s : Sl) (xs : List En) (k0 : Int) (w : World) (h : RowOwn enK 70 w B d p s xs) (hB : B ≤ w.heap.size) (hl : xs.length ≤ 1048576) (hs : lsum enTot xs ≤ 1048576) (hz : ∀ x ∈ xs, EnSm x) (hk0 : 0 ≤ k0) (hk1 : k0 ≤ 1048576) :
    Calls Tryz.prog 27 #[.slice s.a s.n s.c, .int .i64 k0] w fun e w' => (∃ r : Int, e = .returned (.int .i64 r) ∧ 0 ≤ r ∧ r ≤ 16777216) ∧ OnlyP B d p w w' := by
  obtain ⟨sa, n, cp⟩ := s
  have hn : n = xs.length := h.1
  rcases Nat.eq_zero_or_pos n with h0 | hp
  · subst h0
    clear h hs hz
    go_enter Tryz.func27, Tryz.ntmps27
    go_wp2_with fail
    refine wp_loop_rounds 1 ?_
    rw [rounds_succ]
    go_wp2_with fail
    go_ret
    exact ⟨⟨k0, rfl, hk0, by omega⟩, OnlyP.refl _ _ _ _⟩
  obtain ⟨b, off, ha⟩ : ∃ b off, sa = some ⟨b, off, none⟩ := by
    obtain ⟨_, es, vs, _, h3, _⟩ := h
    obtain ⟨b, off, ha, _⟩ := h3.pos hp
    exact ⟨b, off, ha⟩
  subst ha
  have HM := hide h
  have HL := hide hn
  have HZ := hide hz
  have HS0 := hide hs
  have hln : n ≤ 1048576 := by omega
  clear h hn hz hl hs
  go_enter Tryz.func27, Tryz.ntmps27
  go_wp2_with fail
  go_loopw [1, 5] (fun qv i wr => ∃ (k : Nat) (Q : Int) (L : List En), k ≤ n ∧ i = .int .i64 k ∧ qv = .int .i64 Q ∧ 0 ≤ Q ∧ Q ≤ k0 + (lsum enTot (xs.take k) : Nat) + 5 * (k : Int) ∧ RowOwn enK 70 wr B d p ⟨some ⟨b, off, none⟩, n, cp⟩ L ∧ L.length = xs.length ∧ (∀ j, k ≤ j → L[j]? = xs[j]?) ∧ OnlyP B d p w wr) (fun _ i _ => n - (intOf i).toNat)
  case atStart => exact ⟨0, k0, xs, Nat.zero_le _, rfl, rfl, hk0, by simp [lsum], unhide HM, rfl, fun _ _ => rfl, OnlyP.refl _ _ _ _⟩
  case round =>
    obtain ⟨k, Q0, L, hk, rfl, rfl, hQ0, hQ1, hrow, hLl, hrest, honly⟩ := hrel
    clear HM
    have htk := lsum_take enTot xs k
    have hs := unhide HS0
    by_cases hlt : k < n
    · obtain ⟨x0, hx0⟩ : ∃ x, xs[k]? = some x := ⟨_, List.getElem?_eq_getElem (by rw [← unhide HL]; exact hlt)⟩
      have hsum := lsum_succ enTot xs k x0 hx0
      have htk1 := lsum_take enTot xs (k + 1)
      have HSUM := hide hsum
      have mx := (unhide HZ) x0 (List.mem_of_getElem? hx0)
      have hS := mx.h.s
      have hK := mx.h.k
      have S0 : Stg B d p ⟨some ⟨b, off, none⟩, n, cp⟩ xs k w wr L x0 := ⟨hrow, (hrest k (Nat.le_refl _)).trans hx0, fun j hj => hrest j (by omega), hLl, honly, Nat.le_trans hB honly.1.size⟩
      have tot : enTot x0 = x0.1.p.length + x0.1.t.length + bsum x0.1.s + x0.1.r.length + x0.1.g.length + x0.1.e.length + bsum x0.1.k + x0.2.1.length + x0.2.2.2.length := rfl
      have m_p : x0.1.p.length ≤ 1048576 := by omega
      have m_t : x0.1.t.length ≤ 1048576 := by omega
      have m_s := hS
      have m_r : x0.1.r.length ≤ 1048576 := by omega
      have m_g : x0.1.g.length ≤ 1048576 := by omega
      have m_e : x0.1.e.length ≤ 1048576 := by omega
      have m_k := hK
      have m_hash : x0.2.1.length ≤ 1048576 := by omega
      have m_total : x0.2.2.2.length ≤ 1048576 := by omega
      have i1 : (0 : Int) ≤ (k : Int) := by omega
      have i2 : (k : Int) < (n : Int) := by omega
      have bq0 : 0 ≤ Q0 ∧ Q0 ≤ 8388608 := by omega
      have bT : enTot x0 ≤ 1048576 := by omega
      clear hrow hrest honly hLl hx0 mx hS hK
      have R0 : x0.1.p = x0.1.p ∧ x0.1.t = x0.1.t ∧ x0.1.s = x0.1.s ∧ x0.1.r = x0.1.r ∧ x0.1.g = x0.1.g ∧ x0.1.e = x0.1.e ∧ x0.1.k = x0.1.k ∧ x0.2.1 = x0.2.1 ∧ x0.2.2.2 = x0.2.2.2 := ⟨rfl, rfl, rfl, rfl, rfl, rfl, rfl, rfl, rfl⟩
      obtain ⟨f_p, f_t, f_s, f_r, f_g, f_e, f_k, f_hash, f_total⟩ := R0
      obtain ⟨Q1, eQ1⟩ : ∃ q : Int, q = Q0 + (x0.1.p.length : Nat) := ⟨_, rfl⟩
      have eS0 : x0.1.p.length = x0.1.p.length := by rw [f_p]
      obtain ⟨sl0, hc0, D0⟩ := st_p S0 rfl Q0 Q1 (by omega) (by omega) (by rw [f_p]; exact m_p) eQ1
      have H0 := hide D0
      have uq1 : Q1 ≤ Q0 + ((x0.1.p.length : Nat) : Int) + 0 := by omega
      have bq1 : 0 ≤ Q1 ∧ Q1 ≤ 16777216 := by omega
      have RR0 := hide (show x0.1.t = x0.1.t ∧ x0.1.s = x0.1.s ∧ x0.1.r = x0.1.r ∧ x0.1.g = x0.1.g ∧ x0.1.e = x0.1.e ∧ x0.1.k = x0.1.k ∧ x0.2.1 = x0.2.1 ∧ x0.2.2.2 = x0.2.2.2 from ⟨f_t, f_s, f_r, f_g, f_e, f_k, f_hash, f_total⟩)
      simp only [Nat.add_zero] at hc0
      clear D0 S0 f_p f_t f_s f_r f_g f_e f_k f_hash f_total
      clear eQ1 eS0
      go_wp2_with fail
      refine (unhide H0).mono ?_
      rintro ee w1 ⟨rfl, T0⟩
      obtain ⟨L1, x1, S1, R1⟩ : ∃ L' x', Stg B d p ⟨some ⟨b, off, none⟩, n, cp⟩ xs k w w1 L' x' ∧ (x'.1.t = x0.1.t ∧ x'.1.s = x0.1.s ∧ x'.1.r = x0.1.r ∧ x'.1.g = x0.1.g ∧ x'.1.e = x0.1.e ∧ x'.1.k = x0.1.k ∧ x'.2.1 = x0.2.1 ∧ x'.2.2.2 = x0.2.2.2) := ⟨_, _, T0, ⟨rfl, rfl, rfl, rfl, rfl, rfl, rfl, rfl⟩⟩
      clear T0 RR0 H0 hc0
      obtain ⟨⟨hc1, hf1⟩, T1⟩ := st_n1 S1 rfl Q1 ⟨by omega, by omega⟩
      obtain ⟨w2, ew2⟩ : ∃ W, w1.setCell ⟨b, off + k * 14 + 1, none⟩ (.int .i64 Q1) = W := ⟨_, rfl⟩
      rw [ew2] at T1
      obtain ⟨L2, x2, S2, R2'⟩ : ∃ L' x', Stg B d p ⟨some ⟨b, off, none⟩, n, cp⟩ xs k w w2 L' x' ∧ (x'.1.t = x0.1.t ∧ x'.1.s = x0.1.s ∧ x'.1.r = x0.1.r ∧ x'.1.g = x0.1.g ∧ x'.1.e = x0.1.e ∧ x'.1.k = x0.1.k ∧ x'.2.1 = x0.2.1 ∧ x'.2.2.2 = x0.2.2.2) := ⟨_, _, T1, R1⟩
      have HS2 := hide (And.intro S2 R2')
      have EW2 := hide ew2
      clear T1 S2 R2' R1 S1 ew2
      go_upto_region 7 with fail
      rw [unhide EW2]
      obtain ⟨Q2, eQ2⟩ : ∃ q : Int, Q1 + 1 = q := ⟨_, rfl⟩
      rw [eQ2]
      have uq2 : Q2 ≤ Q0 + ((x0.1.p.length : Nat) : Int) + 1 := by omega
      have bq2 : 0 ≤ Q2 ∧ Q2 ≤ 16777216 := by omega
      clear eQ2 uq1
      obtain ⟨S2, R2⟩ := unhide HS2
      clear HS2 EW2 hc1 hf1
      obtain ⟨⟨hc2, hf2⟩, T2⟩ := st_n2 S2 rfl Q2 ⟨by omega, by omega⟩
      obtain ⟨w3, ew3⟩ : ∃ W, w2.setCell ⟨b, off + k * 14 + 2, none⟩ (.int .i64 Q2) = W := ⟨_, rfl⟩
      rw [ew3] at T2
      obtain ⟨L3, x3, S3, R3'⟩ : ∃ L' x', Stg B d p ⟨some ⟨b, off, none⟩, n, cp⟩ xs k w w3 L' x' ∧ (x'.1.t = x0.1.t ∧ x'.1.s = x0.1.s ∧ x'.1.r = x0.1.r ∧ x'.1.g = x0.1.g ∧ x'.1.e = x0.1.e ∧ x'.1.k = x0.1.k ∧ x'.2.1 = x0.2.1 ∧ x'.2.2.2 = x0.2.2.2) := ⟨_, _, T2, R2⟩
      have HS3 := hide (And.intro S3 R3')
      have EW3 := hide ew3
      clear T2 S3 R3' R2 S2 ew3
      go_upto_region 9 with fail
      rw [unhide EW3]
      obtain ⟨Q3, eQ3⟩ : ∃ q : Int, Q2 + 1 = q := ⟨_, rfl⟩
      rw [eQ3]
      have uq3 : Q3 ≤ Q0 + ((x0.1.p.length : Nat) : Int) + 2 := by omega
      have bq3 : 0 ≤ Q3 ∧ Q3 ≤ 16777216 := by omega
      clear eQ3 uq2
      obtain ⟨S3, R3⟩ := unhide HS3
      clear HS3 EW3 hc2 hf2
      obtain ⟨⟨hc3, hf3⟩, T3⟩ := st_n3 S3 rfl Q3 ⟨by omega, by omega⟩
      obtain ⟨w4, ew4⟩ : ∃ W, w3.setCell ⟨b, off + k * 14 + 3, none⟩ (.int .i64 Q3) = W := ⟨_, rfl⟩
      rw [ew4] at T3
      obtain ⟨L4, x4, S4, R4'⟩ : ∃ L' x', Stg B d p ⟨some ⟨b, off, none⟩, n, cp⟩ xs k w w4 L' x' ∧ (x'.1.t = x0.1.t ∧ x'.1.s = x0.1.s ∧ x'.1.r = x0.1.r ∧ x'.1.g = x0.1.g ∧ x'.1.e = x0.1.e ∧ x'.1.k = x0.1.k ∧ x'.2.1 = x0.2.1 ∧ x'.2.2.2 = x0.2.2.2) := ⟨_, _, T3, R3⟩
      have HS4 := hide (And.intro S4 R4')
      have EW4 := hide ew4
      clear T3 S4 R4' R3 S3 ew4
      go_upto_region 11 with fail
      rw [unhide EW4]
      obtain ⟨Q4, eQ4⟩ : ∃ q : Int, Q3 + 1 = q := ⟨_, rfl⟩
      rw [eQ4]
      have uq4 : Q4 ≤ Q0 + ((x0.1.p.length : Nat) : Int) + 3 := by omega
      have bq4 : 0 ≤ Q4 ∧ Q4 ≤ 16777216 := by omega
      clear eQ4 uq3
      obtain ⟨S4, R4⟩ := unhide HS4
      clear HS4 EW4 hc3 hf3
      obtain ⟨f_t, f_s, f_r, f_g, f_e, f_k, f_hash, f_total⟩ := R4
      obtain ⟨Q5, eQ5⟩ : ∃ q : Int, q = Q4 + (x4.1.t.length : Nat) := ⟨_, rfl⟩
      have eS4 : x4.1.t.length = x0.1.t.length := by rw [f_t]
      obtain ⟨sl4, hc4, D4⟩ := st_t S4 rfl Q4 Q5 (by omega) (by omega) (by rw [f_t]; exact m_t) eQ5
      have H4 := hide D4
      have uq5 : Q5 ≤ Q0 + ((x0.1.p.length : Nat) : Int) + ((x0.1.t.length : Nat) : Int) + 3 := by omega
      have bq5 : 0 ≤ Q5 ∧ Q5 ≤ 16777216 := by omega
      have RR4 := hide (show x4.1.s = x0.1.s ∧ x4.1.r = x0.1.r ∧ x4.1.g = x0.1.g ∧ x4.1.e = x0.1.e ∧ x4.1.k = x0.1.k ∧ x4.2.1 = x0.2.1 ∧ x4.2.2.2 = x0.2.2.2 from ⟨f_s, f_r, f_g, f_e, f_k, f_hash, f_total⟩)
      clear D4 S4 f_t f_s f_r f_g f_e f_k f_hash f_total
      clear eQ5 eS4
      go_wp2_with fail
      refine (unhide H4).mono ?_
      rintro ee w5 ⟨rfl, T4⟩
      obtain ⟨L5, x5, S5, R5⟩ : ∃ L' x', Stg B d p ⟨some ⟨b, off, none⟩, n, cp⟩ xs k w w5 L' x' ∧ (x'.1.s = x0.1.s ∧ x'.1.r = x0.1.r ∧ x'.1.g = x0.1.g ∧ x'.1.e = x0.1.e ∧ x'.1.k = x0.1.k ∧ x'.2.1 = x0.2.1 ∧ x'.2.2.2 = x0.2.2.2) := ⟨_, _, T4, unhide RR4⟩
      clear T4 RR4 H4 hc4 uq4
      obtain ⟨⟨hc5, hf5⟩, T5⟩ := st_n5 S5 rfl Q5 ⟨by omega, by omega⟩
      obtain ⟨w6, ew6⟩ : ∃ W, w5.setCell ⟨b, off + k * 14 + 5, none⟩ (.int .i64 Q5) = W := ⟨_, rfl⟩
      rw [ew6] at T5
      obtain ⟨L6, x6, S6, R6'⟩ : ∃ L' x', Stg B d p ⟨some ⟨b, off, none⟩, n, cp⟩ xs k w w6 L' x' ∧ (x'.1.s = x0.1.s ∧ x'.1.r = x0.1.r ∧ x'.1.g = x0.1.g ∧ x'.1.e = x0.1.e ∧ x'.1.k = x0.1.k ∧ x'.2.1 = x0.2.1 ∧ x'.2.2.2 = x0.2.2.2) := ⟨_, _, T5, R5⟩
      have HS6 := hide (And.intro S6 R6')
      have EW6 := hide ew6
      clear T5 S6 R6' R5 S5 ew6
      go_upto_region 14 with fail
      rw [unhide EW6]
      obtain ⟨Q6, eQ6⟩ : ∃ q : Int, Q5 + 1 = q := ⟨_, rfl⟩
      rw [eQ6]
      have uq6 : Q6 ≤ Q0 + ((x0.1.p.length : Nat) : Int) + ((x0.1.t.length : Nat) : Int) + 4 := by omega
      have bq6 : 0 ≤ Q6 ∧ Q6 ≤ 16777216 := by omega
      clear eQ6 uq5
      obtain ⟨S6, R6⟩ := unhide HS6
      clear HS6 EW6 hc5 hf5
      obtain ⟨f_s, f_r, f_g, f_e, f_k, f_hash, f_total⟩ := R6
      obtain ⟨Q7, eQ7⟩ : ∃ q : Int, q = Q6 + (bsum x6.1.s : Nat) := ⟨_, rfl⟩
      have eS6 : bsum x6.1.s = bsum x0.1.s := by rw [f_s]
      obtain ⟨sl6, hc6, D6⟩ := st_s S6 rfl Q6 Q7 (by omega) (by omega) (by rw [f_s]; exact m_s) (by rw [f_s]; omega) eQ7
      have H6 := hide D6
      have uq7 : Q7 ≤ Q0 + ((x0.1.p.length : Nat) : Int) + ((x0.1.t.length : Nat) : Int) + ((bsum x0.1.s : Nat) : Int) + 4 := by omega
      have bq7 : 0 ≤ Q7 ∧ Q7 ≤ 16777216 := by omega
      have RR6 := hide (show x6.1.r = x0.1.r ∧ x6.1.g = x0.1.g ∧ x6.1.e = x0.1.e ∧ x6.1.k = x0.1.k ∧ x6.2.1 = x0.2.1 ∧ x6.2.2.2 = x0.2.2.2 from ⟨f_r, f_g, f_e, f_k, f_hash, f_total⟩)
      clear D6 S6 f_s f_r f_g f_e f_k f_hash f_total
      clear eQ7 eS6
      go_wp2_with fail
      refine (unhide H6).mono ?_
      rintro ee w7 ⟨rfl, T6⟩
      obtain ⟨L7, x7, S7, R7⟩ : ∃ L' x', Stg B d p ⟨some ⟨b, off, none⟩, n, cp⟩ xs k w w7 L' x' ∧ (x'.1.r = x0.1.r ∧ x'.1.g = x0.1.g ∧ x'.1.e = x0.1.e ∧ x'.1.k = x0.1.k ∧ x'.2.1 = x0.2.1 ∧ x'.2.2.2 = x0.2.2.2) := ⟨_, _, T6, unhide RR6⟩
      clear T6 RR6 H6 hc6 uq6
      obtain ⟨f_r, f_g, f_e, f_k, f_hash, f_total⟩ := R7
      obtain ⟨Q8, eQ8⟩ : ∃ q : Int, q = Q7 + (x7.1.r.length : Nat) := ⟨_, rfl⟩
      have eS7 : x7.1.r.length = x0.1.r.length := by rw [f_r]
      obtain ⟨sl7, hc7, D7⟩ := st_r S7 rfl Q7 Q8 (by omega) (by omega) (by rw [f_r]; exact m_r) eQ8
      have H7 := hide D7
      have uq8 : Q8 ≤ Q0 + ((x0.1.p.length : Nat) : Int) + ((x0.1.t.length : Nat) : Int) + ((bsum x0.1.s : Nat) : Int) + ((x0.1.r.length : Nat) : Int) + 4 := by omega
      have bq8 : 0 ≤ Q8 ∧ Q8 ≤ 16777216 := by omega
      have RR7 := hide (show x7.1.g = x0.1.g ∧ x7.1.e = x0.1.e ∧ x7.1.k = x0.1.k ∧ x7.2.1 = x0.2.1 ∧ x7.2.2.2 = x0.2.2.2 from ⟨f_g, f_e, f_k, f_hash, f_total⟩)
      clear D7 S7 f_r f_g f_e f_k f_hash f_total
      clear eQ8 eS7
      go_wp2_with fail
      refine (unhide H7).mono ?_
      rintro ee w8 ⟨rfl, T7⟩
      obtain ⟨L8, x8, S8, R8⟩ : ∃ L' x', Stg B d p ⟨some ⟨b, off, none⟩, n, cp⟩ xs k w w8 L' x' ∧ (x'.1.g = x0.1.g ∧ x'.1.e = x0.1.e ∧ x'.1.k = x0.1.k ∧ x'.2.1 = x0.2.1 ∧ x'.2.2.2 = x0.2.2.2) := ⟨_, _, T7, unhide RR7⟩
      clear T7 RR7 H7 hc7 uq7
      obtain ⟨f_g, f_e, f_k, f_hash, f_total⟩ := R8
      obtain ⟨Q9, eQ9⟩ : ∃ q : Int, q = Q8 + (x8.1.g.length : Nat) := ⟨_, rfl⟩
      have eS8 : x8.1.g.length = x0.1.g.length := by rw [f_g]
      obtain ⟨sl8, hc8, D8⟩ := st_g S8 rfl Q8 Q9 (by omega) (by omega) (by rw [f_g]; exact m_g) eQ9
      have H8 := hide D8
      have uq9 : Q9 ≤ Q0 + ((x0.1.p.length : Nat) : Int) + ((x0.1.t.length : Nat) : Int) + ((bsum x0.1.s : Nat) : Int) + ((x0.1.r.length : Nat) : Int) + ((x0.1.g.length : Nat) : Int) + 4 := by omega
      have bq9 : 0 ≤ Q9 ∧ Q9 ≤ 16777216 := by omega
      have RR8 := hide (show x8.1.e = x0.1.e ∧ x8.1.k = x0.1.k ∧ x8.2.1 = x0.2.1 ∧ x8.2.2.2 = x0.2.2.2 from ⟨f_e, f_k, f_hash, f_total⟩)
      clear D8 S8 f_g f_e f_k f_hash f_total
      clear eQ9 eS8
      go_wp2_with fail
      refine (unhide H8).mono ?_
      rintro ee w9 ⟨rfl, T8⟩
      obtain ⟨L9, x9, S9, R9⟩ : ∃ L' x', Stg B d p ⟨some ⟨b, off, none⟩, n, cp⟩ xs k w w9 L' x' ∧ (x'.1.e = x0.1.e ∧ x'.1.k = x0.1.k ∧ x'.2.1 = x0.2.1 ∧ x'.2.2.2 = x0.2.2.2) := ⟨_, _, T8, unhide RR8⟩
      clear T8 RR8 H8 hc8 uq8
      obtain ⟨f_e, f_k, f_hash, f_total⟩ := R9
      obtain ⟨Q10, eQ10⟩ : ∃ q : Int, q = Q9 + (x9.1.e.length : Nat) := ⟨_, rfl⟩
      have eS9 : x9.1.e.length = x0.1.e.length := by rw [f_e]
      obtain ⟨sl9, hc9, D9⟩ := st_e S9 rfl Q9 Q10 (by omega) (by omega) (by rw [f_e]; exact m_e) eQ10
      have H9 := hide D9
      have uq10 : Q10 ≤ Q0 + ((x0.1.p.length : Nat) : Int) + ((x0.1.t.length : Nat) : Int) + ((bsum x0.1.s : Nat) : Int) + ((x0.1.r.length : Nat) : Int) + ((x0.1.g.length : Nat) : Int) + ((x0.1.e.length : Nat) : Int) + 4 := by omega
      have bq10 : 0 ≤ Q10 ∧ Q10 ≤ 16777216 := by omega
      have RR9 := hide (show x9.1.k = x0.1.k ∧ x9.2.1 = x0.2.1 ∧ x9.2.2.2 = x0.2.2.2 from ⟨f_k, f_hash, f_total⟩)
      clear D9 S9 f_e f_k f_hash f_total
      clear eQ10 eS9
      go_wp2_with fail
      refine (unhide H9).mono ?_
      rintro ee w10 ⟨rfl, T9⟩
      obtain ⟨L10, x10, S10, R10⟩ : ∃ L' x', Stg B d p ⟨some ⟨b, off, none⟩, n, cp⟩ xs k w w10 L' x' ∧ (x'.1.k = x0.1.k ∧ x'.2.1 = x0.2.1 ∧ x'.2.2.2 = x0.2.2.2) := ⟨_, _, T9, unhide RR9⟩
      clear T9 RR9 H9 hc9 uq9
      obtain ⟨f_k, f_hash, f_total⟩ := R10
      obtain ⟨Q11, eQ11⟩ : ∃ q : Int, q = Q10 + (bsum x10.1.k : Nat) := ⟨_, rfl⟩
      have eS10 : bsum x10.1.k = bsum x0.1.k := by rw [f_k]
      obtain ⟨sl10, hc10, D10⟩ := st_k S10 rfl Q10 Q11 (by omega) (by omega) (by rw [f_k]; exact m_k) (by rw [f_k]; omega) eQ11
      have H10 := hide D10
      have uq11 : Q11 ≤ Q0 + ((x0.1.p.length : Nat) : Int) + ((x0.1.t.length : Nat) : Int) + ((bsum x0.1.s : Nat) : Int) + ((x0.1.r.length : Nat) : Int) + ((x0.1.g.length : Nat) : Int) + ((x0.1.e.length : Nat) : Int) + ((bsum x0.1.k : Nat) : Int) + 4 := by omega
      have bq11 : 0 ≤ Q11 ∧ Q11 ≤ 16777216 := by omega
      have RR10 := hide (show x10.2.1 = x0.2.1 ∧ x10.2.2.2 = x0.2.2.2 from ⟨f_hash, f_total⟩)
      clear D10 S10 f_k f_hash f_total
      clear eQ11 eS10
      go_wp2_with fail
      refine (unhide H10).mono ?_
      rintro ee w11 ⟨rfl, T10⟩
      obtain ⟨L11, x11, S11, R11⟩ : ∃ L' x', Stg B d p ⟨some ⟨b, off, none⟩, n, cp⟩ xs k w w11 L' x' ∧ (x'.2.1 = x0.2.1 ∧ x'.2.2.2 = x0.2.2.2) := ⟨_, _, T10, unhide RR10⟩
      clear T10 RR10 H10 hc10 uq10
      obtain ⟨f_hash, f_total⟩ := R11
      obtain ⟨Q12, eQ12⟩ : ∃ q : Int, q = Q11 + (x11.2.1.length : Nat) := ⟨_, rfl⟩
      have eS11 : x11.2.1.length = x0.2.1.length := by rw [f_hash]
      obtain ⟨sl11, hc11, D11⟩ := st_hash S11 rfl Q11 Q12 (by omega) (by omega) (by rw [f_hash]; exact m_hash) eQ12
      have H11 := hide D11
      have uq12 : Q12 ≤ Q0 + ((x0.1.p.length : Nat) : Int) + ((x0.1.t.length : Nat) : Int) + ((bsum x0.1.s : Nat) : Int) + ((x0.1.r.length : Nat) : Int) + ((x0.1.g.length : Nat) : Int) + ((x0.1.e.length : Nat) : Int) + ((bsum x0.1.k : Nat) : Int) + ((x0.2.1.length : Nat) : Int) + 4 := by omega
      have bq12 : 0 ≤ Q12 ∧ Q12 ≤ 16777216 := by omega
      have RR11 := hide (show x11.2.2.2 = x0.2.2.2 from f_total)
      clear D11 S11 f_hash f_total
      clear eQ12 eS11
      go_wp2_with fail
      refine (unhide H11).mono ?_
      rintro ee w12 ⟨rfl, T11⟩
      obtain ⟨L12, x12, S12, R12⟩ : ∃ L' x', Stg B d p ⟨some ⟨b, off, none⟩, n, cp⟩ xs k w w12 L' x' ∧ (x'.2.2.2 = x0.2.2.2) := ⟨_, _, T11, unhide RR11⟩
      clear T11 RR11 H11 hc11 uq11
      obtain ⟨⟨hc12, hf12⟩, T12⟩ := st_up S12 rfl Q12 ⟨by omega, by omega⟩
      obtain ⟨w13, ew13⟩ : ∃ W, w12.setCell ⟨b, off + k * 14 + 12, none⟩ (.int .i64 Q12) = W := ⟨_, rfl⟩
      rw [ew13] at T12
      obtain ⟨L13, x13, S13, R13'⟩ : ∃ L' x', Stg B d p ⟨some ⟨b, off, none⟩, n, cp⟩ xs k w w13 L' x' ∧ (x'.2.2.2 = x0.2.2.2) := ⟨_, _, T12, R12⟩
      have HS13 := hide (And.intro S13 R13')
      have EW13 := hide ew13
      clear T12 S13 R13' R12 S12 ew13
      go_upto_region 22 with fail
      rw [unhide EW13]
      obtain ⟨Q13, eQ13⟩ : ∃ q : Int, Q12 + 1 = q := ⟨_, rfl⟩
      rw [eQ13]
      have uq13 : Q13 ≤ Q0 + ((x0.1.p.length : Nat) : Int) + ((x0.1.t.length : Nat) : Int) + ((bsum x0.1.s : Nat) : Int) + ((x0.1.r.length : Nat) : Int) + ((x0.1.g.length : Nat) : Int) + ((x0.1.e.length : Nat) : Int) + ((bsum x0.1.k : Nat) : Int) + ((x0.2.1.length : Nat) : Int) + 5 := by omega
      have bq13 : 0 ≤ Q13 ∧ Q13 ≤ 16777216 := by omega
      clear eQ13 uq12
      obtain ⟨S13, R13⟩ := unhide HS13
      clear HS13 EW13 hc12 hf12
      have f_total := R13
      obtain ⟨Q14, eQ14⟩ : ∃ q : Int, q = Q13 + (x13.2.2.2.length : Nat) := ⟨_, rfl⟩
      have eS13 : x13.2.2.2.length = x0.2.2.2.length := by rw [f_total]
      obtain ⟨sl13, hc13, D13⟩ := st_total S13 rfl Q13 Q14 (by omega) (by omega) (by rw [f_total]; exact m_total) eQ14
      have H13 := hide D13
      have uq14 : Q14 ≤ Q0 + ((x0.1.p.length : Nat) : Int) + ((x0.1.t.length : Nat) : Int) + ((bsum x0.1.s : Nat) : Int) + ((x0.1.r.length : Nat) : Int) + ((x0.1.g.length : Nat) : Int) + ((x0.1.e.length : Nat) : Int) + ((bsum x0.1.k : Nat) : Int) + ((x0.2.1.length : Nat) : Int) + ((x0.2.2.2.length : Nat) : Int) + 5 := by omega
      have bq14 : 0 ≤ Q14 ∧ Q14 ≤ 16777216 := by omega
      have RR13 := hide (show True from trivial)
      clear D13 S13 f_total
      clear eQ14 eS13
      go_wp2_with fail
      refine (unhide H13).mono ?_
      rintro ee w14 ⟨rfl, T13⟩
      obtain ⟨L14, x14, S14, R14⟩ : ∃ L' x', Stg B d p ⟨some ⟨b, off, none⟩, n, cp⟩ xs k w w14 L' x' ∧ (True) := ⟨_, _, T13, unhide RR13⟩
      clear T13 RR13 H13 hc13 uq13
      have HSL := hide S14
      have hfin : Q14 ≤ Q0 + (enTot x0 : Nat) + 5 := by omega
      clear uq14
      clear S14
      go_wp2_with fail
      go_roundw
      case rel =>
        obtain ⟨r1, r2, r3, r4, r5, r6⟩ := unhide HSL
        exact ⟨k + 1, Q14, _, by omega, by go_num, rfl, by omega, by have := unhide HSUM; omega, r1, r4, fun j hj => r3 j (by omega), r5⟩
      case measure => simp [intOf]; omega
    · obtain rfl : k = n := by omega
      have HO := hide honly
      clear hrow hrest honly hLl
      go_wp2_with fail
      go_ret
      exact ⟨⟨Q0, rfl, by omega, by omega⟩, unhide HO⟩

end Go.Proofs.YtldiilmpmcbjkaaGreatDoor
