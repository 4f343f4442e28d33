/-
  Proved: the steps of a law on a disk, as in DiskState, with what they leave alone; rows that are no disk's.
-/
import Derived.Test.YtebjapinhkeafaaDiskState
namespace Go.Proofs.Ytebjapinhkeafaa.Disk
open Go.RowKit Go.Maps
set_option linter.unusedVariables false
set_option linter.unusedSimpArgs false

/-- A row that is no disk's. -/
def Free (own : Own) (w : World) (A : Option Addr) (n : Nat) (vs : List Value) : Prop := vs.length = n ∧ (0 < n → ∃ b o, A = some ⟨b, o, none⟩ ∧ own b = none ∧ b < w.heap.size ∧ ∀ i v, vs[i]? = some v → w.cell? ⟨b, o + i, none⟩ = some v)
theorem Free.row {own : Own} {w : World} {A : Option Addr} {n : Nat} {vs : List Value} (h : Free own w A n vs) : Row w w.heap.size A n vs := by
  refine ⟨h.1, fun hn => ?_⟩
  obtain ⟨b, o, e, _, hb, hc⟩ := h.2 hn
  exact ⟨b, o, e, hb, hc⟩
theorem Free.step {own own' : Own} {f : Nat} {w w' : World} {A : Option Addr} {n : Nat} {vs : List Value} (h : Free own w A n vs) (hs : Step own own' f w w') : Free own' w' A n vs := by
  refine ⟨h.1, fun hn => ?_⟩
  obtain ⟨b, o, e, hf, hb, hc⟩ := h.2 hn
  exact ⟨b, o, e, (hs.same b hb).trans hf, Nat.lt_of_lt_of_le hb hs.size, fun i v hv => (World.cell?_of_block (hs.block b hb fun g => by rw [hf]; simp)).trans (hc i v hv)⟩
theorem Free.keep {own own' : Own} {w w' : World} {A : Option Addr} {n : Nat} {vs : List Value} (h : Free own w A n vs) (hs : ∀ b, b < w.heap.size → own' b = own b) (hb : Below w.heap.size w w') : Free own' w' A n vs := by
  refine ⟨h.1, fun hn => ?_⟩
  obtain ⟨b, o, e, hf, hb', hc⟩ := h.2 hn
  exact ⟨b, o, e, (hs b hb').trans hf, Nat.lt_of_lt_of_le hb' hb.size, fun i v hv => (hb.cell (p := ⟨b, o + i, none⟩) hb').trans (hc i v hv)⟩
/-- .. it lay before the disk. -/
theorem Held.elder {own : Own} {w0 w : World} {f K : Nat} {d : Dk} (h : Held own w0 w f d K) {A : Option Addr} {n : Nat} {vs : List Value} (hR : Row w0 w0.heap.size A n vs) : Free own w A n vs := by
  refine ⟨hR.1, fun hn => ?_⟩
  obtain ⟨b, o, e, hb, hc⟩ := hR.2 hn
  exact ⟨b, o, e, h.free b hb, Nat.lt_of_lt_of_le hb h.below.size, fun i v hv => (h.below.cell (p := ⟨b, o + i, none⟩) hb).trans (hc i v hv)⟩
/-- .. it was laid behind the disk. -/
theorem Held.younger {own : Own} {w0 w w' : World} {f K : Nat} {d : Dk} (h : Held own w0 w f d K) {A : Option Addr} {n : Nat} {vs : List Value} (hR : Row w' w'.heap.size A n vs) (hge : 0 < n → ∀ ad, A = some ad → w.heap.size ≤ ad.block) : Free own w' A n vs := by
  refine ⟨hR.1, fun hn => ?_⟩
  obtain ⟨b, o, e, hb, hc⟩ := hR.2 hn
  exact ⟨b, o, e, h.fresh (hge hn _ e), hb, hc⟩
theorem Free.none_at {own : Own} {w : World} {A : Option Addr} {n : Nat} {vs : List Value} (h : Free own w A n vs) (hn : 0 < n) : ∀ ad, A = some ad → own ad.block = none := by
  intro ad had
  obtain ⟨b, o, e, hf, _⟩ := h.2 hn
  rw [e] at had
  injection had with had
  rw [← had]
  exact hf
theorem create_go {own : Own} {w0 w : World} {f K : Nat} {d : Dk} {rm : Int} {N S : Dir} {wt : List Chg} {fs : List (Nat × Fl)} (s : ByteArray) (h : Held own w0 w f d K) (hS : St d rm N S wt fs) (hs : s.size ≤ maxLen) (hK : K + 1 ≤ 1073741824) (hg : goodName s.data.toList = true) (hl : N.length < 400) (hr : ∀ p ∈ fs, d.refs p.1) :
    Calls Try.prog 13 #[.pointer (some ⟨f, 0, none⟩), .string s] w fun e w' => ∃ own' g d', e = .returned (.int .i64 0) ∧ Held own' w0 w' f d' (K + 1) ∧ St d' rm (dput s.data.toList g (ddel [] N)) S (wt ++ [⟨noName, s, some g⟩]) ((g, emptyFl) :: fs) ∧ (∀ p ∈ fs, p.1 ≠ g) ∧ Step own own' f w w' := by
  refine (create_held s h hs hK hS.calm hg (by rw [hS.N]; exact hl)).mono ?_
  rintro e w' ⟨own', g, he, h1, hn, hst⟩
  have hne : ∀ p ∈ fs, p.1 ≠ g := fun p hp e => hn (e ▸ hr p hp)
  refine ⟨own', g, _, he, h1, ⟨hS.room, hS.calm, by show dput _ g (ddel [] d.N) = _; rw [hS.N], hS.S, by show d.wait ++ _ = _; rw [hS.wait], fun p hp => ?_⟩, hne, hst⟩
  rcases List.mem_cons.1 hp with rfl | hp
  · exact if_pos rfl
  · exact (if_neg (hne p hp)).trans (hS.fl p hp)
theorem write_go {own : Own} {w0 w : World} {f K g : Nat} {d : Dk} {rm : Int} {N S : Dir} {wt : List Chg} {x : Fl} {fs : List (Nat × Fl)} (s : ByteArray) (a : Nat) (h : Held own w0 w f d K) (hS : St d rm N S wt ((g, x) :: fs)) (hne : ∀ p ∈ fs, p.1 ≠ g) (hs : s.size ≤ maxLen) (hK : K + 1 ≤ 1073741824) (hx : dget s.data.toList N = some g) (ha : a ≤ x.now.length)
    {A : Option Addr} {m c : Nat} {bs : List UInt8} (hR : Free own w A m (bvs bs)) (hc : m ≤ c) (hcm : c ≤ maxLen) (hm : m ≤ 1099511627776)
    (hroom : (total (fun g => (d.fl g).now.length) N : Int) + (a + bs.length - (x.now.length : Int)) ≤ rm) :
    Calls Try.prog 14 #[.pointer (some ⟨f, 0, none⟩), .string s, .int .i64 (a : Int), .slice A m c] w fun e w' => ∃ own' L d', e = .returned (.int .i64 0) ∧ (∀ t, shas t L = (shas t x.soiled || touches a bs.length t)) ∧
      Held own' w0 w' f d' (K + 1) ∧ St d' rm N S wt ((g, ⟨putAt x.now a bs, x.was, L⟩) :: fs) ∧ Step own own' f w w' := by
  refine (write_held s a h hs hK hS.calm (by rw [hS.N]; exact hx) (by rw [hS.head]; exact ha) hR.row (Nat.le_refl _) hR.none_at hc hcm hm (by rw [hS.head, hS.N, hS.room]; exact hroom)).mono ?_
  rintro e w' ⟨own', L, he, hL, h1, hst⟩
  rw [hS.head] at hL h1
  exact ⟨own', L, _, he, hL, h1, hS.put hne _, hst⟩
theorem sync_go {own : Own} {w0 w : World} {f K g : Nat} {d : Dk} {rm : Int} {N S : Dir} {wt : List Chg} {x : Fl} {fs : List (Nat × Fl)} (s : ByteArray) (h : Held own w0 w f d K) (hS : St d rm N S wt ((g, x) :: fs)) (hne : ∀ p ∈ fs, p.1 ≠ g) (hs : s.size ≤ maxLen) (hK : K + 1 ≤ 1073741824) (hx : dget s.data.toList N = some g) :
    Calls Try.prog 15 #[.pointer (some ⟨f, 0, none⟩), .string s] w fun e w' => ∃ own' d', e = .returned (.int .i64 0) ∧ Held own' w0 w' f d' (K + 1) ∧ St d' rm N S wt ((g, ⟨x.now, x.now, []⟩) :: fs) ∧ Step own own' f w w' := by
  refine (sync_held s h hs hK hS.calm (by rw [hS.N]; exact hx)).mono ?_
  rintro e w' ⟨own', he, h1, hst⟩
  rw [hS.head] at h1
  exact ⟨own', _, he, h1, hS.put hne _, hst⟩
theorem syncDir_go {own : Own} {w0 w : World} {f K : Nat} {d : Dk} {rm : Int} {N S : Dir} {wt : List Chg} {fs : List (Nat × Fl)} (h : Held own w0 w f d K) (hS : St d rm N S wt fs) (hK : K + 1 ≤ 1073741824) :
    Calls Try.prog 16 #[.pointer (some ⟨f, 0, none⟩)] w fun e w' => ∃ own' d', e = .returned (.int .i64 0) ∧ Held own' w0 w' f d' (K + 1) ∧ St d' rm N (foldDir S wt wt.length) [] fs ∧ Step own own' f w w' := by
  refine (syncDir_held h hK hS.calm).mono ?_
  rintro e w' ⟨own', he, h1, hst⟩
  exact ⟨own', _, he, h1, ⟨hS.room, hS.calm, hS.N, by show foldDir d.S d.wait d.wait.length = _; rw [hS.S, hS.wait], rfl, hS.fl⟩, hst⟩
theorem crash_go {own : Own} {w0 w : World} {f K : Nat} {d : Dk} (n torn : Int) (h : Held own w0 w f d K) {B : Nat} {A : Option Addr} {m c : Nat} {keep : List Bool} (hR : Row w B A m (lvs keep)) (hB : B ≤ w.heap.size) (hm : m ≤ 1099511627776) :
    Calls Try.prog 19 #[.pointer (some ⟨f, 0, none⟩), .int .i64 n, .slice A m c, .int .i64 torn] w fun e w' => ∃ own' f' d', e = .returned (.pointer (some ⟨f', 0, none⟩)) ∧ Held own' w0 w' f d K ∧ Held own' w0 w' f' d' K ∧ d.Crashed d' n keep torn ∧ f' ≠ f ∧ (∀ b, b < w.heap.size → own' b = own b) ∧ Below w.heap.size w w' := by
  refine (crash_any (c := c) n torn h.disk hR hB hm).mono ?_
  rintro e w' ⟨own', f', d', he, hge, hd, hc, hb, hs, _⟩
  have hk := h.beside hb hs hd.top
  have hlt := h.disk.lt
  exact ⟨own', f', d', he, hk, ⟨hd, hk.below, hk.free⟩, hc, by omega, hs, hb⟩
/-- What a call has laid for its answer. -/
theorem Held.answer {own : Own} {w0 w w' : World} {f K : Nat} {d : Dk} (h : Held own w0 w f d K) {A : Option Addr} {n c : Nat} {xs : List UInt8} (hr : w'.ownsRow w.heap.size 5 1 (.slice A n c) n (bvs xs)) : Free own w' A n (bvs xs) := by
  refine h.younger (Row.own hr) fun hn ad had => ?_
  rcases hr.2 with ⟨e, _⟩ | ⟨g, cap, cur, e, hb, _⟩
  · injection e with e1 e2 e3; omega
  · injection e with e1 e2 e3
    rw [e1] at had
    injection had with had
    rw [← had]
    exact hb
theorem St.look {d : Dk} {rm : Int} {N S : Dir} {wt : List Chg} {g : Nat} {x : Fl} {fs : List (Nat × Fl)} (h : St d rm N S wt ((g, x) :: fs)) {n : Nm} (hx : dget n N = some g) : d.look n = some x := by
  rw [Dk.look, h.N, hx]
  exact congrArg some h.head
theorem putAt_start (xs : List UInt8) : putAt [] 0 xs = xs := by simp [putAt]
end Go.Proofs.Ytebjapinhkeafaa.Disk
