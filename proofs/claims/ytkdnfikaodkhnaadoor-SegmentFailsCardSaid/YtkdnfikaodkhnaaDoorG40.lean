/-
  Texts one behind the other: SegArmed, SegLaws2.
-/
import Derived.Test.YtkdnfikaodkhnaaDoorG35
import Derived.Test.YtkdnfikaodkhnaaDoorG39
/-
  Proved: the landed package keeps the face of a segment on a disk of which a call is to fail.
-/
namespace Go.Proofs.YtkdnfikaodkhnaaDoor.Seg
open Go.RowKit Go.Proofs.YtkdnfikaodkhnaaDoor.Disk Go.Proofs.YtkdnfikaodkhnaaDoor.Rec
set_option linter.unusedVariables false
set_option linter.unusedSimpArgs false

theorem failRaw_held {own : Own} {w0 w : World} {f K : Nat} {d : Dk} (n : Int) (h : Held own w0 w f d K) (hn : n ≤ 9223372036854775807) :
    Calls Tryd.prog 24 #[.pointer (some ⟨f, 0, none⟩), .int .i64 n] w fun e w' => e = .returned undef ∧ Held own w0 w' f { d with failing := decide (0 ≤ n), others := max n 0 } K ∧ Step own own f w w' := by
  obtain ⟨nb, sb, wv, hd⟩ := h.disk
  refine (fail_raw f nb sb wv d n w hd.blk).mono ?_
  rintro e w' ⟨he, hb, hg⟩
  obtain ⟨h1, h2, h3, h4, h5, h6, h7, h8⟩ := hd.ok
  have hd' : DiskIn own w' f { d with failing := decide (0 ≤ n), others := max n 0 } K nb sb wv := hd.put hg hb rfl rfl rfl rfl ⟨h1, h2, h3, h4, h5, h6, h7, by show 0 ≤ max n 0 ∧ max n 0 ≤ _; omega⟩
  have hst : Step own own f w w' := Step.of_grown hd.top hd.of hg
  exact ⟨he, h.next hst ⟨nb, sb, wv, hd'⟩, hst⟩
theorem landed_armed : Armed SG SF where
  all := fun ⟨d, h, hf⟩ hb => ⟨d, h.all hb, hf⟩
  top := fun ⟨d, h, hf⟩ => h.top
  below := fun ⟨d, h, hf⟩ => h.disk.below
  arm := by
    intro own w0 w v n hSG hn
    obtain ⟨d, h, hf⟩ := hSG
    refine (failRaw_held (n : Int) h.disk (by omega)).mono ?_
    rintro e w' ⟨he, hd, hst⟩
    exact ⟨own, he, ⟨_, h.step (x' := v.x) hst hd rfl rfl h.S h.wait h.fl, by show decide (0 ≤ (n : Int)) = true; simp, by show max (n : Int) 0 = _; omega⟩, Fr.of_step hst⟩
  ok := by
    intro own w0 w v k A n c g0 l hT hSF hx hf0 hfl hl hn0 hn hnc hc hr hrm hK
    obtain ⟨d, h, hf, hk⟩ := hSF
    have hlen : v.x.now.length = (cat g0).length := by rw [hx]
    refine (append_core (R := fun er own' w' => er = 0 ∧ ∃ L d', Lies own' w0 w' { v with x := ⟨cat (g0 ++ l), v.x.was, L⟩, K := v.K + 2 } d' ∧ d'.failing = true ∧ d'.others = (k : Int)) hT h hfl hl hn0 hn hnc hc hr (by omega) (by rw [hx]; exact frontEnd_whole hf0) ?_).mono ?_
    · intro w4 B m c4 hL hF hm hmc hc4
      have hroom := hrm
      rw [cat_append, List.length_append] at hroom
      have hbeg : (d.read v.x.now.length).begin = { d.read v.x.now.length with calls := (d.read v.x.now.length).calls + 1, others := (k : Int) } := by
        rw [Dk.begin, if_neg (by rw [show (d.read v.x.now.length).failing = d.failing from rfl, hf]; simp), if_pos (by rw [show (d.read v.x.now.length).others = d.others from rfl, hk]; omega)]
        congr 1
        rw [show (d.read v.x.now.length).others = d.others from rfl, hk]
        omega
      refine (write_any (str (segName v.id v.num)) (v.x.now.length : Int) hL.disk.disk hL.nm (show v.K + 1 + 1 ≤ 1073741824 by omega) (by omega) (by have := h.xok.max; omega) hF.row (Nat.le_refl _) (fun h0 ad had g => by rw [hF.none_at h0 ad had]; simp) hmc hc4 (by
        have := cat_most (l := l) (fun x hx => (hfl x hx).1)
        omega)).mono ?_
      rintro e w' ⟨own', n', d', hW, he, hd, hst⟩
      rw [Dk.Writes, if_neg (by rw [Dk.err, if_neg (by rw [show (d.read v.x.now.length).others = d.others from rfl, hk]; omega)]; simp), show Disk.dget (str (segName v.id v.num)).data.toList (d.read v.x.now.length).N = some v.g from hL.dget] at hW
      dsimp only at hW
      rw [hL.total, hL.fl, hL.room, hbeg] at hW
      dsimp only at hW
      rw [if_neg (by omega), if_neg (by omega)] at hW
      obtain ⟨rfl, L, _, rfl⟩ := hW
      rw [Int.toNat_natCast, putAt_last, hx, ← cat_append] at hd
      have e2 : (d.read (cat g0).length) = d.read v.x.now.length := by rw [hx]
      exact ⟨own', 0, he, hst, rfl, L, _, hL.step hst (hL.disk.next hst hd) rfl rfl hL.S hL.wait (if_pos rfl), hf, rfl⟩
    · rintro e w' ⟨own', er, hst, ⟨rfl, L, d', hL, hf', hk'⟩, hans⟩
      obtain ⟨P, cp, he, h1, h2, h3⟩ := hans.ok rfl
      exact ⟨own', _, L, v.K + 2, he, by omega, ⟨d', hL, hf', hk'⟩, Fr.of_step hst⟩
  io := by
    intro own w0 w v A n c g0 l hT hSF hx hf0 hfl hl hn0 hn hnc hc hr hrm hK
    obtain ⟨d, h, hf, hk⟩ := hSF
    have hlen : v.x.now.length = (cat g0).length := by rw [hx]
    refine (append_core (R := fun er own' w' => er = 3 ∧ ∃ d', Lies own' w0 w' { v with K := v.K + 2 } d' ∧ d'.failing = false) hT h hfl hl hn0 hn hnc hc hr (by omega) (by rw [hx]; exact frontEnd_whole hf0) ?_).mono ?_
    · intro w4 B m c4 hL hF hm hmc hc4
      have hbeg : (d.read v.x.now.length).begin = { d.read v.x.now.length with calls := (d.read v.x.now.length).calls + 1, failing := false } := by
        rw [Dk.begin, if_neg (by rw [show (d.read v.x.now.length).failing = d.failing from rfl, hf]; simp), if_neg (by rw [show (d.read v.x.now.length).others = d.others from rfl, hk]; simp)]
      refine (write_any (str (segName v.id v.num)) (v.x.now.length : Int) hL.disk.disk hL.nm (show v.K + 1 + 1 ≤ 1073741824 by omega) (by omega) (by have := h.xok.max; omega) hF.row (Nat.le_refl _) (fun h0 ad had g => by rw [hF.none_at h0 ad had]; simp) hmc hc4 (by
        have := cat_most (l := l) (fun x hx => (hfl x hx).1)
        omega)).mono ?_
      rintro e w' ⟨own', n', d', hW, he, hd, hst⟩
      rw [Dk.Writes, if_pos (by rw [Dk.err, if_pos ⟨hf, by rw [show (d.read v.x.now.length).others = d.others from rfl, hk]; simp⟩]; simp)] at hW
      obtain ⟨rfl, rfl⟩ := hW
      rw [hbeg] at hd
      exact ⟨own', 3, he, hst, rfl, _, hL.step (x' := v.x) hst (hL.disk.next hst hd) rfl rfl hL.S hL.wait hL.fl, rfl⟩
    · rintro e w' ⟨own', er, hst, ⟨rfl, d', hL, hf'⟩, hans⟩
      obtain ⟨P, cp, he⟩ := hans.no (by decide)
      exact ⟨own', _, v.K + 2, he, by omega, ⟨d', hL, hf'⟩, Fr.of_step hst⟩
  records := by
    intro own w0 w v k hT hSF hK
    obtain ⟨d, h, hf, hk⟩ := hSF
    refine (records_lies hT h (by omega)).mono ?_
    rintro e w' ⟨A, c, d', he, h1, h2, h3, rfl, hL, hst⟩
    exact ⟨own, A, c, v.K + 1, he, _, hL, hf, hk⟩
  size := fun ⟨d, h, hf⟩ => size_lies h
end Go.Proofs.YtkdnfikaodkhnaaDoor.Seg
/-
  Proved: what SegmentFails returns over the landed package.
-/
namespace Go.Proofs.YtkdnfikaodkhnaaDoor.Seg
open Go.RowKit Go.Proofs.YtkdnfikaodkhnaaDoor.Disk Go.Proofs.YtkdnfikaodkhnaaDoor.Rec
set_option linter.unusedVariables false

theorem segmentFails_go (z n0 m0 : Int) (w : World) (hT : Tabs w) (hz : (Lit.int .u32 z).wf = true) (h1 : -9223372036854775808 ≤ n0 ∧ n0 ≤ 9223372036854775807) (h2 : -9223372036854775808 ≤ m0 ∧ m0 ≤ 9223372036854775807) :
    Calls Tryd.prog 5 #[.int .u32 z, .int .i64 n0, .int .i64 m0] w fun e w' => e = .returned (.bool true) ∧ Below w.heap.size w w' := by
  obtain ⟨id, rfl, hid⟩ := u32_nat hz
  exact segmentFails_walk landed_face landed_armed id hid n0 m0 w hT
end Go.Proofs.YtkdnfikaodkhnaaDoor.Seg
