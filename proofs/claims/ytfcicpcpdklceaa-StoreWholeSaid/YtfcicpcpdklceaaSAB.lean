/- Package store: redo, where the journal is in use. -/
import Derived.Test.YtfcicpcpdklceaaSUn
import Derived.Test.YtfcicpcpdklceaaSY
namespace Go.Proofs.Ytfcicpcpdklceaa
set_option maxRecDepth 100000
open Go.ChangeShapes Go.WideShapes Go.ChangeAt Go.RowKit Go.PlainAid Go.ChangeMaps Go.MapKept
open Go.Sort (grow)
attribute [local go_sem ↓ high] app_text

set_option maxHeartbeats 2000000 in
theorem redo_full {w0 w : World} {p q bm c : Nat} {d : D} {h : Hd} {T : Int → Option ByteArray} {dead : Bool} {R : List (Nat × Obj)} {l : List PageV} (H : StT w0 p q bm c d h T dead R w) (hd : d.dark = false) (hu : h.used = (packB l).length) (hn : 2 + h.room + h.pages ≤ d.n) (hur : h.used ≤ h.room)
    (hj : ∀ i s, (packB l)[i]? = some s → d.last (2 + i) = s) (h1 : 1 ≤ l.length) (h60 : l.length ≤ 60) (hfit : Fit h l) (hsz : ∀ x ∈ l, x.data.size = 256) (hw : h.Wf) (hs : h.seq < 1000) (hl : d.late.length < 1000) :
    Calls Try.prog 32 #[.pointer (some ⟨q, 0, none⟩)] w fun e w' => e = .returned (.int .i64 (opsE d (homeOps h l))) ∧ ∃ h', (h' = h ∨ h' = h.next 0) ∧ (opsE d (homeOps h l) = 0 → h' = h.next 0) ∧ StT w0 p q bm c (d.ops (homeOps h l)) h' T dead R w' := by
  have hnb : (packB l).length = l.length + 1 := by rw [packB_small h60]; simp
  have hpg := hw.pages
  have hdn := H.own.wf.hi
  have CR := Lib.hid (fun (w1 : World) (b : Below w.heap.size w w1) (k : Nat) (s : ByteArray) (hk : (packB l)[k]? = some s) => (show Calls Try.prog 35 #[.pointer (some ⟨p, 0, none⟩), .int .i64 ((2 + k : Nat) : Int)] w1 (fun e w' => e = .returned (.tuple #[.string s, .int .i64 0]) ∧ w1 = w') from by
    have hk2 := (List.getElem?_eq_some_iff.1 hk).1
    have hre : reachE d ((2 + k : Nat) : Int) = 0 := by unfold reachE; rw [hd, if_neg (by decide), if_neg (by omega)]
    have hrs : readS d ((2 + k : Nat) : Int) = s := by unfold readS; rw [hre, if_pos rfl, Int.toNat_natCast]; exact hj k s hk
    have := q_read (H.on b).own ((2 + k : Nat) : Int) (by omega) (by omega)
    rwa [hre, hrs] at this))
  have HH := Lib.hid H
  have HF := Lib.hid hfit
  have HW := Lib.hid hw
  have HSZ := Lib.hid hsz
  obtain ⟨c0, c1, c2, c3, c4, c5, c6⟩ := store_cells H.at
  rw [hu] at c2
  have hz : (((packB l).length : Int) == 0) = false := by rw [beq_eq_false_iff_ne]; omega
  have HR0 : Hid (w.ownsRow w.heap.size 9 1 (.slice none 0 0) 0 (((packB l).take 0).map Value.string)) := Lib.hid (World.ownsRow_nil _ _ _ _)
  have hq := heap_lt H.at
  have hnb1 : 2 ≤ (packB l).length := by omega
  have hnb2 : (packB l).length ≤ 61 := by omega
  clear H hfit hw hsz hj hu hnb
  go_enter Try.func32, Try.ntmps32
  go_wp2_with fail
  clear c0 c1 c2 c3 c4 c5 c6
  go_loopw [3, 20] (fun v i wr => ∃ k : Nat, k ≤ (packB l).length ∧ i = .int .i64 k ∧ Below w.heap.size w wr ∧ wr.ownsRow w.heap.size 9 1 v k (((packB l).take k).map Value.string)) (fun _ i _ => (packB l).length - (intOf i).toNat)
  case atStart => exact ⟨0, Nat.zero_le _, rfl, Below.refl _ _, HR0.out⟩
  case round =>
    clear HR0
    obtain ⟨k, hk, rfl, hB, hrow⟩ := hrel
    have HB := Lib.hid hB
    have HR := Lib.hid hrow
    clear hB hrow
    obtain ⟨c0, c1, c2, c3, c4, c5, c6⟩ := store_cells (HH.out.on HB.out).at
    by_cases hlt : k < (packB l).length
    · obtain ⟨s, hx⟩ : ∃ s, (packB l)[k]? = some s := ⟨_, List.getElem?_eq_getElem hlt⟩
      have HRd := Lib.hid (CR.out wr HB.out k s hx)
      have hkk : (2 : Int) + (k : Int) = ((2 + k : Nat) : Int) := by omega
      have hlen : (((packB l).take k).map Value.string).length = k := by rw [List.length_map, List.length_take]; omega
      obtain ⟨g, cap, w3, p1, p2, p3⟩ := row_push (xs := ((packB l).take k).map Value.string) (by rw [hlen]; exact HR.out) HB.out.size (by rw [hlen]; omega) s k hlen
      have e4 : ((packB l).take k).map Value.string ++ [Value.string s] = ((packB l).take (k + 1)).map Value.string := by rw [List.take_add_one, hx]; simp
      rw [e4] at p2
      rw [List.length_map, List.length_take, Nat.min_eq_left (by omega)] at p2
      have HF2 := Lib.hid (And.intro (HB.out.trans p3) p2)
      clear hlen p2 p3 e4 hx
      generalize hk2 : ((2 + k : Nat) : Int) = kk at *
      have HK2 := Lib.hid hk2
      clear hk2
      go_wp2_with fail
      refine HRd.out.mono ?_
      rintro e _ ⟨rfl, rfl⟩
      clear hkk
      go_wp2
      go_roundw
      case rel => exact ⟨k + 1, by omega, by go_num, HF2.out.1, HF2.out.2⟩
      case measure => simp [intOf]; omega
    · obtain rfl : k = (packB l).length := by omega
      have hrw := HR.out
      rw [List.take_length] at hrw
      rcases hrw.2 with ⟨_, hbad⟩ | ⟨g, cap, cur, rfl, hg, hgb, hn1, hn2, hn3, hcur⟩
      · omega
      rw [Nat.mul_one] at hcur
      have HU := Lib.hid (unpack_any wr (fun k s hk => row_cell hgb hcur (List.getElem?_eq_some_iff.1 hk).1 hk) hn1 hn2 h1 h60 (fun x hx => by
        obtain ⟨a, b, _⟩ := HF.out x hx
        exact ⟨a, by omega, HSZ.out x hx⟩))
      clear hrw hgb hn1 hn2 hn3 hcur hg HR CR
      go_wp2_with fail
      refine HU.out.mono ?_
      rintro e w5 ⟨g2, C, rfl, hg2, hgb2, hC, hb5⟩
      have HS5 := HH.out.add (HB.out.on hb5) (Nat.le_trans HB.out.size hg2) hgb2
      obtain ⟨⟨es, clock, hX, hS⟩, q1, q2⟩ := HS5
      have hpr : PgR ((g2, Obj.cells C 49 (0, 0)) :: R) (.slice (some ⟨g2, 0, none⟩) l.length l.length) l := .inr ⟨g2, l.length, C, rfl, List.mem_cons_self, hC, by omega⟩
      have HHM := Lib.hid (home_any hS (hpr.mono fun x hx => List.mem_cons_of_mem _ hx) HF.out HW.out (by omega) (by omega))
      have HX := Lib.hid hX
      have HQ1 := Lib.hid q1
      have HQ2 := Lib.hid q2
      clear hX hS q1 q2 hpr hC hgb2 hg2 hb5 HU c0 c1 c2 c3 c4 c5 c6
      go_wp2_with fail
      refine HHM.out.mono ?_
      rintro e w6 ⟨rfl, h', hh1, hh2, H6⟩
      have HFN := Lib.hid (StT.sub (show StT w0 p q bm c (d.ops (homeOps h l)) h' T dead ((g2, Obj.cells C 49 (0, 0)) :: R) w6 from ⟨⟨es, clock, HX.out, H6⟩, HQ1.out, HQ2.out⟩) R (fun x hx => List.mem_cons_of_mem _ hx))
      have HH1 := Lib.hid hh1
      have HH2 := Lib.hid hh2
      clear H6 hh1 hh2
      go_wp2
      go_returns
      exact ⟨rfl, h', HH1.out, HH2.out, HFN.out⟩
end Go.Proofs.Ytfcicpcpdklceaa
