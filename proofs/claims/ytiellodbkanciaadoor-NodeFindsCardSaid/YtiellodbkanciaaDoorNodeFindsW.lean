/-
  The walk of NodeFinds.
-/
import Derived.Test.YtiellodbkanciaaDoorNodeAwake
import Derived.Test.YtiellodbkanciaaDoorNodeSame
import Derived.Test.YtiellodbkanciaaDoorNodeGst
namespace Go.Proofs.YtiellodbkanciaaDoor
open Go.RowKit
namespace nodeFinds
open No
open Num (hid)
set_option maxRecDepth 100000 in
set_option maxHeartbeats 8000000 in
theorem walk (n : N) (kv cv pv : Value) (a1 : ByteArray) (W : World) (na : NAt W kv cv pv n) (wd : Wide n) (_z1 : a1.size ≤ 140737488351232) :
    Calls Tryd.prog 4 #[nV n.f kv cv pv, .string a1] W fun e W' => e = .returned (.bool true) ∧ Below W.heap.size W W' := by
  obtain ⟨key, rfl⟩ : ∃ S, a1 = bs S := ⟨bl a1, rfl⟩
  have HAW := hid awake_any
  have HGR := hid (fun w h => great_any kv cv pv n wd w h)
  have HGD := hid (fun h1 h2 w h => good_any kv cv pv n h1 h2 w h)
  have HFI := hid (fun h1 h2 w h => find_any kv cv pv n key h1 h2 w h)
  obtain ⟨ao, cap, rfl, hmax, -, -⟩ := SAt.ways1 na.k
  have G0 := hid (Gst.new (f := n.f) na)
  clear na wd
  unfold nV at *
  go_enter Tryd.func4, Tryd.ntmps4
  go_wp2_with fail
  refine (HAW.out _).mono ?_
  rintro e w1 ⟨rfl, hb⟩
  have G1 := hid (G0.out.on hb)
  obtain ⟨c0, c1, c2, c3⟩ := G1.out.bx.cells
  clear hb G0
  go_wp2_with fail
  refine (HGR.out _ G1.out.na).mono ?_
  rintro e w2 ⟨⟨x, rfl, hx⟩, hb⟩
  have G2 := hid (G1.out.on hb)
  clear hb c0 c1 c2 c3 G1
  obtain ⟨c0, c1, c2, c3⟩ := G2.out.bx.cells
  cases x with
  | true =>
    go_wp2
    go_ret
    exact ⟨rfl, G2.out.be⟩
  | false =>
    obtain ⟨x1, x2, x3⟩ := hx rfl
    have HGD' := hid (HGD.out (by omega) (by omega))
    have HFI' := hid (HFI.out (by omega) (by omega))
    clear hx HGD HFI
    unfold findR fV at HFI'
    cases ho : okN n with
    | false =>
      rw [ho] at HGD'
      clear x1 x2 x3 ho
      go_wp2_with fail
      refine (HGD'.out _ G2.out.na).mono ?_
      rintro e w3 ⟨rfl, hb⟩
      have G3 := hid (G2.out.on hb)
      clear hb c0 c1 c2 c3
      go_wp2
      go_ret
      exact ⟨rfl, G3.out.be⟩
    | true =>
      rw [ho] at HGD' HFI'
      rw [if_pos rfl] at HFI'
      have hrise : rise n.ks = true := by
        unfold okN at ho
        rw [Bool.and_eq_true, Bool.and_eq_true] at ho
        exact ho.2.1
      have HB : Hid (∀ i (h : i < fi n.ks key) (hl : i < n.ks.length), less n.ks[i] key = true) := hid (fun i h hl => fi_below n.ks key i h)
      have HA := hid (fun i (h1 : fi n.ks key ≤ i) (h2 : i < n.ks.length) => fi_above hrise i h1 h2)
      have hfl := fi_le n.ks key
      have HI : Hid (isAt n.ks key = decide (n.ks[fi n.ks key]? = some key)) := hid rfl
      clear x2 x3 ho hrise
      clear HGR HAW
      generalize fi n.ks key = k at *
      generalize isAt n.ks key = is at *
      have hk0 : ¬ (k : Int) < 0 := by omega
      have hk1 : ¬ (n.ks.length : Int) < k := by omega
      go_wp2_with fail
      refine (HGD'.out _ G2.out.na).mono ?_
      rintro e w3 ⟨rfl, hb⟩
      have G3 := hid (G2.out.on hb)
      clear hb c0 c1 c2 c3 G2
      obtain ⟨c0, c1, c2, c3⟩ := G3.out.bx.cells
      go_wp2_with fail
      refine (HFI'.out _ G3.out.na).mono ?_
      rintro e w4 ⟨rfl, hb⟩
      have G4 := hid (G3.out.on hb)
      clear hb c0 c1 c2 c3 G3
      obtain ⟨c0, c1, c2, c3⟩ := G4.out.bx.cells
      go_wp2
      go_loopw [7] (fun i wr => ∃ j : Nat, i = .int .i64 j ∧ j ≤ n.ks.length ∧ Hid (Gst W n.f (.slice ao n.ks.length cap) cv pv n wr)) (fun i _ => n.ks.length - (intOf i).toNat)
      case atStart => exact ⟨0, rfl, Nat.zero_le _, G4⟩
      case round =>
        obtain ⟨j, rfl, hjl, HG⟩ := hrel
        clear c0 c1 c2 c3
        obtain ⟨c0, c1, c2, c3⟩ := HG.out.bx.cells
        obtain ⟨_, _, e0, -, -, hat⟩ := SAt.ways1 HG.out.na.k
        cases e0
        by_cases hlt : j < n.ks.length
        · have hlt' : (j : Int) < n.ks.length := by omega
          obtain ⟨b, o, rfl, hbl, y0⟩ := hat j hlt
          clear hat
          by_cases hjk : j < k
          · have hjk' : (j : Int) < k := by omega
            have hx : Op.bytesLess (bs n.ks[j]).toList (bs key).toList = true := by rw [bs_list, bs_list]; exact HB.out j hjk hlt
            go_wp2
            go_roundw
            case rel => exact ⟨j + 1, by go_num, by omega, HG⟩
            case measure => simp [intOf]; omega
          · have hjk' : ¬ (j : Int) < k := by omega
            have hx : Op.bytesLess (bs n.ks[j]).toList (bs key).toList = false := by rw [bs_list, bs_list]; exact HA.out j (by omega) hlt
            go_wp2
            go_roundw
            case rel => exact ⟨j + 1, by go_num, by omega, HG⟩
            case measure => simp [intOf]; omega
        · have hlt' : ¬ (j : Int) < n.ks.length := by omega
          by_cases hkl : k < n.ks.length
          · have hkl' : (k : Int) < n.ks.length := by omega
            obtain ⟨b, o, rfl, hbl, y0⟩ := hat k hkl
            clear hat
            have HI2 := HI.out
            rw [List.getElem?_eq_getElem hkl] at HI2
            by_cases he : n.ks[k] = key
            · have hi : is = true := by rw [HI2, he]; exact decide_eq_true rfl
              have hx : ((bs n.ks[k]).toList == (bs key).toList) = true := by rw [he]; simp
              subst hi
              clear HI2 he
              go_wp2
              go_ret
              exact ⟨rfl, HG.out.be⟩
            · have hi : is = false := by rw [HI2]; exact decide_eq_false fun e => he (Option.some.inj e)
              have hx : ((bs n.ks[k]).toList == (bs key).toList) = false := by rw [bs_list, bs_list]; simpa using he
              subst hi
              clear HI2 he
              go_wp2
              go_ret
              exact ⟨rfl, HG.out.be⟩
          · have hkl' : ¬ (k : Int) < n.ks.length := by omega
            have hi : is = false := by rw [HI.out, List.getElem?_eq_none (by omega)]; rfl
            subst hi
            clear hat
            go_wp2
            go_ret
            exact ⟨rfl, HG.out.be⟩
end nodeFinds
end Go.Proofs.YtiellodbkanciaaDoor
