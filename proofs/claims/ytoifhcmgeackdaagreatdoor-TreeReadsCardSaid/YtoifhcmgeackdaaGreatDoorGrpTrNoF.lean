/-
  Put together: NodeRefDec, NodeRefDecode.
-/
import Derived.Test.YtoifhcmgeackdaaGreatDoorNodeRefEnc
import Derived.Test.YtoifhcmgeackdaaGreatDoorNodeRefMath
import Derived.Test.YtoifhcmgeackdaaGreatDoorGrpTrNoD
import Derived.Test.YtoifhcmgeackdaaGreatDoorGrpTrNum
import Derived.Deep.AppendLies
import Derived.Deep.DeepCutAuto
/-
  Contracts of the reference's number, part, fixed.
-/
namespace Go.Proofs.YtoifhcmgeackdaaGreatDoor
open Go.RowKit
namespace No
open Num (hid varB fixF unfF unvL fixF_length)
theorem runv_b (S : Bs) (hS : S.length ≤ maxLen) (w : World) : Calls Tryz.prog 123 #[.string (bs S)] w fun e w' => e = .returned (.tuple #[.int .u64 ((unvL 0 0 S).1 : Nat), .int .i64 ((unvL 0 0 S).2.1 : Nat), .int .i64 (unvL 0 0 S).2.2]) ∧ w = w' :=
  Num.runvar_any (bs S) w (by rw [bs_size]; exact hS)
theorem runf_b (x : Bs) (h1 : 1 ≤ x.length) (h8 : x.length ≤ 8) (w : World) : Calls Tryz.prog 91 #[.string (bs x)] w fun e w' => e = .returned (.tuple #[.int .u64 (unfF 0 x : Nat), .int .i64 0]) ∧ w = w' := by
  have h := Num.runfixed_any (bs x) w
  rw [Num.unfix_yes (bs x) (by rw [bs_size]; exact h1) (by rw [bs_size]; exact h8)] at h
  exact h
theorem ex_mid (S : Bs) (i n : Nat) : (bs S).extract i (i + n) = bs ((S.drop i).take n) := by
  have e : (bs S).extract i (i + n) = bs (bl ((bs S).extract i (i + n))) := (bs_bl _).symm
  rw [e]
  refine congrArg bs ?_
  show ((bs S).extract i (i + n)).data.toList = _
  simp [ByteArray.data_extract, bs]
theorem upS_back_at (S : Bs) (h : (unvL 0 0 S).2.2 = 0) : (unvL 0 0 S).2.1 ≤ S.length := by
  obtain ⟨q, -, -, -, -, hm, -⟩ := Num.unv_back S 0 0 (unvL 0 0 S).1 (unvL 0 0 S).2.1 9 rfl (by rw [← h])
  omega
/-- What number gives. -/
def NumGives (S : Bs) (a : Int) (w w' : World) (e : Ending) : Prop := ∃ (z : Nat) (nx : Int), e = .returned (.tuple #[.int .i64 (z : Nat), .int .i64 nx]) ∧ z ≤ 5000 ∧ Rat S (fromS S a fun T => upS T 5000) z nx ∧ Below w.heap.size w w'
theorem num_no {S : Bs} {a : Int} {w w' : World} (h : fromS S a (fun T => upS T 5000) = none) (hb : Below w.heap.size w w') : NumGives S a w w' (.returned (.tuple #[.int .i64 0, .int .i64 (-1)])) := ⟨0, -1, rfl, by decide, Or.inr ⟨rfl, h⟩, hb⟩
set_option maxRecDepth 100000 in
set_option maxHeartbeats 1000000 in
theorem rnumber_any (S : Bs) (hS : S.length = 232) (a : Int) (h1 : -1 ≤ a) (h2 : a ≤ 232) (w : World) : Calls Tryz.prog 86 #[.string (bs S), .int .i64 a] w fun e w' => NumGives S a w w' e := by
  have hz := bs_size S
  have hz2 : (bs S).size = 232 := by rw [hz, hS]
  by_cases h0 : a < 0
  · have ea : a = -1 := by omega
    subst ea
    have HN := hid (num_no (S := S) (a := -1) (w := w) (w' := w) rfl (Below.refl _ _))
    clear hz
    go_enter Tryz.func86, Tryz.ntmps86
    go_wp2
    go_ret2
    exact HN.out
  · obtain ⟨k, rfl⟩ := Int.eq_ofNat_of_zero_le (show 0 ≤ a by omega)
    have hk : k ≤ 232 := by omega
    have e0 : fromS S (k : Int) (fun T => upS T 5000) = upS (S.drop k) 5000 := fromS_at S k _
    have HU := hid (runv_b (S.drop k) (by rw [List.length_drop]; unfold maxLen; omega))
    have hdl : (S.drop k).length = 232 - k := by rw [List.length_drop, hS]
    have hex : (bs S).extract k 232 = bs (S.drop k) := by rw [← hz2, ex_drop]
    have hex' : (bs S).extract k (bs S).size = bs (S.drop k) := ex_drop S k
    have HB := hid (upS_back_at (S.drop k))
    obtain ⟨z, hzz⟩ : ∃ z, (unvL 0 0 (S.drop k)).1 = z := ⟨_, rfl⟩
    obtain ⟨q, hqq⟩ : ∃ q, (unvL 0 0 (S.drop k)).2.1 = q := ⟨_, rfl⟩
    obtain ⟨er, hee⟩ : ∃ er, (unvL 0 0 (S.drop k)).2.2 = er := ⟨_, rfl⟩
    have hup : upS (S.drop k) 5000 = if er ≠ 0 ∨ 5000 < z then none else some (z, (S.drop k).drop q) := by unfold upS; rw [hzz, hqq, hee]
    simp only [hzz, hqq, hee] at HU HB
    have hk1 : ¬ (k : Int) < 0 := by omega
    have hk2 : ¬ (232 : Int) < (k : Int) := by omega
    by_cases he : er = 0
    · have he' : (er != 0) = false := by rw [he]; rfl
      by_cases h5 : 5000 < z
      · have h5' : (5000 : Int) < z := by omega
        rw [if_pos (Or.inr h5)] at hup
        have HN := hid (num_no (S := S) (a := k) (w := w) (w' := w) (e0.trans hup) (Below.refl _ _))
        clear hz hup e0 hdl he h5
        go_enter Tryz.func86, Tryz.ntmps86
        go_wp2_with fail
        refine (HU.out _).mono ?_
        rintro e w3 ⟨rfl, rfl⟩
        go_wp2
        go_ret2
        exact HN.out
      · have h5' : ¬ (5000 : Int) < z := by omega
        rw [if_neg (fun h => h.elim (fun h => h he) h5)] at hup
        have hq : q ≤ 232 - k := by
          have := HB.out he
          rw [hdl] at this
          exact this
        have HN : Hid (NumGives S k w w (.returned (.tuple #[.int .i64 (z : Nat), .int .i64 ((k : Int) + (q : Int))]))) := hid ⟨z, _, rfl, by omega, Or.inl ⟨k + q, by omega, by omega, by rw [e0, hup, List.drop_drop]⟩, Below.refl _ _⟩
        have hzi : IntKind.i64.wrap (z : Int) = (z : Int) := by rw [IntKind.wrap_i64]; omega
        clear hz hup e0 hdl he h5
        go_enter Tryz.func86, Tryz.ntmps86
        go_wp2_with fail
        refine (HU.out _).mono ?_
        rintro e w3 ⟨rfl, rfl⟩
        go_wp2
        go_ret2
        exact HN.out
    · have he' : (er != 0) = true := by simpa using he
      rw [if_pos (Or.inl he)] at hup
      have HN := hid (num_no (S := S) (a := k) (w := w) (w' := w) (e0.trans hup) (Below.refl _ _))
      clear hz hup e0 hdl he
      go_enter Tryz.func86, Tryz.ntmps86
      go_wp2_with fail
      refine (HU.out _).mono ?_
      rintro e w3 ⟨rfl, rfl⟩
      go_wp2
      go_ret2
      exact HN.out
def PartGives (S : Bs) (a : Int) (n : Nat) (w w' : World) (e : Ending) : Prop := ∃ (y : Bs) (nx : Int), e = .returned (.tuple #[.string (bs y), .int .i64 nx]) ∧ Rat S (fromS S a fun T => byS T n) y nx ∧ Below w.heap.size w w'
theorem part_no {S : Bs} {a : Int} {n : Nat} {w w' : World} (h : fromS S a (fun T => byS T n) = none) (hb : Below w.heap.size w w') : PartGives S a n w w' (.returned (.tuple #[.string ⟨#[]⟩, .int .i64 (-1)])) := ⟨[], -1, rfl, Or.inr ⟨rfl, h⟩, hb⟩
set_option maxRecDepth 100000 in
set_option maxHeartbeats 1000000 in
theorem rpart_any (S : Bs) (hS : S.length = 232) (a : Int) (h1 : -1 ≤ a) (h2 : a ≤ 232) (n : Nat) (hn : n ≤ 5000) (w : World) : Calls Tryz.prog 87 #[.string (bs S), .int .i64 a, .int .i64 (n : Nat)] w fun e w' => PartGives S a n w w' e := by
  have hz2 : (bs S).size = 232 := by rw [bs_size, hS]
  by_cases h0 : a < 0
  · have ea : a = -1 := by omega
    subst ea
    have HN := hid (part_no (S := S) (a := -1) (n := n) (w := w) (w' := w) rfl (Below.refl _ _))
    go_enter Tryz.func87, Tryz.ntmps87
    go_wp2
    go_ret2
    exact HN.out
  · obtain ⟨k, rfl⟩ := Int.eq_ofNat_of_zero_le (show 0 ≤ a by omega)
    have hk : k ≤ 232 := by omega
    have e0 : fromS S (k : Int) (fun T => byS T n) = byS (S.drop k) n := fromS_at S k _
    have hdl : (S.drop k).length = 232 - k := by rw [List.length_drop, hS]
    have hk1 : ¬ (k : Int) < 0 := by omega
    have hk2 : ¬ (232 : Int) < (k : Int) := by omega
    by_cases hb : 232 - k < n
    · have hb' : (232 : Int) - (k : Int) < n := by omega
      have hby : byS (S.drop k) n = none := by unfold byS; rw [hdl, if_pos hb]
      have HN := hid (part_no (S := S) (a := k) (n := n) (w := w) (w' := w) (e0.trans hby) (Below.refl _ _))
      clear hby e0 hdl hb
      go_enter Tryz.func87, Tryz.ntmps87
      go_wp2
      go_ret2
      exact HN.out
    · have hb' : ¬ (232 : Int) - (k : Int) < n := by omega
      have hby : byS (S.drop k) n = some ((S.drop k).take n, (S.drop k).drop n) := by unfold byS; rw [hdl, if_neg hb]
      have HN : Hid (PartGives S k n w w (.returned (.tuple #[.string (bs ((S.drop k).take n)), .int .i64 ((k : Int) + (n : Int))]))) := hid ⟨_, _, rfl, Or.inl ⟨k + n, by omega, by omega, by rw [e0, hby, List.drop_drop]⟩, Below.refl _ _⟩
      have hex := ex_mid S k n
      have hkn : (k : Int) + (n : Int) ≤ 232 := by omega
      have hkn2 : k + n ≤ 232 := by omega
      clear hby e0 hdl hb
      go_enter Tryz.func87, Tryz.ntmps87
      go_wp2
      go_ret2
      exact HN.out
def FixGives (S : Bs) (a : Int) (w w' : World) (e : Ending) : Prop := ∃ (q : Nat) (nx : Int), e = .returned (.tuple #[.int .i64 (q : Nat), .int .i64 nx]) ∧ Rat S (fromS S a fun T => fxS T 4) q nx ∧ Below w.heap.size w w'
set_option maxRecDepth 100000 in
set_option maxHeartbeats 1000000 in
theorem rfixed_at (S : Bs) (hS : S.length = 232) (a : Int) (h1 : -1 ≤ a) (h2 : a ≤ 232) (w : World) : Calls Tryz.prog 85 #[.string (bs S), .int .i64 a] w fun e w' => FixGives S a w w' e := by
  have HP := hid (rpart_any S hS a h1 h2 4 (by decide) w)
  go_enter Tryz.func85, Tryz.ntmps85
  go_wp2_with fail
  refine HP.out.mono ?_
  rintro e w3 ⟨y, nx, rfl, hr, hb⟩
  have HB := hid hb
  clear hb
  rcases hr with ⟨k, rfl, hk, hx⟩ | ⟨rfl, hx⟩
  · have hk1 : ¬ (k : Int) < 0 := by omega
    have hy : y.length = 4 := by
      unfold fromS at hx
      split at hx
      · cases hx
      · exact (byS_back hx).2
    have hfx : fromS S a (fun T => fxS T 4) = some (unfF 0 y, S.drop k) := by
      unfold fromS at hx ⊢
      split at hx
      · cases hx
      · rename_i h
        rw [if_neg h]
        show (byS (S.drop a.toNat) 4).map _ = _
        have hx' : byS (S.drop a.toNat) 4 = _ := hx
        rw [hx']
        rfl
    have hlt := Num.unfF_lt y 0
    rw [hy] at hlt
    have HU := hid (runf_b y (by omega) (by omega))
    have HN : Hid (∀ w', Below w.heap.size w w' → FixGives S a w w' (.returned (.tuple #[.int .i64 (unfF 0 y : Nat), .int .i64 (k : Int)]))) := hid fun w' hb => ⟨_, _, rfl, Or.inl ⟨k, rfl, hk, hfx⟩, hb⟩
    have hqi : IntKind.i64.wrap (unfF 0 y : Int) = (unfF 0 y : Int) := by rw [IntKind.wrap_i64]; omega
    clear hx hfx hy hlt
    generalize unfF 0 y = q at *
    go_wp2_with fail
    refine (HU.out _).mono ?_
    rintro e w4 ⟨rfl, rfl⟩
    go_wp2
    go_ret2
    exact HN.out _ HB.out
  · have hfx : fromS S a (fun T => fxS T 4) = none := by
      unfold fromS at hx ⊢
      split at hx
      · rename_i h; rw [if_pos h]
      · rename_i h
        rw [if_neg h]
        show (byS (S.drop a.toNat) 4).map _ = _
        have hx' : byS (S.drop a.toNat) 4 = _ := hx
        rw [hx']
        rfl
    have HN : Hid (∀ w', Below w.heap.size w w' → FixGives S a w w' (.returned (.tuple #[.int .i64 (0 : Nat), .int .i64 (-1)]))) := hid fun w' hb => ⟨_, _, rfl, Or.inr ⟨rfl, hfx⟩, hb⟩
    clear hx hfx
    go_wp2
    go_ret2
    exact HN.out _ HB.out
end No
end Go.Proofs.YtoifhcmgeackdaaGreatDoor

/-
  Contract of the reference's Decode.
-/
namespace Go.Proofs.YtoifhcmgeackdaaGreatDoor
open Go.RowKit
namespace No
open Num (hid)
/-- The reference's Decode under way: its box and lists. -/
structure Rst (w0 : World) (ks cs ps : Value) (n : N) (w : World) : Prop where
  bx : Nb (w0.heap.size + 1) n.f ks cs ps w
  rs : Nb w0.heap.size false nilV nilV nilV w
  k : OwnS w (w0.heap.size + 2) ks n.ks
  c : OwnC w (w0.heap.size + 2) cs n.cs
  p : OwnI w (w0.heap.size + 2) ps n.ps
  kc : ∀ i, ks.ownBlock = some i → cs.ownBlock = some i → False
  kp : ∀ i, ks.ownBlock = some i → ps.ownBlock = some i → False
  cp : ∀ i, cs.ownBlock = some i → ps.ownBlock = some i → False
  hs : w0.heap.size + 2 ≤ w.heap.size
  be : Below w0.heap.size w0 w
section
variable {ks cs ps : Value} {n : N} {w0 w w' : World}
theorem Rst.on (h : Rst w0 ks cs ps n w) (hb : Below w.heap.size w w') : Rst w0 ks cs ps n w' :=
  ⟨h.bx.on hb, h.rs.on hb, OwnL.on h.k hb, OwnL.on h.c hb, OwnL.on h.p hb, h.kc, h.kp, h.cp, Nat.le_trans h.hs hb.size, h.be.trans (hb.mono (by have := h.hs; omega))⟩
theorem Rst.alloc (h : Rst w0 ks cs ps n w) (o : Obj) : Rst w0 ks cs ps n (w.alloc o) := h.on ((Below.refl _ _).alloc (Nat.le_refl _) o)
theorem Rst.drew (h : Rst w0 ks cs ps n w) : Rst w0 ks cs ps n w.drew := h.on (Below.refl _ _).drew
theorem Rst.grown (h : Rst w0 ks cs ps n w) {row : Option Nat} (hg : w.grownBy w' row) (hr : ∀ i, row = some i → w0.heap.size + 2 ≤ i) : Nb (w0.heap.size + 1) n.f ks cs ps w' ∧ Nb w0.heap.size false nilV nilV nilV w' ∧ Below w0.heap.size w0 w' ∧ w0.heap.size + 2 ≤ w'.heap.size :=
  ⟨h.bx.grown hg (fun e => by have := hr _ e.symm; omega), h.rs.grown hg (fun e => by have := hr _ e.symm; omega), h.be.grown hg h.be.size (fun i hi => by have := hr i hi; omega), Nat.le_trans h.hs hg.size⟩
theorem Rst.pushK (h : Rst w0 ks cs ps n w) {m cap g' : Nat} {x : Bs} (hown : OwnS w' (w0.heap.size + 2) (.slice (some ⟨g', 0, none⟩) m cap) (n.ks ++ [x])) (hg : w.grownBy w' ks.ownBlock) (hat : ks.ownBlock = some g' ∨ g' = w.heap.size) :
    Rst w0 (.slice (some ⟨g', 0, none⟩) m cap) cs ps ⟨n.f, n.ks ++ [x], n.cs, n.ps⟩ (w'.setCell ⟨w0.heap.size + 1, 1, none⟩ (.slice (some ⟨g', 0, none⟩) m cap)) := by
  obtain ⟨a2, a3, a4, a5⟩ := h.grown hg (fun i hi => (OwnL.fresh h.k i hi).1)
  have hb : w0.heap.size + 1 < w0.heap.size + 2 := by omega
  refine ⟨a2.setK _, a3.other (by omega) _ _, hown.set hb _, (OwnL.grown h.c hg (fun i hi hk => h.kc i hk hi)).set hb _, (OwnL.grown h.p hg (fun i hi hk => h.kp i hk hi)).set hb _, ?_, ?_, h.cp, by simpa [World.setCell] using a5, bput a4 (by omega) _ _⟩
  · intro i hi hc
    have hi' : g' = i := by simpa [Value.ownBlock] using hi
    subst hi'
    rcases hat with hat | hat
    · exact h.kc _ hat hc
    · have := (OwnL.fresh h.c _ hc).2; omega
  · intro i hi hc
    have hi' : g' = i := by simpa [Value.ownBlock] using hi
    subst hi'
    rcases hat with hat | hat
    · exact h.kp _ hat hc
    · have := (OwnL.fresh h.p _ hc).2; omega
theorem Rst.pushC (h : Rst w0 ks cs ps n w) {m cap g' : Nat} {x : C} (hown : OwnC w' (w0.heap.size + 2) (.slice (some ⟨g', 0, none⟩) m cap) (n.cs ++ [x])) (hg : w.grownBy w' cs.ownBlock) (hat : cs.ownBlock = some g' ∨ g' = w.heap.size) :
    Rst w0 ks (.slice (some ⟨g', 0, none⟩) m cap) ps ⟨n.f, n.ks, n.cs ++ [x], n.ps⟩ (w'.setCell ⟨w0.heap.size + 1, 2, none⟩ (.slice (some ⟨g', 0, none⟩) m cap)) := by
  obtain ⟨a2, a3, a4, a5⟩ := h.grown hg (fun i hi => (OwnL.fresh h.c i hi).1)
  have hb : w0.heap.size + 1 < w0.heap.size + 2 := by omega
  refine ⟨a2.setC _, a3.other (by omega) _ _, (OwnL.grown h.k hg (fun i hi hk => h.kc i hi hk)).set hb _, hown.set hb _, (OwnL.grown h.p hg (fun i hi hk => h.cp i hk hi)).set hb _, ?_, h.kp, ?_, by simpa [World.setCell] using a5, bput a4 (by omega) _ _⟩
  · intro i hc hi
    have hi' : g' = i := by simpa [Value.ownBlock] using hi
    subst hi'
    rcases hat with hat | hat
    · exact h.kc _ hc hat
    · have := (OwnL.fresh h.k _ hc).2; omega
  · intro i hi hc
    have hi' : g' = i := by simpa [Value.ownBlock] using hi
    subst hi'
    rcases hat with hat | hat
    · exact h.cp _ hat hc
    · have := (OwnL.fresh h.p _ hc).2; omega
theorem Rst.pushP (h : Rst w0 ks cs ps n w) {m cap g' : Nat} {x : Int} (hown : OwnI w' (w0.heap.size + 2) (.slice (some ⟨g', 0, none⟩) m cap) (n.ps ++ [x])) (hg : w.grownBy w' ps.ownBlock) (hat : ps.ownBlock = some g' ∨ g' = w.heap.size) :
    Rst w0 ks cs (.slice (some ⟨g', 0, none⟩) m cap) ⟨n.f, n.ks, n.cs, n.ps ++ [x]⟩ (w'.setCell ⟨w0.heap.size + 1, 3, none⟩ (.slice (some ⟨g', 0, none⟩) m cap)) := by
  obtain ⟨a2, a3, a4, a5⟩ := h.grown hg (fun i hi => (OwnL.fresh h.p i hi).1)
  have hb : w0.heap.size + 1 < w0.heap.size + 2 := by omega
  refine ⟨a2.setP _, a3.other (by omega) _ _, (OwnL.grown h.k hg (fun i hi hk => h.kp i hi hk)).set hb _, (OwnL.grown h.c hg (fun i hi hk => h.cp i hi hk)).set hb _, hown.set hb _, h.kc, ?_, ?_, by simpa [World.setCell] using a5, bput a4 (by omega) _ _⟩
  · intro i hc hi
    have hi' : g' = i := by simpa [Value.ownBlock] using hi
    subst hi'
    rcases hat with hat | hat
    · exact h.kp _ hc hat
    · have := (OwnL.fresh h.k _ hc).2; omega
  · intro i hc hi
    have hi' : g' = i := by simpa [Value.ownBlock] using hi
    subst hi'
    rcases hat with hat | hat
    · exact h.cp _ hc hat
    · have := (OwnL.fresh h.c _ hc).2; omega
theorem Rst.nat (h : Rst w0 ks cs ps n w) (h1 : n.ks.length ≤ 1000000) (h2 : n.cs.length ≤ 1000000) (h3 : n.ps.length ≤ 1000000) : NAt w ks cs ps n :=
  ⟨OwnL.row sV_len h.k (by unfold maxLen; omega), OwnL.row vals_len h.c (by unfold maxLen; omega), OwnL.row iV_len h.p (by unfold maxLen; omega)⟩
theorem Rst.fin (h : Rst w0 ks cs ps n w) (h1 : n.ks.length ≤ 1000000) (h2 : n.cs.length ≤ 1000000) (h3 : n.ps.length ≤ 1000000) : NAt (put4 w w0.heap.size n.f ks cs ps) ks cs ps n ∧ Nb w0.heap.size n.f ks cs ps (put4 w w0.heap.size n.f ks cs ps) ∧ Below w0.heap.size w0 (put4 w w0.heap.size n.f ks cs ps) :=
  ⟨nat_put (h.nat h1 h2 h3) h.rs, h.rs.put _ _ _ _, bput (bput (bput (bput h.be (Nat.le_refl _) 0 _) (Nat.le_refl _) 1 _) (Nat.le_refl _) 2 _) (Nat.le_refl _) 3 _⟩
theorem Rst.nil (h : Rst w0 ks cs ps n w) : Nb w0.heap.size false nilV nilV nilV (put4 w w0.heap.size false nilV nilV nilV) ∧ Below w0.heap.size w0 (put4 w w0.heap.size false nilV nilV nilV) :=
  ⟨h.rs.put _ _ _ _, bput (bput (bput (bput h.be (Nat.le_refl _) 0 _) (Nat.le_refl _) 1 _) (Nat.le_refl _) 2 _) (Nat.le_refl _) 3 _⟩
theorem OwnL.apart {α : Type} {t : TypeId} {k : Nat} {enc : α → List Value} {base : Nat} {x : Value} {l : List α} {w : World} (h : OwnL t k enc w base x l) {g : Nat} (hne : ∀ i, x.ownBlock = some i → i ≠ g) (j : Nat) (u : Value) : OwnL t k enc (w.setCell ⟨g, j, none⟩ u) base x l := by
  obtain ⟨h1, h2⟩ := h
  refine ⟨h1, ?_⟩
  rcases h2 with h2 | ⟨g', cap, cur, e1, e2, e3, e4⟩
  · exact Or.inl h2
  · exact Or.inr ⟨g', cap, cur, e1, e2, by rw [Below.heap_setCell _ _ _ _ (hne g' (by rw [e1]; rfl))]; exact e3, e4⟩
/-- A store into a block that was made behind the lists. -/
theorem Rst.put1 (h : Rst w0 ks cs ps n w) {v : World} (h5 : Rst w0 ks cs ps n v) (j : Nat) (u : Value) : Rst w0 ks cs ps n (w.setCell ⟨v.heap.size, j, none⟩ u) := by
  have hs := h5.hs
  have f1 := fun i hi => Nat.ne_of_lt (OwnL.fresh h5.k i hi).2
  have f2 := fun i hi => Nat.ne_of_lt (OwnL.fresh h5.c i hi).2
  have f3 := fun i hi => Nat.ne_of_lt (OwnL.fresh h5.p i hi).2
  exact ⟨h.bx.other (by omega) _ _, h.rs.other (by omega) _ _, OwnL.apart h.k f1 _ _, OwnL.apart h.c f2 _ _, OwnL.apart h.p f3 _ _, h.kc, h.kp, h.cp, by simpa [World.setCell] using h.hs, bput h.be (by omega) _ _⟩
theorem Cb.setD {g : Nat} {z : Int} {d : Bs} {p : Int} {w : World} (h : Cb g ⟨z, d, p⟩ w) (d' : Bs) : Cb g ⟨z, d', p⟩ (w.setCell ⟨g, 1, none⟩ (.string (bs d'))) := by
  unfold Cb at h ⊢
  simp [World.setCell, Array.getElem?_modify, h]
theorem Cb.setG {g : Nat} {z : Int} {d : Bs} {p : Int} {w : World} (h : Cb g ⟨z, d, p⟩ w) (p' : Int) : Cb g ⟨z, d, p'⟩ (w.setCell ⟨g, 2, none⟩ (.int .i64 p')) := by
  unfold Cb at h ⊢
  simp [World.setCell, Array.getElem?_modify, h]
theorem Rst.new (f : Bool) (w : World) : Rst w nilV nilV nilV ⟨f, [], [], []⟩ ((w.alloc noObj).alloc (.cells #[.bool f, .slice none 0 0, .slice none 0 0, .slice none 0 0] tN)) := by
  have e : (w.alloc noObj).heap.size = w.heap.size + 1 := by simp
  have hx := Nb.new f nilV nilV nilV (w.alloc noObj)
  rw [e] at hx
  have n1 : ∀ i, nilV.ownBlock = some i → nilV.ownBlock = some i → False := fun i hi => by simp [nilV, Value.ownBlock] at hi
  exact ⟨hx, (Nb.new false nilV nilV nilV w).on ((Below.refl _ _).alloc (Nat.le_refl _) _), OwnL.empty _ _, OwnL.empty _ _, OwnL.empty _ _, n1, n1, n1, by simp, ((Below.refl w.heap.size w).alloc (Nat.le_refl _) _).alloc (by simp) _⟩
end
theorem rdecR_short {S : Bs} (h : S.length ≠ 232) : rdecR S = ⟨noN, 1⟩ := by unfold rdecR; rw [if_pos h]
theorem rdecR_none {S : Bs} (h : S.length = 232) (hp : rparse S = none) : rdecR S = ⟨noN, 4⟩ := by unfold rdecR; rw [if_neg (by simpa using h), hp]
theorem rdecR_some {S t : Bs} {n : N} (h : S.length = 232) (hp : rparse S = some (n, t)) : rdecR S = if (encR n).e = 0 ∧ (encR n).s = S then ⟨n, 0⟩ else ⟨noN, 4⟩ := by unfold rdecR; rw [if_neg (by simpa using h), hp]
set_option maxRecDepth 100000 in
set_option maxHeartbeats 16000000 in
theorem rdecode_leaf (S : Bs) (hl : S.length = 232) (h1 : (S[0]'(by omega)).toNat = 1) (w : World) :
    Calls Tryz.prog 46 #[.string (bs S)] w fun e w' => DecGives (rdecR S) w w' e := by
  have hz : (bs S).size = 232 := by rw [bs_size, hl]
  have HL := hid hl
  have hfb : ((((bs S)[0]'(by omega)).toNat : Int) == 1) = true := by
    have e : (bs S)[0]'(by omega) = S[0]'(by omega) := rfl
    rw [e]
    rw [h1]; rfl
  obtain ⟨x1, hx1⟩ : ∃ x : Nat, ((bs S)[1]'(by omega)).toNat = x := ⟨_, rfl⟩
  obtain ⟨x2, hx2⟩ : ∃ x : Nat, ((bs S)[2]'(by omega)).toNat = x := ⟨_, rfl⟩
  have hb1 : x1 < 256 := by rw [← hx1]; exact UInt8.toNat_lt _
  have hb2 : x2 < 256 := by rw [← hx2]; exact UInt8.toNat_lt _
  obtain ⟨c, hc⟩ : ∃ c, c = x1 * 256 + x2 := ⟨_, rfl⟩
  have hcc : (S[1]'(by omega)).toNat * 256 + (S[2]'(by omega)).toNat = c := by
    rw [hc, ← hx1, ← hx2]
    rfl
  have HP0 := hid (RPr.start_leaf hl h1)
  rw [hcc] at HP0
  have hc6 : c < 65536 := by omega
  have S0 := hid (Rst.new true w)
  generalize hX : rdecR S = X
  have HX := hid hX
  have HNone : Hid (rparse S = none → X = ⟨noN, 4⟩) := hid (fun hp => hX.symm.trans (rdecR_none HL.out hp))
  have HSome : Hid (∀ n t, rparse S = some (n, t) → X = if (encR n).e = 0 ∧ (encR n).s = S then ⟨n, 0⟩ else ⟨noN, 4⟩) := hid (fun n t hp => hX.symm.trans (rdecR_some HL.out hp))
  clear hX h1 hcc
  go_enter Tryz.func46, Tryz.ntmps46
  go_upto_region 4 with fail
  generalize (w.alloc (.cells #[.bool false, .slice none 0 0, .slice none 0 0, .slice none 0 0] tN)).alloc (.cells #[.bool true, .slice none 0 0, .slice none 0 0, .slice none 0 0] tN) = wv at *
  refine wp_quiet_in (fun wx => Below wv.heap.size wv wx) (by kernel_rfl) (by kernel_rfl) (Below.refl _ _).drew ?_
  go_big_quiet_want
  go_big_quiet_op
  go_big_quiet_on
  go_big_quiet_want
  go_big_quiet_op
  refine ⟨.int .u8 (x1 : Nat), fun wx hx => ?_, ?_⟩
  · simp [go_sem]
  go_big_quiet_on
  go_big_quiet_want
  go_big_quiet_op
  refine ⟨.int .i64 (x1 : Nat), fun wx hx => ?_, ?_⟩
  · simp [go_sem]
  go_big_quiet_on
  go_big_quiet_want
  go_big_quiet_op
  refine ⟨.int .i64 ((x1 : Int) * 256), fun wx hx => ?_, ?_⟩
  · simp [go_sem] <;> omega
  go_big_quiet_on
  go_big_quiet_want
  go_big_quiet_op
  go_big_quiet_on
  go_big_quiet_want
  go_big_quiet_op
  refine ⟨.int .u8 (x2 : Nat), fun wx hx => ?_, ?_⟩
  · simp [go_sem]
  go_big_quiet_on
  go_big_quiet_want
  go_big_quiet_op
  refine ⟨.int .i64 (x2 : Nat), fun wx hx => ?_, ?_⟩
  · simp [go_sem]
  go_big_quiet_on
  go_big_quiet_want
  go_big_quiet_op
  refine ⟨.int .i64 (c : Nat), fun wx hx => ?_, ?_⟩
  · simp [go_sem] <;> omega
  go_big_quiet_on
  go_big_quiet_want
  go_big_quiet_op
  go_big_quiet_on
  refine wpQuiet_nil ?_
  intro w5 hb5
  have S1 := hid (S0.out.on hb5)
  clear hb5 hx1 hx2 hb1 hb2 hc hfb
  obtain ⟨c0, c1, c2, c3⟩ := S1.out.bx.cells
  obtain ⟨iS, hiS, h0S, h1S, h2S⟩ := info_parts infoS
  obtain ⟨iC, hiC, h0C, h1C, h2C⟩ := info_parts infoC
  obtain ⟨iI, hiI, h0I, h1I, h2I⟩ := info_parts infoI
  unfold nilV at c1 c2 c3
  go_wp2
  go_loopw [6, 9] (fun a i wr => ∃ (j : Nat) (n : N) (ks cs ps : Value) (av : Int), a = .int .i64 av ∧ i = .int .i64 j ∧ Hid (Rst w ks cs ps n wr) ∧ Hid (RPr S c true j n av)) (fun _ i _ => c - (intOf i).toNat)
  case atStart => exact ⟨0, _, _, _, _, 3, rfl, rfl, S1, HP0⟩
  case round =>
    obtain ⟨j, n, ks, cs, ps, av, rfl, rfl, HS, HPr⟩ := hrel
    clear c0 c1 c2 c3
    obtain ⟨aoK, capK, rfl⟩ := HS.out.k.form
    obtain ⟨aoC, capC, rfl⟩ := HS.out.c.form
    obtain ⟨aoP, capP, rfl⟩ := HS.out.p.form
    obtain ⟨b0, b1, b2, b3⟩ := HS.out.bx.cells
    rw [HPr.out.ff] at b0
    have hlb := HS.out.bx.lt
    have ham := HPr.out.am
    have hjc := HPr.out.jc
    have hjj := HPr.out.jj
    have hkl := HPr.out.kk
    have hcl := HPr.out.cc
    have hpl := HPr.out.pp
    by_cases hlt : j < c
    · have hlt' : (j : Int) < c := by omega
      by_cases h0 : 0 ≤ av
      · have h0' : (0 : Int) ≤ av := h0
        have HN1 := hid (rnumber_any S HL.out av (by omega) ham)
        go_wp2_with fail
        refine (HN1.out _).mono ?_
        rintro e w6 ⟨z, a1, rfl, hz5, hr1, hb⟩
        have S2 := hid (HS.out.on hb)
        have HR1 := hid hr1
        have hm1 := hr1.most
        rw [HL.out] at hm1
        obtain ⟨hm1a, hm1b⟩ := hm1
        have HP1 := hid (rpart_any S HL.out a1 hm1a hm1b z hz5)
        clear hb hr1 b0 b1 b2 b3
        go_wp2_with fail
        refine (HP1.out _).mono ?_
        rintro e w7 ⟨key, a2, rfl, hr2, hb⟩
        have S3 := hid (S2.out.on hb)
        have HRK := hid (rat_key HR1.out hr2)
        have hm2 := hr2.most
        rw [HL.out] at hm2
        obtain ⟨hm2a, hm2b⟩ := hm2
        clear hb hr2 HP1 HN1
        by_cases h2 : a2 < 0
        · have hx : X = ⟨noN, 4⟩ := HNone.out (HPr.out.nokey h0 hlt HRK.out h2)
          subst hx
          have HF := hid S3.out.nil
          have hls := S3.out.rs.lt
          obtain ⟨s0, s1, s2, s3⟩ := S3.out.rs.free
          obtain ⟨r0, r1, r2, r3⟩ := S3.out.rs.cells
          unfold nilV at r1 r2 r3
          go_wp2
          obtain ⟨g4, g5⟩ := HF.out
          obtain ⟨u0, u1, u2, u3⟩ := g4.cells
          unfold nilV at u0 u1 u2 u3
          refine @bodyPost_ret Tryz.prog Tryz.f46 (fun e w' => DecGives ⟨noN, 4⟩ w w' e) _ _ (.tuple #[nV false nilV nilV nilV, .int .i64 4]) ?_ ?_ ?_
          · simp [results, nV, nilV, go_sem, u0, u1, u2, u3]
          · rfl
          · exact ⟨⟨nilV, nilV, nilV, rfl, nat_no _⟩, g5⟩
        · obtain ⟨b0, b1, b2, b3⟩ := S3.out.bx.cells
          rw [HPr.out.ff] at b0
          have hlb3 := S3.out.bx.lt
          clear HS S2
          go_wp2_with (at_builtin; refine wpList_append_lies _ rfl (.tmp 82) (.tmp 84) tSs rfl (w.heap.size + 2) tS iS _ 1 16 Tryz.underlying22 hiS h0S h1S h2S rfl (by decide) (.slice aoK n.ks.length capK) n.ks.length (n.ks.flatMap sV) rfl (S3.out.alloc (.cells #[.string (bs key)] tS)).k ⟨w7.heap.size, 0, none⟩ 1 1 (sV key) rfl rfl (World.news_of_block (heap_alloc_new w7 _)) (sV_one key) Nat.one_pos (by unfold maxLen; omega) (by omega) (S3.out.alloc (.cells #[.string (bs key)] tS)).hs (w7.heap.size + 1) (by simp) ?_)
          intro g' cap' w8 hown hgrow hat hlt8
          obtain ⟨x2, -, -, -⟩ := (S3.out.alloc (.cells #[.string (bs key)] tS)).grown hgrow (fun i hi => (OwnL.fresh S3.out.k i hi).1)
          obtain ⟨y0, y1, y2, y3⟩ := x2.cells
          obtain ⟨z0, z1, z2, z3⟩ := x2.free
          have hxl := x2.lt
          have S4 := hid ((S3.out.alloc (.cells #[.string (bs key)] tS)).pushK (OwnL.snoc (enc := sV) hown) hgrow (hat.imp_right fun h => by simp [h]))
          clear hown hgrow hat x2 b0 b1 b2 b3 S3
          go_upto_region 18 with fail
          generalize w8.setCell ⟨w.heap.size + 1, 1, none⟩ (.slice (some ⟨g', 0, none⟩) (n.ks.length + 1) cap') = w9 at *
          clear y0 y1 y2 y3 z0 z1 z2 z3 hxl hlt8
          obtain ⟨b0, b1, b2, b3⟩ := S4.out.bx.cells
          simp only [HPr.out.ff] at b0
          have HN2 := hid (rnumber_any S HL.out a2 hm2a hm2b)
          go_wp2_with fail
          refine (HN2.out _).mono ?_
          rintro e w10 ⟨long, a3, rfl, hl5, hr3, hb⟩
          have S5 := hid (S4.out.on hb)
          have HR3 := hid hr3
          have hm3 := hr3.most
          rw [HL.out] at hm3
          obtain ⟨hm3a, hm3b⟩ := hm3
          have K1 := hid (Cb.new ⟨long, [], 0⟩ w10)
          have S6 := hid (S5.out.alloc (.cells #[.int .i64 (long : Nat), .string ⟨#[]⟩, .int .i64 0] tC))
          obtain ⟨k0, k1, k2⟩ := K1.out.cells
          obtain ⟨l0, l1, l2⟩ := K1.out.free
          have hkl1 := K1.out.lt
          have hne : w.heap.size + 1 < w10.heap.size := by have := S5.out.hs; omega
          simp only at k0 k1 k2
          clear hb hr3 HN2 S4 b0 b1 b2 b3
          by_cases h40 : long ≤ 40
          · have h40' : ¬ (40 : Int) < (long : Nat) := by omega
            have HP2 := hid (rpart_any S HL.out a3 hm3a hm3b long hl5)
            go_wp2_with fail
            refine (HP2.out _).mono ?_
            rintro e w11 ⟨d, a4, rfl, hr4, hb⟩
            have HRC : Hid (Rat S (fromS S a2 ceS) (⟨(long : Nat), d, 0⟩ : C) a4) := hid (rat_cell HR3.out (rat_data hr4 h40))
            have S7 := hid (S6.out.on hb)
            have K2 := hid (K1.out.on hb)
            obtain ⟨k0, k1, k2⟩ := K2.out.cells
            obtain ⟨l0, l1, l2⟩ := K2.out.free
            have hkl2 := K2.out.lt
            simp only at k0 k1 k2
            have S8 := hid (S7.out.put1 S5.out 1 (.string (bs d)))
            have K3 : Hid (Cb w10.heap.size ⟨long, d, 0⟩ (w11.setCell ⟨w10.heap.size, 1, none⟩ (.string (bs d)))) := hid (K2.out.setD d)
            clear hb hr4 HP2
            go_upto_region 31 with fail
            generalize w11.setCell ⟨w10.heap.size, 1, none⟩ (.string (bs d)) = w12 at *
            obtain ⟨b0, b1, b2, b3⟩ := S8.out.bx.cells
            simp only [HPr.out.ff] at b0
            obtain ⟨k0, k1, k2⟩ := K3.out.cells
            simp only at k0 k1 k2
            have hlb8 := S8.out.bx.lt
            have hkl3 := K3.out.lt
            clear S5 S6 S7 K1 K2
            go_wp2_with (at_builtin; refine wpList_append_lies _ rfl (.tmp 133) (.tmp 135) tCs rfl (w.heap.size + 2) tC iC _ 3 32 Tryz.underlying88 hiC h0C h1C h2C rfl (by decide) (.slice aoC n.cs.length capC) n.cs.length (n.cs.flatMap C.vals) rfl (S8.out.alloc (.cells #[.int .i64 (⟨(long : Nat), d, 0⟩ : C).z, .string (bs (⟨(long : Nat), d, 0⟩ : C).d), .int .i64 (⟨(long : Nat), d, 0⟩ : C).p] tC)).c ⟨w12.heap.size, 0, none⟩ 1 1 ((⟨(long : Nat), d, 0⟩ : C).vals) rfl rfl (World.news_of_block (heap_alloc_new w12 _)) (vals_one _) Nat.one_pos (by unfold maxLen; omega) (by omega) (S8.out.alloc (.cells #[.int .i64 (⟨(long : Nat), d, 0⟩ : C).z, .string (bs (⟨(long : Nat), d, 0⟩ : C).d), .int .i64 (⟨(long : Nat), d, 0⟩ : C).p] tC)).hs (w12.heap.size + 1) (by simp) ?_)
            intro g'' cap'' w13 hown hgrow hat hlt13
            obtain ⟨x2, -, -, -⟩ := (S8.out.alloc (.cells #[.int .i64 (⟨(long : Nat), d, 0⟩ : C).z, .string (bs (⟨(long : Nat), d, 0⟩ : C).d), .int .i64 (⟨(long : Nat), d, 0⟩ : C).p] tC)).grown hgrow (fun i hi => (OwnL.fresh S8.out.c i hi).1)
            obtain ⟨y0, y1, y2, y3⟩ := x2.cells
            obtain ⟨z0, z1, z2, z3⟩ := x2.free
            have hxl := x2.lt
            have S10 := hid ((S8.out.alloc (.cells #[.int .i64 (⟨(long : Nat), d, 0⟩ : C).z, .string (bs (⟨(long : Nat), d, 0⟩ : C).d), .int .i64 (⟨(long : Nat), d, 0⟩ : C).p] tC)).pushC (OwnL.snoc (enc := C.vals) hown) hgrow (hat.imp_right fun h => by simp [h]))
            have HPn : Hid (RPr S c true (j + 1) ⟨n.f, n.ks ++ [key], n.cs ++ [(⟨(long : Nat), d, 0⟩ : C)], n.ps⟩ a4) := hid (by
              have h := HPr.out.next HL.out h0 hlt (rat_leaf HRK.out HRC.out) rfl (Nat.le_refl _) (Nat.zero_le _)
              simpa [N.app] using h)
            clear hown hgrow hat x2 b0 b1 b2 b3 S8 K3 k0 k1 k2 l0 l1 l2
            go_wp2
            go_roundw
            case rel => exact ⟨j + 1, _, _, _, _, a4, rfl, by go_num, S10, HPn⟩
            case measure => simp [intOf]; omega
          · have h40' : (40 : Int) < (long : Nat) := by omega
            have HP2 := hid (rfixed_at S HL.out a3 hm3a hm3b)
            go_wp2_with fail
            refine (HP2.out _).mono ?_
            rintro e w11 ⟨d, a4, rfl, hr4, hb⟩
            have HRC : Hid (Rat S (fromS S a2 ceS) (⟨(long : Nat), [], (d : Nat)⟩ : C) a4) := hid (rat_cell HR3.out (rat_page hr4 h40))
            have S7 := hid (S6.out.on hb)
            have K2 := hid (K1.out.on hb)
            obtain ⟨k0, k1, k2⟩ := K2.out.cells
            obtain ⟨l0, l1, l2⟩ := K2.out.free
            have hkl2 := K2.out.lt
            simp only at k0 k1 k2
            have S8 := hid (S7.out.put1 S5.out 2 (.int .i64 (d : Nat)))
            have K3 : Hid (Cb w10.heap.size ⟨long, [], d⟩ (w11.setCell ⟨w10.heap.size, 2, none⟩ (.int .i64 (d : Nat)))) := hid (K2.out.setG d)
            clear hb hr4 HP2
            go_upto_region 31 with fail
            generalize w11.setCell ⟨w10.heap.size, 2, none⟩ (.int .i64 (d : Nat)) = w12 at *
            obtain ⟨b0, b1, b2, b3⟩ := S8.out.bx.cells
            simp only [HPr.out.ff] at b0
            obtain ⟨k0, k1, k2⟩ := K3.out.cells
            simp only at k0 k1 k2
            have hlb8 := S8.out.bx.lt
            have hkl3 := K3.out.lt
            clear S5 S6 S7 K1 K2
            go_wp2_with (at_builtin; refine wpList_append_lies _ rfl (.tmp 133) (.tmp 135) tCs rfl (w.heap.size + 2) tC iC _ 3 32 Tryz.underlying88 hiC h0C h1C h2C rfl (by decide) (.slice aoC n.cs.length capC) n.cs.length (n.cs.flatMap C.vals) rfl (S8.out.alloc (.cells #[.int .i64 (⟨(long : Nat), [], (d : Nat)⟩ : C).z, .string (bs (⟨(long : Nat), [], (d : Nat)⟩ : C).d), .int .i64 (⟨(long : Nat), [], (d : Nat)⟩ : C).p] tC)).c ⟨w12.heap.size, 0, none⟩ 1 1 ((⟨(long : Nat), [], (d : Nat)⟩ : C).vals) rfl rfl (World.news_of_block (heap_alloc_new w12 _)) (vals_one _) Nat.one_pos (by unfold maxLen; omega) (by omega) (S8.out.alloc (.cells #[.int .i64 (⟨(long : Nat), [], (d : Nat)⟩ : C).z, .string (bs (⟨(long : Nat), [], (d : Nat)⟩ : C).d), .int .i64 (⟨(long : Nat), [], (d : Nat)⟩ : C).p] tC)).hs (w12.heap.size + 1) (by simp) ?_)
            intro g'' cap'' w13 hown hgrow hat hlt13
            obtain ⟨x2, -, -, -⟩ := (S8.out.alloc (.cells #[.int .i64 (⟨(long : Nat), [], (d : Nat)⟩ : C).z, .string (bs (⟨(long : Nat), [], (d : Nat)⟩ : C).d), .int .i64 (⟨(long : Nat), [], (d : Nat)⟩ : C).p] tC)).grown hgrow (fun i hi => (OwnL.fresh S8.out.c i hi).1)
            obtain ⟨y0, y1, y2, y3⟩ := x2.cells
            obtain ⟨z0, z1, z2, z3⟩ := x2.free
            have hxl := x2.lt
            have S10 := hid ((S8.out.alloc (.cells #[.int .i64 (⟨(long : Nat), [], (d : Nat)⟩ : C).z, .string (bs (⟨(long : Nat), [], (d : Nat)⟩ : C).d), .int .i64 (⟨(long : Nat), [], (d : Nat)⟩ : C).p] tC)).pushC (OwnL.snoc (enc := C.vals) hown) hgrow (hat.imp_right fun h => by simp [h]))
            have HPn : Hid (RPr S c true (j + 1) ⟨n.f, n.ks ++ [key], n.cs ++ [(⟨(long : Nat), [], (d : Nat)⟩ : C)], n.ps⟩ a4) := hid (by
              have h := HPr.out.next HL.out h0 hlt (rat_leaf HRK.out HRC.out) rfl (Nat.le_refl _) (Nat.zero_le _)
              simpa [N.app] using h)
            clear hown hgrow hat x2 b0 b1 b2 b3 S8 K3 k0 k1 k2 l0 l1 l2
            go_wp2
            go_roundw
            case rel => exact ⟨j + 1, _, _, _, _, a4, rfl, by go_num, S10, HPn⟩
            case measure => simp [intOf]; omega
      · have h0' : ¬ (0 : Int) ≤ av := h0
        have hx : X = ⟨noN, 4⟩ := HNone.out (HPr.out.lost (by omega))
        subst hx
        have hav : av < 0 := by omega
        have HNA := hid (HS.out.nat (by omega) (by omega) (by omega))
        have HEn := hid (rencode_any (.slice aoK n.ks.length capK) (.slice aoC n.cs.length capC) (.slice aoP n.ps.length capP) n ⟨by omega, by omega, by omega⟩)
        rw [HPr.out.ff] at HEn
        unfold nV sV2 at HEn
        go_wp2_with fail
        refine (HEn.out _ HNA.out).mono ?_
        rintro e w6 ⟨rfl, hb⟩
        have S9 := hid (HS.out.on hb)
        clear hb b0 b1 b2 b3 HNA HEn
        have HF := hid S9.out.nil
        have hls := S9.out.rs.lt
        obtain ⟨s0, s1, s2, s3⟩ := S9.out.rs.free
        obtain ⟨r0, r1, r2, r3⟩ := S9.out.rs.cells
        unfold nilV at r1 r2 r3
        go_wp2
        obtain ⟨g4, g5⟩ := HF.out
        obtain ⟨u0, u1, u2, u3⟩ := g4.cells
        unfold nilV at u0 u1 u2 u3
        refine @bodyPost_ret Tryz.prog Tryz.f46 (fun e w' => DecGives ⟨noN, 4⟩ w w' e) _ _ (.tuple #[nV false nilV nilV nilV, .int .i64 4]) ?_ ?_ ?_
        · simp [results, nV, nilV, go_sem, u0, u1, u2, u3]
        · rfl
        · exact ⟨⟨nilV, nilV, nilV, rfl, nat_no _⟩, g5⟩
    · have hlt' : ¬ (j : Int) < c := by omega
      by_cases h0 : av < 0
      · have hx : X = ⟨noN, 4⟩ := HNone.out (HPr.out.lost h0)
        subst hx
        have hav : av < 0 := h0
        have HNA := hid (HS.out.nat (by omega) (by omega) (by omega))
        have HEn := hid (rencode_any (.slice aoK n.ks.length capK) (.slice aoC n.cs.length capC) (.slice aoP n.ps.length capP) n ⟨by omega, by omega, by omega⟩)
        rw [HPr.out.ff] at HEn
        unfold nV sV2 at HEn
        go_wp2_with fail
        refine (HEn.out _ HNA.out).mono ?_
        rintro e w6 ⟨rfl, hb⟩
        have S9 := hid (HS.out.on hb)
        clear hb b0 b1 b2 b3 HNA HEn
        have HF := hid S9.out.nil
        have hls := S9.out.rs.lt
        obtain ⟨s0, s1, s2, s3⟩ := S9.out.rs.free
        obtain ⟨r0, r1, r2, r3⟩ := S9.out.rs.cells
        unfold nilV at r1 r2 r3
        go_wp2
        obtain ⟨g4, g5⟩ := HF.out
        obtain ⟨u0, u1, u2, u3⟩ := g4.cells
        unfold nilV at u0 u1 u2 u3
        refine @bodyPost_ret Tryz.prog Tryz.f46 (fun e w' => DecGives ⟨noN, 4⟩ w w' e) _ _ (.tuple #[nV false nilV nilV nilV, .int .i64 4]) ?_ ?_ ?_
        · simp [results, nV, nilV, go_sem, u0, u1, u2, u3]
        · rfl
        · exact ⟨⟨nilV, nilV, nilV, rfl, nat_no _⟩, g5⟩
      · have hav : ¬ av < 0 := h0
        obtain ⟨t, hp⟩ := HPr.out.fin hlt (by omega)
        have HV := hid (HSome.out n t hp)
        clear hp
        have HNA := hid (HS.out.nat (by omega) (by omega) (by omega))
        have HEn := hid (rencode_any (.slice aoK n.ks.length capK) (.slice aoC n.cs.length capC) (.slice aoP n.ps.length capP) n ⟨by omega, by omega, by omega⟩)
        rw [HPr.out.ff] at HEn
        unfold nV sV2 at HEn
        go_wp2_with fail
        refine (HEn.out _ HNA.out).mono ?_
        rintro e w6 ⟨rfl, hb⟩
        have S9 := hid (HS.out.on hb)
        clear hb b0 b1 b2 b3 HNA HEn
        by_cases he : (encR n).e = 0
        · have he' : ((encR n).e != 0) = false := by rw [he]; rfl
          by_cases hs : (encR n).s = S
          · have hs' : ((bs (encR n).s).toList == (bs S).toList) = true := by rw [hs]; simp
            have hx : X = ⟨n, 0⟩ := by rw [HV.out, if_pos ⟨he, hs⟩]
            subst hx
            have HF := hid (S9.out.fin (by omega) (by omega) (by omega))
            have hls := S9.out.rs.lt
            obtain ⟨s0, s1, s2, s3⟩ := S9.out.rs.free
            obtain ⟨r0, r1, r2, r3⟩ := S9.out.rs.cells
            obtain ⟨b0, b1, b2, b3⟩ := S9.out.bx.cells
            rw [HPr.out.ff] at b0 HF
            unfold nilV at r1 r2 r3
            clear he hs HV
            generalize encR n = E at *
            go_wp2
            obtain ⟨g3, g4, g5⟩ := HF.out
            obtain ⟨u0, u1, u2, u3⟩ := g4.cells
            refine @bodyPost_ret Tryz.prog Tryz.f46 (fun e w' => DecGives ⟨n, 0⟩ w w' e) _ _ (.tuple #[nV true (.slice aoK n.ks.length capK) (.slice aoC n.cs.length capC) (.slice aoP n.ps.length capP), .int .i64 0]) ?_ ?_ ?_
            · simp [results, nV, go_sem, u0, u1, u2, u3]
            · rfl
            · exact ⟨⟨_, _, _, by rw [HPr.out.ff], g3⟩, g5⟩
          · have hs' : ((bs (encR n).s).toList == (bs S).toList) = false := by rw [bs_list, bs_list]; simpa using hs
            have hx : X = ⟨noN, 4⟩ := by rw [HV.out, if_neg (fun h => hs h.2)]
            subst hx
            clear he hs HV
            generalize encR n = E at *
            have HF := hid S9.out.nil
            have hls := S9.out.rs.lt
            obtain ⟨s0, s1, s2, s3⟩ := S9.out.rs.free
            obtain ⟨r0, r1, r2, r3⟩ := S9.out.rs.cells
            unfold nilV at r1 r2 r3
            go_wp2
            obtain ⟨g4, g5⟩ := HF.out
            obtain ⟨u0, u1, u2, u3⟩ := g4.cells
            unfold nilV at u0 u1 u2 u3
            refine @bodyPost_ret Tryz.prog Tryz.f46 (fun e w' => DecGives ⟨noN, 4⟩ w w' e) _ _ (.tuple #[nV false nilV nilV nilV, .int .i64 4]) ?_ ?_ ?_
            · simp [results, nV, nilV, go_sem, u0, u1, u2, u3]
            · rfl
            · exact ⟨⟨nilV, nilV, nilV, rfl, nat_no _⟩, g5⟩
        · have he' : ((encR n).e != 0) = true := by simpa using he
          have hx : X = ⟨noN, 4⟩ := by rw [HV.out, if_neg (fun h => he h.1)]
          subst hx
          clear he HV
          generalize encR n = E at *
          have HF := hid S9.out.nil
          have hls := S9.out.rs.lt
          obtain ⟨s0, s1, s2, s3⟩ := S9.out.rs.free
          obtain ⟨r0, r1, r2, r3⟩ := S9.out.rs.cells
          unfold nilV at r1 r2 r3
          go_wp2
          obtain ⟨g4, g5⟩ := HF.out
          obtain ⟨u0, u1, u2, u3⟩ := g4.cells
          unfold nilV at u0 u1 u2 u3
          refine @bodyPost_ret Tryz.prog Tryz.f46 (fun e w' => DecGives ⟨noN, 4⟩ w w' e) _ _ (.tuple #[nV false nilV nilV nilV, .int .i64 4]) ?_ ?_ ?_
          · simp [results, nV, nilV, go_sem, u0, u1, u2, u3]
          · rfl
          · exact ⟨⟨nilV, nilV, nilV, rfl, nat_no _⟩, g5⟩
set_option maxRecDepth 100000 in
set_option maxHeartbeats 16000000 in
theorem rdecode_inner (S : Bs) (hl : S.length = 232) (h1 : (S[0]'(by omega)).toNat ≠ 1) (w : World) :
    Calls Tryz.prog 46 #[.string (bs S)] w fun e w' => DecGives (rdecR S) w w' e := by
  have hz : (bs S).size = 232 := by rw [bs_size, hl]
  have HL := hid hl
  have hfb : ((((bs S)[0]'(by omega)).toNat : Int) == 1) = false := by
    have e : (bs S)[0]'(by omega) = S[0]'(by omega) := rfl
    rw [e]
    rw [beq_eq_false_iff_ne]; omega
  obtain ⟨x1, hx1⟩ : ∃ x : Nat, ((bs S)[1]'(by omega)).toNat = x := ⟨_, rfl⟩
  obtain ⟨x2, hx2⟩ : ∃ x : Nat, ((bs S)[2]'(by omega)).toNat = x := ⟨_, rfl⟩
  have hb1 : x1 < 256 := by rw [← hx1]; exact UInt8.toNat_lt _
  have hb2 : x2 < 256 := by rw [← hx2]; exact UInt8.toNat_lt _
  obtain ⟨c, hc⟩ : ∃ c, c = x1 * 256 + x2 := ⟨_, rfl⟩
  have hcc : (S[1]'(by omega)).toNat * 256 + (S[2]'(by omega)).toNat = c := by
    rw [hc, ← hx1, ← hx2]
    rfl
  have HP0 := hid (fun (q : Nat) (a : Int) hr => RPr.start_inner hl h1 (q := q) (a := a) hr)
  rw [hcc] at HP0
  have hc6 : c < 65536 := by omega
  have S0 := hid (Rst.new false w)
  generalize hX : rdecR S = X
  have HX := hid hX
  have HNone : Hid (rparse S = none → X = ⟨noN, 4⟩) := hid (fun hp => hX.symm.trans (rdecR_none HL.out hp))
  have HSome : Hid (∀ n t, rparse S = some (n, t) → X = if (encR n).e = 0 ∧ (encR n).s = S then ⟨n, 0⟩ else ⟨noN, 4⟩) := hid (fun n t hp => hX.symm.trans (rdecR_some HL.out hp))
  clear hX h1 hcc
  go_enter Tryz.func46, Tryz.ntmps46
  go_upto_region 4 with fail
  generalize (w.alloc (.cells #[.bool false, .slice none 0 0, .slice none 0 0, .slice none 0 0] tN)).alloc (.cells #[.bool false, .slice none 0 0, .slice none 0 0, .slice none 0 0] tN) = wv at *
  refine wp_quiet_in (fun wx => Below wv.heap.size wv wx) (by kernel_rfl) (by kernel_rfl) (Below.refl _ _).drew ?_
  go_big_quiet_want
  go_big_quiet_op
  go_big_quiet_on
  go_big_quiet_want
  go_big_quiet_op
  refine ⟨.int .u8 (x1 : Nat), fun wx hx => ?_, ?_⟩
  · simp [go_sem]
  go_big_quiet_on
  go_big_quiet_want
  go_big_quiet_op
  refine ⟨.int .i64 (x1 : Nat), fun wx hx => ?_, ?_⟩
  · simp [go_sem]
  go_big_quiet_on
  go_big_quiet_want
  go_big_quiet_op
  refine ⟨.int .i64 ((x1 : Int) * 256), fun wx hx => ?_, ?_⟩
  · simp [go_sem] <;> omega
  go_big_quiet_on
  go_big_quiet_want
  go_big_quiet_op
  go_big_quiet_on
  go_big_quiet_want
  go_big_quiet_op
  refine ⟨.int .u8 (x2 : Nat), fun wx hx => ?_, ?_⟩
  · simp [go_sem]
  go_big_quiet_on
  go_big_quiet_want
  go_big_quiet_op
  refine ⟨.int .i64 (x2 : Nat), fun wx hx => ?_, ?_⟩
  · simp [go_sem]
  go_big_quiet_on
  go_big_quiet_want
  go_big_quiet_op
  refine ⟨.int .i64 (c : Nat), fun wx hx => ?_, ?_⟩
  · simp [go_sem] <;> omega
  go_big_quiet_on
  go_big_quiet_want
  go_big_quiet_op
  go_big_quiet_on
  refine wpQuiet_nil ?_
  intro w5 hb5
  have S1 := hid (S0.out.on hb5)
  clear hb5 hx1 hx2 hb1 hb2 hc hfb
  obtain ⟨c0, c1, c2, c3⟩ := S1.out.bx.cells
  obtain ⟨iS, hiS, h0S, h1S, h2S⟩ := info_parts infoS
  obtain ⟨iC, hiC, h0C, h1C, h2C⟩ := info_parts infoC
  obtain ⟨iI, hiI, h0I, h1I, h2I⟩ := info_parts infoI
  unfold nilV at c1 c2 c3
  have HF0 := hid (rfixed_at S HL.out 3 (by decide) (by decide))
  go_wp2_with fail
  refine (HF0.out _).mono ?_
  rintro e w6 ⟨q, a0, rfl, hr, hb⟩
  have S2 := hid (S1.out.on hb)
  have HP1 := hid (HP0.out q a0 hr)
  clear hb hr c0 c1 c2 c3 HF0
  obtain ⟨c0, c1, c2, c3⟩ := S2.out.bx.cells
  have hlb2 := S2.out.bx.lt
  unfold nilV at c1 c2 c3
  go_wp2_with (at_builtin; refine wpList_append_lies _ rfl (.tmp 50) (.tmp 52) tIs rfl (w.heap.size + 2) tI iI _ 1 8 Tryz.underlying58 hiI h0I h1I h2I rfl (by decide) (.slice none 0 0) 0 [] rfl (S2.out.alloc (.cells #[.int .i64 (q : Nat)] tI)).p ⟨w6.heap.size, 0, none⟩ 1 1 (iV (q : Nat)) rfl rfl (World.news_of_block (heap_alloc_new w6 _)) (iV_one _) Nat.one_pos (by unfold maxLen; omega) (by omega) (S2.out.alloc (.cells #[.int .i64 (q : Nat)] tI)).hs (w6.heap.size + 1) (by simp) ?_)
  intro g'' cap'' w7 hown hgrow hat hlt13
  obtain ⟨x2, -, -, -⟩ := (S2.out.alloc (.cells #[.int .i64 (q : Nat)] tI)).grown hgrow (fun i hi => (OwnL.fresh S2.out.p i hi).1)
  obtain ⟨y0, y1, y2, y3⟩ := x2.cells
  obtain ⟨z0, z1, z2, z3⟩ := x2.free
  have hxl := x2.lt
  have S3 := hid ((S2.out.alloc (.cells #[.int .i64 (q : Nat)] tI)).pushP (OwnL.snoc (enc := iV) hown) hgrow (hat.imp_right fun h => by simp [h]))
  clear hown hgrow hat x2
  go_wp2
  go_loopw [6, 9] (fun a i wr => ∃ (j : Nat) (n : N) (ks cs ps : Value) (av : Int), a = .int .i64 av ∧ i = .int .i64 j ∧ Hid (Rst w ks cs ps n wr) ∧ Hid (RPr S c false j n av)) (fun _ i _ => c - (intOf i).toNat)
  case atStart => exact ⟨0, _, _, _, _, a0, rfl, rfl, S3, HP1⟩
  case round =>
    obtain ⟨j, n, ks, cs, ps, av, rfl, rfl, HS, HPr⟩ := hrel
    clear c0 c1 c2 c3
    obtain ⟨aoK, capK, rfl⟩ := HS.out.k.form
    obtain ⟨aoC, capC, rfl⟩ := HS.out.c.form
    obtain ⟨aoP, capP, rfl⟩ := HS.out.p.form
    obtain ⟨b0, b1, b2, b3⟩ := HS.out.bx.cells
    rw [HPr.out.ff] at b0
    have hlb := HS.out.bx.lt
    have ham := HPr.out.am
    have hjc := HPr.out.jc
    have hjj := HPr.out.jj
    have hkl := HPr.out.kk
    have hcl := HPr.out.cc
    have hpl := HPr.out.pp
    by_cases hlt : j < c
    · have hlt' : (j : Int) < c := by omega
      by_cases h0 : 0 ≤ av
      · have h0' : (0 : Int) ≤ av := h0
        have HN1 := hid (rnumber_any S HL.out av (by omega) ham)
        go_wp2_with fail
        refine (HN1.out _).mono ?_
        rintro e w6 ⟨z, a1, rfl, hz5, hr1, hb⟩
        have S2 := hid (HS.out.on hb)
        have HR1 := hid hr1
        have hm1 := hr1.most
        rw [HL.out] at hm1
        obtain ⟨hm1a, hm1b⟩ := hm1
        have HP1 := hid (rpart_any S HL.out a1 hm1a hm1b z hz5)
        clear hb hr1 b0 b1 b2 b3
        go_wp2_with fail
        refine (HP1.out _).mono ?_
        rintro e w7 ⟨key, a2, rfl, hr2, hb⟩
        have S3 := hid (S2.out.on hb)
        have HRK := hid (rat_key HR1.out hr2)
        have hm2 := hr2.most
        rw [HL.out] at hm2
        obtain ⟨hm2a, hm2b⟩ := hm2
        clear hb hr2 HP1 HN1
        by_cases h2 : a2 < 0
        · have hx : X = ⟨noN, 4⟩ := HNone.out (HPr.out.nokey h0 hlt HRK.out h2)
          subst hx
          have HF := hid S3.out.nil
          have hls := S3.out.rs.lt
          obtain ⟨s0, s1, s2, s3⟩ := S3.out.rs.free
          obtain ⟨r0, r1, r2, r3⟩ := S3.out.rs.cells
          unfold nilV at r1 r2 r3
          go_wp2
          obtain ⟨g4, g5⟩ := HF.out
          obtain ⟨u0, u1, u2, u3⟩ := g4.cells
          unfold nilV at u0 u1 u2 u3
          refine @bodyPost_ret Tryz.prog Tryz.f46 (fun e w' => DecGives ⟨noN, 4⟩ w w' e) _ _ (.tuple #[nV false nilV nilV nilV, .int .i64 4]) ?_ ?_ ?_
          · simp [results, nV, nilV, go_sem, u0, u1, u2, u3]
          · rfl
          · exact ⟨⟨nilV, nilV, nilV, rfl, nat_no _⟩, g5⟩
        · obtain ⟨b0, b1, b2, b3⟩ := S3.out.bx.cells
          rw [HPr.out.ff] at b0
          have hlb3 := S3.out.bx.lt
          clear HS S2
          go_wp2_with (at_builtin; refine wpList_append_lies _ rfl (.tmp 82) (.tmp 84) tSs rfl (w.heap.size + 2) tS iS _ 1 16 Tryz.underlying22 hiS h0S h1S h2S rfl (by decide) (.slice aoK n.ks.length capK) n.ks.length (n.ks.flatMap sV) rfl (S3.out.alloc (.cells #[.string (bs key)] tS)).k ⟨w7.heap.size, 0, none⟩ 1 1 (sV key) rfl rfl (World.news_of_block (heap_alloc_new w7 _)) (sV_one key) Nat.one_pos (by unfold maxLen; omega) (by omega) (S3.out.alloc (.cells #[.string (bs key)] tS)).hs (w7.heap.size + 1) (by simp) ?_)
          intro g' cap' w8 hown hgrow hat hlt8
          obtain ⟨x2, -, -, -⟩ := (S3.out.alloc (.cells #[.string (bs key)] tS)).grown hgrow (fun i hi => (OwnL.fresh S3.out.k i hi).1)
          obtain ⟨y0, y1, y2, y3⟩ := x2.cells
          obtain ⟨z0, z1, z2, z3⟩ := x2.free
          have hxl := x2.lt
          have S4 := hid ((S3.out.alloc (.cells #[.string (bs key)] tS)).pushK (OwnL.snoc (enc := sV) hown) hgrow (hat.imp_right fun h => by simp [h]))
          clear hown hgrow hat x2 b0 b1 b2 b3 S3
          go_upto_region 18 with fail
          generalize w8.setCell ⟨w.heap.size + 1, 1, none⟩ (.slice (some ⟨g', 0, none⟩) (n.ks.length + 1) cap') = w9 at *
          clear y0 y1 y2 y3 z0 z1 z2 z3 hxl hlt8
          obtain ⟨b0, b1, b2, b3⟩ := S4.out.bx.cells
          simp only [HPr.out.ff] at b0
          have HF2 := hid (rfixed_at S HL.out a2 hm2a hm2b)
          go_wp2_with fail
          refine (HF2.out _).mono ?_
          rintro e w10 ⟨q2, a4, rfl, hr4, hb⟩
          have S5 := hid (S4.out.on hb)
          have HRP := hid hr4
          clear hb hr4 b0 b1 b2 b3 S4 HF2
          obtain ⟨b0, b1, b2, b3⟩ := S5.out.bx.cells
          simp only [HPr.out.ff] at b0
          have hlb5 := S5.out.bx.lt
          go_wp2_with (at_builtin; refine wpList_append_lies _ rfl (.tmp 97) (.tmp 99) tIs rfl (w.heap.size + 2) tI iI _ 1 8 Tryz.underlying58 hiI h0I h1I h2I rfl (by decide) (.slice aoP n.ps.length capP) n.ps.length (n.ps.flatMap iV) rfl (S5.out.alloc (.cells #[.int .i64 (q2 : Nat)] tI)).p ⟨w10.heap.size, 0, none⟩ 1 1 (iV (q2 : Nat)) rfl rfl (World.news_of_block (heap_alloc_new w10 _)) (iV_one _) Nat.one_pos (by unfold maxLen; omega) (by omega) (S5.out.alloc (.cells #[.int .i64 (q2 : Nat)] tI)).hs (w10.heap.size + 1) (by simp) ?_)
          intro g'' cap'' w13 hown hgrow hat hlt13
          obtain ⟨x2, -, -, -⟩ := (S5.out.alloc (.cells #[.int .i64 (q2 : Nat)] tI)).grown hgrow (fun i hi => (OwnL.fresh S5.out.p i hi).1)
          obtain ⟨y0, y1, y2, y3⟩ := x2.cells
          obtain ⟨z0, z1, z2, z3⟩ := x2.free
          have hxl := x2.lt
          have S10 := hid ((S5.out.alloc (.cells #[.int .i64 (q2 : Nat)] tI)).pushP (OwnL.snoc (enc := iV) hown) hgrow (hat.imp_right fun h => by simp [h]))
          clear hown hgrow hat x2
          have HPn : Hid (RPr S c false (j + 1) ⟨n.f, n.ks ++ [key], n.cs, n.ps ++ [((q2 : Nat) : Int)]⟩ a4) := hid (by
            have h := HPr.out.next HL.out h0 hlt (rat_inner HRK.out HRP.out) rfl (Nat.zero_le _) (Nat.le_refl _)
            simpa [N.app] using h)
          clear b0 b1 b2 b3 S5
          go_wp2
          go_roundw
          case rel => exact ⟨j + 1, _, _, _, _, a4, rfl, by go_num, S10, HPn⟩
          case measure => simp [intOf]; omega
      · have h0' : ¬ (0 : Int) ≤ av := h0
        have hx : X = ⟨noN, 4⟩ := HNone.out (HPr.out.lost (by omega))
        subst hx
        have hav : av < 0 := by omega
        have HNA := hid (HS.out.nat (by omega) (by omega) (by omega))
        have HEn := hid (rencode_any (.slice aoK n.ks.length capK) (.slice aoC n.cs.length capC) (.slice aoP n.ps.length capP) n ⟨by omega, by omega, by omega⟩)
        rw [HPr.out.ff] at HEn
        unfold nV sV2 at HEn
        go_wp2_with fail
        refine (HEn.out _ HNA.out).mono ?_
        rintro e w6 ⟨rfl, hb⟩
        have S9 := hid (HS.out.on hb)
        clear hb b0 b1 b2 b3 HNA HEn
        have HF := hid S9.out.nil
        have hls := S9.out.rs.lt
        obtain ⟨s0, s1, s2, s3⟩ := S9.out.rs.free
        obtain ⟨r0, r1, r2, r3⟩ := S9.out.rs.cells
        unfold nilV at r1 r2 r3
        go_wp2
        obtain ⟨g4, g5⟩ := HF.out
        obtain ⟨u0, u1, u2, u3⟩ := g4.cells
        unfold nilV at u0 u1 u2 u3
        refine @bodyPost_ret Tryz.prog Tryz.f46 (fun e w' => DecGives ⟨noN, 4⟩ w w' e) _ _ (.tuple #[nV false nilV nilV nilV, .int .i64 4]) ?_ ?_ ?_
        · simp [results, nV, nilV, go_sem, u0, u1, u2, u3]
        · rfl
        · exact ⟨⟨nilV, nilV, nilV, rfl, nat_no _⟩, g5⟩
    · have hlt' : ¬ (j : Int) < c := by omega
      by_cases h0 : av < 0
      · have hx : X = ⟨noN, 4⟩ := HNone.out (HPr.out.lost h0)
        subst hx
        have hav : av < 0 := h0
        have HNA := hid (HS.out.nat (by omega) (by omega) (by omega))
        have HEn := hid (rencode_any (.slice aoK n.ks.length capK) (.slice aoC n.cs.length capC) (.slice aoP n.ps.length capP) n ⟨by omega, by omega, by omega⟩)
        rw [HPr.out.ff] at HEn
        unfold nV sV2 at HEn
        go_wp2_with fail
        refine (HEn.out _ HNA.out).mono ?_
        rintro e w6 ⟨rfl, hb⟩
        have S9 := hid (HS.out.on hb)
        clear hb b0 b1 b2 b3 HNA HEn
        have HF := hid S9.out.nil
        have hls := S9.out.rs.lt
        obtain ⟨s0, s1, s2, s3⟩ := S9.out.rs.free
        obtain ⟨r0, r1, r2, r3⟩ := S9.out.rs.cells
        unfold nilV at r1 r2 r3
        go_wp2
        obtain ⟨g4, g5⟩ := HF.out
        obtain ⟨u0, u1, u2, u3⟩ := g4.cells
        unfold nilV at u0 u1 u2 u3
        refine @bodyPost_ret Tryz.prog Tryz.f46 (fun e w' => DecGives ⟨noN, 4⟩ w w' e) _ _ (.tuple #[nV false nilV nilV nilV, .int .i64 4]) ?_ ?_ ?_
        · simp [results, nV, nilV, go_sem, u0, u1, u2, u3]
        · rfl
        · exact ⟨⟨nilV, nilV, nilV, rfl, nat_no _⟩, g5⟩
      · have hav : ¬ av < 0 := h0
        obtain ⟨t, hp⟩ := HPr.out.fin hlt (by omega)
        have HV := hid (HSome.out n t hp)
        clear hp
        have HNA := hid (HS.out.nat (by omega) (by omega) (by omega))
        have HEn := hid (rencode_any (.slice aoK n.ks.length capK) (.slice aoC n.cs.length capC) (.slice aoP n.ps.length capP) n ⟨by omega, by omega, by omega⟩)
        rw [HPr.out.ff] at HEn
        unfold nV sV2 at HEn
        go_wp2_with fail
        refine (HEn.out _ HNA.out).mono ?_
        rintro e w6 ⟨rfl, hb⟩
        have S9 := hid (HS.out.on hb)
        clear hb b0 b1 b2 b3 HNA HEn
        by_cases he : (encR n).e = 0
        · have he' : ((encR n).e != 0) = false := by rw [he]; rfl
          by_cases hs : (encR n).s = S
          · have hs' : ((bs (encR n).s).toList == (bs S).toList) = true := by rw [hs]; simp
            have hx : X = ⟨n, 0⟩ := by rw [HV.out, if_pos ⟨he, hs⟩]
            subst hx
            have HF := hid (S9.out.fin (by omega) (by omega) (by omega))
            have hls := S9.out.rs.lt
            obtain ⟨s0, s1, s2, s3⟩ := S9.out.rs.free
            obtain ⟨r0, r1, r2, r3⟩ := S9.out.rs.cells
            obtain ⟨b0, b1, b2, b3⟩ := S9.out.bx.cells
            rw [HPr.out.ff] at b0 HF
            unfold nilV at r1 r2 r3
            clear he hs HV
            generalize encR n = E at *
            go_wp2
            obtain ⟨g3, g4, g5⟩ := HF.out
            obtain ⟨u0, u1, u2, u3⟩ := g4.cells
            refine @bodyPost_ret Tryz.prog Tryz.f46 (fun e w' => DecGives ⟨n, 0⟩ w w' e) _ _ (.tuple #[nV false (.slice aoK n.ks.length capK) (.slice aoC n.cs.length capC) (.slice aoP n.ps.length capP), .int .i64 0]) ?_ ?_ ?_
            · simp [results, nV, go_sem, u0, u1, u2, u3]
            · rfl
            · exact ⟨⟨_, _, _, by rw [HPr.out.ff], g3⟩, g5⟩
          · have hs' : ((bs (encR n).s).toList == (bs S).toList) = false := by rw [bs_list, bs_list]; simpa using hs
            have hx : X = ⟨noN, 4⟩ := by rw [HV.out, if_neg (fun h => hs h.2)]
            subst hx
            clear he hs HV
            generalize encR n = E at *
            have HF := hid S9.out.nil
            have hls := S9.out.rs.lt
            obtain ⟨s0, s1, s2, s3⟩ := S9.out.rs.free
            obtain ⟨r0, r1, r2, r3⟩ := S9.out.rs.cells
            unfold nilV at r1 r2 r3
            go_wp2
            obtain ⟨g4, g5⟩ := HF.out
            obtain ⟨u0, u1, u2, u3⟩ := g4.cells
            unfold nilV at u0 u1 u2 u3
            refine @bodyPost_ret Tryz.prog Tryz.f46 (fun e w' => DecGives ⟨noN, 4⟩ w w' e) _ _ (.tuple #[nV false nilV nilV nilV, .int .i64 4]) ?_ ?_ ?_
            · simp [results, nV, nilV, go_sem, u0, u1, u2, u3]
            · rfl
            · exact ⟨⟨nilV, nilV, nilV, rfl, nat_no _⟩, g5⟩
        · have he' : ((encR n).e != 0) = true := by simpa using he
          have hx : X = ⟨noN, 4⟩ := by rw [HV.out, if_neg (fun h => he h.1)]
          subst hx
          clear he HV
          generalize encR n = E at *
          have HF := hid S9.out.nil
          have hls := S9.out.rs.lt
          obtain ⟨s0, s1, s2, s3⟩ := S9.out.rs.free
          obtain ⟨r0, r1, r2, r3⟩ := S9.out.rs.cells
          unfold nilV at r1 r2 r3
          go_wp2
          obtain ⟨g4, g5⟩ := HF.out
          obtain ⟨u0, u1, u2, u3⟩ := g4.cells
          unfold nilV at u0 u1 u2 u3
          refine @bodyPost_ret Tryz.prog Tryz.f46 (fun e w' => DecGives ⟨noN, 4⟩ w w' e) _ _ (.tuple #[nV false nilV nilV nilV, .int .i64 4]) ?_ ?_ ?_
          · simp [results, nV, nilV, go_sem, u0, u1, u2, u3]
          · rfl
          · exact ⟨⟨nilV, nilV, nilV, rfl, nat_no _⟩, g5⟩
set_option maxRecDepth 100000 in
set_option maxHeartbeats 1000000 in
theorem rdecode_any (S : Bs) (w : World) : Calls Tryz.prog 46 #[.string (bs S)] w fun e w' => DecGives (rdecR S) w w' e := by
  by_cases hl : S.length = 232
  · by_cases h1 : (S[0]'(by omega)).toNat = 1
    · exact rdecode_leaf S hl h1 w
    · exact rdecode_inner S hl h1 w
  · have hz := bs_size S
    have hl2 : (((bs S).size : Int) != 232) = true := by simp only [bne, Bool.not_eq_true', beq_eq_false_iff_ne]; omega
    rw [rdecR_short hl]
    have N0 := hid (Nb.new false nilV nilV nilV w)
    have B0 := hid ((Below.refl w.heap.size w).alloc (Nat.le_refl _) noObj)
    obtain ⟨s0, s1, s2, s3⟩ := N0.out.free
    obtain ⟨r0, r1, r2, r3⟩ := N0.out.cells
    have hls := N0.out.lt
    clear hz hl
    go_enter Tryz.func46, Tryz.ntmps46
    go_wp2
    obtain ⟨u0, u1, u2, u3⟩ := N0.out.cells
    unfold nilV at u0 u1 u2 u3
    refine @bodyPost_ret Tryz.prog Tryz.f46 (fun e w' => DecGives ⟨noN, 1⟩ w w' e) _ _ (.tuple #[nV false nilV nilV nilV, .int .i64 1]) ?_ ?_ ?_
    · simp [results, nV, nilV, go_sem, u0, u1, u2, u3]
    · rfl
    · exact ⟨⟨nilV, nilV, nilV, rfl, nat_no _⟩, B0.out⟩
end No
end Go.Proofs.YtoifhcmgeackdaaGreatDoor
