/- Package pagemap: the iterator of held, function 53. -/
import Derived.Test.YtdjfeibcbmelcaaLg46
namespace Go.Proofs.Ytdjfeibcbmelcaa
open Go.RowKit Go.Shelf

attribute [local go_sem] Oper.semAt_some

set_option maxRecDepth 100000 in
set_option maxHeartbeats 1000000 in
theorem it53_in (n : Nat) (l : Nat) {Zs : Nat → Prop} {b1 b2 A N f : Nat} {V : Nat → Int} (hN : N ≤ 16) (hf : f ≤ 9223372036854775807) (z2 : ¬ Zs b2) (zA : ¬ Zs A) (J Jx : List Nat → World → Prop)
    (hY : ∀ pre x W, x < N → V x ≠ 0 → J pre W → pre.length < N → YieldAt Fence.wide (n - 1) Try.prog l #[.int .i64 x, .int .i64 (V x)] W fun e W' =>
      (e = .returned (.bool true) ∧ J (pre ++ [x]) W' ∧ KpC Zs W W') ∨ (e = .returned (.bool false) ∧ Jx (pre ++ [x]) W'))
    (W : World) (x1 : Boxed W b1 3 (.int .i64 f)) (x2 : Boxed W b2 61 (.slice (some ⟨A, 0, none⟩) N N)) (xA : Cl W A N (fun i => .int .i64 (V i))) (h0 : J [] W) :
    CallsIn Fence.wide n Try.prog 53 #[.func (.yield l) #[] #[], .pointer (some ⟨b1, 0, none⟩), .pointer (some ⟨b2, 0, none⟩)] W fun e W' => (∃ v, e = .returned v) ∧
      ((∃ ys, ys = hl (fun i => V i != 0) f N ∧ J ys W') ∨ (∃ pre, pre <+: hl (fun i => V i != 0) f N ∧ Jx pre W')) := by
  have HY := Lib.hid hY
  have HX2 := Lib.hid (fun (wr : World) (k : KpC Zs W wr) => (bx_kp x2 (by decide) z2 k).cell)
  have HXA := Lib.hid (fun (wr : World) (k : KpC Zs W wr) (i : Nat) (hi : i < N) => (xA.kp zA k).cell i hi)
  have H0 := Lib.hid h0
  clear hY z2 zA xA h0
  refine callsIn_of_wp Try.func53 rfl trivial ?_ rfl
  simp only [Try.ntmps53, List.size_toArray, List.length_cons, List.length_nil, Nat.reduceAdd, Nat.reduceSub, Array.replicate_succ, Array.replicate_zero, List.push_toArray, List.append_toArray, List.nil_append, List.cons_append]
  have c1 := x1.cell
  clear x1 x2
  gi_wp2
  gi_loopw [5] (fun q wr => ∃ (k : Nat) (ys : List Nat), q = .int .i64 k ∧ k ≤ f + N + 1 ∧ ys ++ hl (fun i => V i != 0) k N = hl (fun i => V i != 0) f N ∧ KpC Zs W wr ∧ J ys wr) (fun q _ => f + N + 2 - (intOf q).toNat)
  case atStart => exact ⟨f, [], rfl, by omega, rfl, KpC.refl _ _, H0.out⟩
  case round =>
    obtain ⟨k, ys, rfl, hkf, hle, hK, hJs⟩ := hrel
    have c2 := HX2.out wr hK
    have HL := Lib.hid hle
    have HK := Lib.hid hK
    have HJ := Lib.hid hJs
    by_cases hlt : k < N
    · have c0 := HXA.out wr hK k hlt
      clear hle hK hJs c1
      by_cases hV : V k = 0
      · have hC := HL.out
        rw [hl_miss hlt (by show (V k != 0) = false; rw [hV]; rfl)] at hC
        have HC := Lib.hid hC
        rw [hV] at c0
        clear hC hV
        gi_wp2
        refine ⟨(fun _ h => nomatch h), ?_⟩
        gi_wp2
        go_roundw
        case rel => exact ⟨k + 1, ys, by go_num, by omega, HC.out, HK.out, HJ.out⟩
        case measure => simp [intOf]; omega
      · have hC := HL.out
        rw [hl_hit hlt (by show (V k != 0) = true; simpa using hV)] at hC
        have hC2 := hC
        rw [← List.singleton_append, ← List.append_assoc] at hC2
        have HC := Lib.hid hC2
        have hyl : ys.length < N := by have := hl_len (fun i => V i != 0) f N; have h2 := congrArg List.length hC; simp at h2; omega
        obtain ⟨fn, tmps, assign, body, hy, hR⟩ := HY.out ys k wr hlt (by simpa using hV) HJ.out hyl
        have hq : (V k == 0) = false := by simpa using hV
        have hq2 : (V k != 0) = true := by simpa using hV
        generalize V k = x at hy c0 hV hq hq2
        have hR2 := hR.mono (R' := fun e W' => ∃ c : Bool, e = .returned (.bool c) ∧ YBoth (J (ys ++ [k]) W' ∧ KpC Zs wr W') (Jx (ys ++ [k]) W') c) (fun e W' h => by
          rcases h with ⟨h1, h2⟩ | ⟨h1, h2⟩
          · exact ⟨true, h1, (fun _ => h2), (fun h => nomatch h)⟩
          · exact ⟨false, h1, (fun h => nomatch h), (fun _ => h2)⟩)
        have HR2 := Lib.hid hR2
        clear hR hC hC2 hV hR2 hyl
        gi_wp2_with (refine ⟨(fun h => nomatch h), ?_⟩; refine HR2.out.mono ?_; rintro e W3 ⟨c, rfl, hYB⟩; have HYB := Lib.hid hYB; clear hYB)
        all_goals cases c
        all_goals first
          | (rename_i hh; simp at hh; done)
          | (gi_wp2
             refine bodyPost_ret (results_none rfl _ _ _) rfl ?_
             exact ⟨⟨_, rfl⟩, .inr ⟨_, ⟨_, HC.out⟩, HYB.out.2 rfl⟩⟩)
          | (have h3 := HYB.out.1 rfl
             exact ⟨⟨k + 1, ys ++ [k], by go_num, by omega, HC.out, HK.out.trans h3.2, h3.1⟩, by simp [intOf]; omega⟩)
    · have hC := hle
      rw [hl_end (by omega), List.append_nil] at hC
      have HC := Lib.hid hC
      clear hle hK hJs c1 hC
      gi_wp2
      go_end0
      exact ⟨⟨_, rfl⟩, .inl ⟨ys, HC.out, HJ.out⟩⟩

abbrev El53 (V : Nat → Int) (N : Nat) := { x : Nat // x < N ∧ (fun i => V i != 0) x = true }
def enc53 (V : Nat → Int) (N : Nat) : El53 V N → Array Value := fun x => #[.int .i64 x.1, .int .i64 (V x.1)]
theorem it53_stops (n : Nat) {Zs : Nat → Prop} {b1 b2 A N f : Nat} {V : Nat → Int} (hN : N ≤ 16) (hf : f ≤ 9223372036854775807) (z1 : ¬ Zs b1) (z2 : ¬ Zs b2) (zA : ¬ Zs A) (w : World) (x1 : Boxed w b1 3 (.int .i64 f)) (x2 : Boxed w b2 61 (.slice (some ⟨A, 0, none⟩) N N)) (xA : Cl w A N (fun i => .int .i64 (V i))) :
    SeqStopsK Fence.wide n Try.prog 53 #[.pointer (some ⟨b1, 0, none⟩), .pointer (some ⟨b2, 0, none⟩)] (enc53 V N) (KpC Zs) (fun ys => ys.map (·.1) = hl (fun i => V i != 0) f N) (fun pre => pre.map (·.1) <+: hl (fun i => V i != 0) f N) N w := fun l J Jx W hW _ _ hY h0 => by
  have hbW : KpC Zs w W := (KpC.refl Zs w).below hW
  have := it53_in n l hN hf z2 zA (V := V) (fun s W => ∃ la : List (El53 V N), la.map (·.1) = s ∧ J la W) (fun s W => ∃ la : List (El53 V N), la.map (·.1) = s ∧ Jx la W)
    (fun pre x W hx hc hj hl => by
      obtain ⟨la, e, h⟩ := hj
      refine (hY la ⟨x, hx, by simpa using hc⟩ W h (by have := congrArg List.length e; rw [List.length_map] at this; omega)).mono fun e' W' hp => ?_
      rcases hp with ⟨q1, q2, q3⟩ | ⟨q1, q2⟩
      · exact .inl ⟨q1, ⟨_, by rw [List.map_append, e]; rfl, q2⟩, q3⟩
      · exact .inr ⟨q1, ⟨_, by rw [List.map_append, e]; rfl, q2⟩⟩) W (bx_kp x1 (by decide) z1 hbW) (bx_kp x2 (by decide) z2 hbW) (xA.kp zA hbW) ⟨[], rfl, h0⟩
  refine this.mono fun e W' hp => ⟨hp.1, ?_⟩
  rcases hp.2 with ⟨ys, e1, la, e2, h⟩ | ⟨pre, e1, la, e2, h⟩
  · exact .inl ⟨la, e2.trans e1, h⟩
  · exact .inr ⟨la, by subst e2; exact e1, h⟩

end Go.Proofs.Ytdjfeibcbmelcaa
