package tests

import (
	"strconv"
	"strings"
	"testing"

	"loop.example/g00689/impl"
)

// signsSet has so many nodes: a variable within signs, each within the next.
func signsSet(n int) impl.Set {
	nodes := []impl.Node{varNode("x")}
	for len(nodes) < n-2 {
		nodes = append(nodes, kidsNode(impl.NkNeg, len(nodes)-1))
	}
	return returnSet(nodes...)
}

// loopsSet has so many loops within one another, of so many rounds.
func loopsSet(loops, rounds int) impl.Set {
	nodes := []impl.Node{kidsNode(impl.NkBlock)}
	for range loops {
		nodes = append(nodes, nodeOf(impl.NkFor, "i", rounds, len(nodes)-1), kidsNode(impl.NkBlock, len(nodes)))
	}
	return bodySet(nodes...)
}

func TestDeepSigns(t *testing.T) {
	p := signsSet(impl.MaxTree)
	signs := impl.MaxTree - 3
	text := strings.Repeat("(-", signs) + "x" + strings.Repeat(")", signs)
	wantSetText(t, p, "proc p() { return "+text+"; }\n")
	wantExprText(t, p, signs, text)
	wantExprText(t, p, 0, "x")
	wantExprText(t, p, 1, "(-x)")
	wantExprText(t, p, signs+1, "")
	wantBound(t, p, 0, 2)
	wantCount(t, p, 0, 1)
	wantOk(t, "signs in signs", p, false, true)
	wantNoTree(t, "one sign more", signsSet(impl.MaxTree+1))
	p.L[0].Kind = 99
	wantNoTree(t, "signs around nothing", p)
}

// The variable is as long as it may be, so that a text that is copied at each node would be seen.
func TestDeepSignsOfLongVariables(t *testing.T) {
	p := signsSet(impl.MaxTree)
	p.L[0].S = strings.Repeat("y", 4*impl.MaxSrc-1)
	signs := impl.MaxTree - 3
	text := strings.Repeat("(-", signs) + p.L[0].S + strings.Repeat(")", signs)
	for range 100 {
		wantSetText(t, p, "proc p() { return "+text+"; }\n")
		wantExprText(t, p, signs, text)
	}
	wantOk(t, "signs around a long variable", p, false, true)
	p.L[0].S += "yy"
	wantNoTree(t, "signs around one that is too long", p)
}

func TestDeepSums(t *testing.T) {
	left, right := []impl.Node{numNode(7)}, []impl.Node{}
	for len(left) < impl.MaxTree-3 {
		left = append(left, numNode(7), kidsNode(impl.NkSub, len(left)-1, len(left)))
	}
	for len(right) < (impl.MaxTree-4)/2 {
		right = append(right, numNode(7))
	}
	n := len(right)
	right = append(right, numNode(7))
	for i := n - 1; i >= 0; i-- {
		right = append(right, kidsNode(impl.NkSub, i, len(right)-1))
	}
	leftText := strings.Repeat("(", n) + "7" + strings.Repeat(" - 7)", n)
	rightText := strings.Repeat("(7 - ", n) + "7" + strings.Repeat(")", n)
	for text, nodes := range map[string][]impl.Node{leftText: left, rightText: right} {
		p := returnSet(nodes...)
		if len(p.L) < impl.MaxTree-2 {
			t.Fatal(len(p.L))
		}
		wantSetText(t, p, "proc p() { return "+text+"; }\n")
		wantExprText(t, p, len(nodes)-1, text)
		wantOk(t, "sums in sums", p, false, true)
		wantBound(t, p, 0, 2)
		wantCount(t, p, 0, 1)
	}
}

func TestDeepLoops(t *testing.T) {
	loops := (impl.MaxTree - 1) / 2
	for rounds, bound := range map[int]int{0: 3, 1: 1 + 3*loops, 2: mostBound, 4: mostBound, 1000000000: mostBound} {
		p := loopsSet(loops, rounds)
		wantBound(t, p, 0, bound)
		wantCount(t, p, 0, loops)
		wantOk(t, "loops in loops", p, false, false)
		wantSetText(t, p, "proc p() { "+strings.Repeat("for i in "+strconv.Itoa(rounds)+" { ", loops)+strings.Repeat("} ", loops)+"}\n")
		wantExprText(t, p, 0, "")
	}
	over := loopsSet(loops+1, 1)
	wantNoTree(t, "one loop more", over)
	// As many loops as there may be statements to be run.
	wantOk(t, "the most loops", loopsSet(4*impl.MaxStmts+1, 1), false, true)
	wantOk(t, "a loop more", loopsSet(4*impl.MaxStmts+2, 1), false, false)
	wantOk(t, "the most loops that may be written", loopsSet(impl.MaxStmts, 1), true, true)
	wantOk(t, "a loop more than may be written", loopsSet(impl.MaxStmts+1, 1), false, true)
}

func TestDeepChoices(t *testing.T) {
	for _, behind := range []bool{false, true} {
		nodes := []impl.Node{kidsNode(impl.NkBlock)}
		choices := 0
		for len(nodes)+4 <= impl.MaxTree {
			k := len(nodes)
			nodes = append(nodes, numNode(1), kidsNode(impl.NkBlock), kidsNode(impl.NkIf, k, k-1, k+1), kidsNode(impl.NkBlock, k+2))
			if behind {
				nodes[k+2].Kids = []int{k, k + 1, k - 1}
			}
			choices++
		}
		p := bodySet(nodes...)
		text := strings.Repeat("if (1) { ", choices) + strings.Repeat("} else { } ", choices)
		if behind {
			text = strings.Repeat("if (1) { } else { ", choices) + strings.Repeat("} ", choices)
		}
		wantSetText(t, p, "proc p() { "+text+"}\n")
		wantExprText(t, p, len(nodes)-4, "1")
		wantBound(t, p, 0, 1+choices)
		wantCount(t, p, 0, choices)
		wantOk(t, "choices in choices", p, false, false)
	}
}
