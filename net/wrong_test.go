package net_test

import (
	"math"
	"strings"
	"testing"

	"gradine/api"
	"gradine/net"
)

// TestFull: what is sent beyond 400 is lost, the last ones, and is not counted.
func TestFull(t *testing.T) {
	for _, there := range []int{0, 1, 398, 399, 400} {
		for _, more := range []int{0, 1, 2, 3, 399, 400, 401, 900} {
			n := carrying(t, numbered(there), "other")
			fit := min(more, most-there)
			l := strings.Fields(numbered(there + more))
			checkSend(t, n, 0, strings.Join(l[there:], " "), fit)
			checkLens(t, n, there+fit, 1)
			checkWays(t, n, strings.Join(l[:there+fit], " "), "other")
		}
	}
}

// TestRoomComesBack: a full way takes as many as were taken, lost or cleared.
func TestRoomComesBack(t *testing.T) {
	n := carrying(t, numbered(most))
	checkSend(t, n, 0, "a", 0)
	checkTake(t, n, 0, 7, "7")
	checkSend(t, n, 0, "a b", 1)
	checkLose(t, n, 0, 0, api.OK)
	checkLose(t, n, 0, 0, api.OK)
	checkSend(t, n, 0, "c d e", 2)
	checkTake(t, n, 0, 399, "d")
	checkTwice(t, n, 0, 398, api.OK)
	checkTwice(t, n, 0, 0, api.ErrFull)
	checkTake(t, n, 0, 399, "c")
	checkTake(t, n, 0, 398, "c")
	checkTake(t, n, 0, 397, "a")
	checkTake(t, n, 0, 0, "2")
	n.Clear(0)
	checkSend(t, n, 0, numbered(500), most)
	checkLens(t, n, most)
}

// TestTwiceOnAFullWay: there is no room, and nothing is changed; of no such frame that is told ahead of it.
func TestTwiceOnAFullWay(t *testing.T) {
	n := carrying(t, numbered(399), "other")
	checkTwice(t, n, 0, 5, api.OK)
	for _, i := range []int{0, 5, 398, 399} {
		checkTwice(t, n, 0, i, api.ErrFull)
	}
	for _, i := range wrongPlaces(most) {
		checkTwice(t, n, 0, i, api.ErrNone)
	}
	checkTurn(t, n, 0, 0, 399, api.OK)
	checkTurn(t, n, 0, 399, 0, api.OK)
	checkWays(t, n, numbered(399)+" 5", "other")
}

// TestEachWayHasItsRoom: one that is full leaves the others theirs.
func TestEachWayHasItsRoom(t *testing.T) {
	n := net.New(32)
	for way := range 32 {
		checkSend(t, n, way, numbered(401), most)
	}
	if n.All() != 32*most {
		t.Error(n.All())
	}
	for way := range 32 {
		checkTwice(t, n, way, 0, api.ErrFull)
	}
	n.Clear(9)
	checkTwice(t, n, 8, 0, api.ErrFull)
	checkSend(t, n, 9, "a", 1)
	checkTwice(t, n, 9, 0, api.OK)
}

// TestNoSuchFrame: nothing is answered, and nothing changed.
func TestNoSuchFrame(t *testing.T) {
	for _, size := range []int{0, 1, 2, 5, 399} {
		n := carrying(t, "a b", numbered(size), "c")
		for _, i := range wrongPlaces(size) {
			checkNoTake(t, n, 1, i, api.ErrNone)
			checkTwice(t, n, 1, i, api.ErrNone)
			checkLose(t, n, 1, i, api.ErrNone)
			checkTurn(t, n, 1, i, i, api.ErrNone)
			checkTurn(t, n, 1, 0, i, api.ErrNone)
			checkTurn(t, n, 1, i, 0, api.ErrNone)
		}
		checkWays(t, n, "a b", numbered(size), "c")
	}
}

// TestNoSuchWay: likewise.
func TestNoSuchWay(t *testing.T) {
	for _, ways := range [][]string{{}, {"a b"}, {"a b", "c", ""}} {
		n := carrying(t, ways...)
		for _, way := range append(wrongPlaces(len(ways)), 31, 32, 33) {
			checkSend(t, n, way, "x y", 0)
			checkNoTake(t, n, way, 0, api.ErrNone)
			checkTwice(t, n, way, 0, api.ErrNone)
			checkLose(t, n, way, 0, api.ErrNone)
			checkTurn(t, n, way, 0, 0, api.ErrNone)
			checkTurn(t, n, way, 0, 1, api.ErrNone)
			if n.Len(way) != 0 {
				t.Errorf("%d on way %d", n.Len(way), way)
			}
			n.Clear(way)
		}
		checkWays(t, n, ways...)
	}
}

// TestFramesOfOtherWays: there is none, where another way alone has as many.
func TestFramesOfOtherWays(t *testing.T) {
	n := carrying(t, "a b c", "d")
	checkNoTake(t, n, 1, 1, api.ErrNone)
	checkTwice(t, n, 1, 2, api.ErrNone)
	checkLose(t, n, 1, 1, api.ErrNone)
	checkTurn(t, n, 1, 0, 1, api.ErrNone)
	checkWays(t, n, "a b c", "d")
}

// TestNil: of no net nothing is told, and nothing done.
func TestNil(t *testing.T) {
	var n *net.Net
	places := []int{0, 1, 31, 32, -1, most, math.MaxInt, math.MinInt}
	for _, way := range places {
		checkSend(t, n, way, "a b", 0)
		if n.Send(way, nil) != 0 || n.Len(way) != 0 || n.All() != 0 {
			t.Errorf("way %d: something is on it", way)
		}
		for _, i := range places {
			checkNoTake(t, n, way, i, api.ErrNil)
			checkTwice(t, n, way, i, api.ErrNil)
			checkLose(t, n, way, i, api.ErrNil)
			checkTurn(t, n, way, i, 0, api.ErrNil)
			checkTurn(t, n, way, 0, i, api.ErrNil)
		}
		n.Clear(way)
	}
}
