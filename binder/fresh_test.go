package binder_test

import (
	"slices"
	"strconv"
	"strings"
	"testing"

	"plinth/binder"
)

// P5.2: Fresh.
func TestFresh(t *testing.T) {
	long := strings.Repeat("a", 20)
	for _, c := range []struct{ x, used, want string }{
		// What is not among them stays, whatever it is.
		{"x", "", "x"}, {"x", "y x_1 X", "x"}, {"x_3", "x", "x_3"}, {"x_03", "x", "x_03"}, {long + "bcd", "a", long + "bcd"}, {"1 2", "1", "1 2"}, {"", "x", ""},
		// The least number from 1 on.
		{"x", "x", "x_1"}, {"x", "x x_1", "x_2"}, {"x", "x_2 x_1 x", "x_3"}, {"x", "x x_2", "x_1"}, {"x", "x x_1 x_3", "x_2"}, {"x", "x x_0", "x_1"}, {"x", "x x x_1 x_1", "x_2"}, {"x", "x x_01", "x_1"},
		// Its own number goes, 0 too; one with zeros ahead is none.
		{"x_3", "x_3", "x_1"}, {"x_3", "x_3 x_1", "x_2"}, {"x_1", "x_1", "x_2"}, {"x_1", "x_1 x", "x_2"}, {"x_0", "x_0", "x_1"}, {"x_99999999999999999999", "x_99999999999999999999", "x_1"}, {"x_1_2", "x_1_2", "x_1_1"}, {"x_1_2", "x_1_2 x_1_1", "x_1_3"}, {"x_1_1", "x_1_1", "x_1_2"},
		{"x_01", "x_01", "x_01_1"}, {"x_00", "x_00", "x_00_1"}, {"x_", "x_", "x__1"}, {"x__4", "x__4", "x__1"}, {"x1", "x1", "x1_1"}, {"x_1a", "x_1a", "x_1a_1"}, {"x_-1", "x_-1", "x_-1_1"}, {"x_+1", "x_+1", "x_+1_1"},
		// A base that would be empty stays.
		{"_1", "_1", "_1_1"}, {"_0", "_0", "_0_1"}, {"_", "_", "__1"}, {"__1", "__1", "__2"}, {"1", "1", "1_1"},
		// At most 20 bytes: the name's own are cut.
		{long[:18], long[:18], long[:18] + "_1"}, {long[:19], long[:19], long[:18] + "_1"}, {long, long, long[:18] + "_1"}, {long + "bcd", long + "bcd", long[:18] + "_1"}, {long[:18] + "_5", long[:18] + "_5", long[:18] + "_1"}, {long + "_5", long + "_5", long[:18] + "_1"},
		{long[:17] + "b_2", long[:17] + "b_2 " + long[:17] + "b_1", long[:17] + "b_3"}, {long[:17] + "_5b", long[:17] + "_5b", long[:17] + "__1"}, {long[:16] + "_55b", long[:16] + "_55b", long[:16] + "_5_1"},
	} {
		used := strings.Fields(c.used)
		before := slices.Clone(used)
		if got := binder.Fresh(c.x, used); got != c.want {
			t.Errorf("Fresh(%s, %s): %s, want %s", c.x, c.used, got, c.want)
		}
		if !slices.Equal(used, before) {
			t.Errorf("Fresh(%s, %s) has changed the names", c.x, c.used)
		}
	}
	if got := binder.Fresh("", []string{""}); got != "_1" {
		t.Errorf("Fresh of the empty name: %q", got)
	}
}

// P5.2: with many names used, the number is the next one, and more bytes are cut.
func TestFreshOfMany(t *testing.T) {
	base := "abcdefghijklmnopqrst"
	used := []string{base}
	for n := 1; n <= 1200; n++ {
		end := "_" + strconv.Itoa(n)
		if got, want := binder.Fresh(base, used), base[:20-len(end)]+end; got != want {
			t.Fatalf("Fresh with %d used: %s, want %s", n, got, want)
		}
		used = append(used, base[:20-len(end)]+end)
	}
}
