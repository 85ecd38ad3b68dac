package tests

import (
	"strings"

	"loop.example/boxball/impl"
)

// someRooms are the rooms on which the promises of the carriers are tested.
var someRooms = []int{1, 2, 3, 4, 5, 30, 59, 60, 61, 119, 120, 121, 199, impl.RoomMax}

// zeros returns n empty boxes.
func zeros(n int) string {
	return strings.Repeat("0", n)
}

// ones returns n boxes with balls.
func ones(n int) string {
	return strings.Repeat("1", n)
}

// stepped returns the tidy text behind a step of a row, however long, and the loads ahead of each sign and behind the last one.
func stepped(s string, room int) (string, []int) {
	signs := []byte(s + zeros(len(s)))
	load := 0
	loads := []int{0}
	for i, sign := range signs {
		if sign == '1' && load < room {
			signs[i], load = '0', load+1
		} else if sign == '0' && load > 0 {
			signs[i], load = '1', load-1
		}
		loads = append(loads, load)
	}
	return tidied(string(signs)), loads[:len(s)+1]
}

// steppedBack returns the tidy text whose step is a row, and whether there is one.
func steppedBack(s string, room int) (string, bool) {
	signs := []byte(s)
	load := 0
	for i := len(signs) - 1; i >= 0; i-- {
		if signs[i] == '1' && load < room {
			signs[i], load = '0', load+1
		} else if signs[i] == '0' && load > 0 {
			signs[i], load = '1', load-1
		}
	}
	if load > 0 {
		return "", false
	}
	return tidied(string(signs)), true
}
