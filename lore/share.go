package lore

import "sync"

// done is what a script is answered, and the script's number.
type done struct {
	number  int
	answers []string
}

// share lets so many workers answer scripts of a program that New lets pass.
func share(s string, scripts [][]string, workers int) [][]string {
	numbers := make(chan int)
	finished := make(chan done, workers) // so that no worker waits till its answers are taken
	var all sync.WaitGroup
	for range workers {
		all.Add(1)
		go func() {
			defer all.Done()
			for n := range numbers {
				answers, _, _ := Run(s, scripts[n])
				finished <- done{n, answers}
			}
		}()
	}
	answers := sendAndTake(len(scripts), numbers, finished)
	close(numbers)
	all.Wait()
	return answers
}

// sendAndTake sends the numbers of all scripts, and takes what they are answered, in whatever order it comes.
func sendAndTake(scripts int, numbers chan<- int, finished <-chan done) [][]string {
	answers := make([][]string, scripts)
	for next, taken := 0, 0; taken < scripts; {
		if next == scripts {
			numbers = nil // through which nothing more is sent
		}
		select {
		case numbers <- next:
			next++
		case d := <-finished:
			answers[d.number] = d.answers
			taken++
		}
	}
	return answers
}
